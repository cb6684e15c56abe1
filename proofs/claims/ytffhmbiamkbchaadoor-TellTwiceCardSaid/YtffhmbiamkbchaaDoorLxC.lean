/- What lex.number makes. -/
import Derived.Test.YtffhmbiamkbchaaDoorLxB
namespace Go.Proofs.YtffhmbiamkbchaaDoor.lex
set_option linter.unusedSimpArgs false
set_option linter.unusedVariables false
open Go.RowKit nam

set_option maxHeartbeats 2000000 in
set_option maxRecDepth 1000000 in
theorem number_lx {w : World} {B g cap r : Nat} {done : List Tok} {t : Tok} (hd : digB r = true) (h : Toks w B (.slice (some ⟨g, 0, none⟩) (done.length + 1) cap) (done ++ [t])) :
    Calls Tryd.prog 66 #[.pointer (some ⟨g, 4 * done.length, none⟩), .int .i32 r] w (MadePost w B g cap done 81 ⟨2, t.text, r - 48, t.place⟩) := by
  obtain ⟨hB, hg⟩ := toks_lt h
  obtain ⟨c1, _, c2, _, hf⟩ := last_cells h
  have hf1 := hf (4 * done.length)
  have hf2 := hf (4 * done.length + 2)
  have hd' : 48 ≤ r ∧ r ≤ 57 := by unfold digB at hd; simpa using hd
  obtain ⟨d, hrd⟩ : ∃ d, r = 48 + d := ⟨r - 48, by omega⟩
  have hd9 : d ≤ 9 := by omega
  have HR := Lib.hid (show (r : Int) = 48 + d by omega)
  have HM := Lib.hid (made_num (K := 81) (k := 2) (n := d) h)
  have HD := Lib.hid (show r - 48 = d by omega)
  clear h hf hd' hrd hd
  go_enter Tryd.func66, Tryd.ntmps66
  go_wp2_with fail
  go_region_with (go_at_call 80; ((with_reducible refine (ones_lx HR.out hd9 _).mono ?_); rintro e w1 ⟨rfl, rfl⟩))
  all_goals (go_wp2_with fail; go_ret; rw [HD.out]; exact HM.out)
end Go.Proofs.YtffhmbiamkbchaaDoor.lex
