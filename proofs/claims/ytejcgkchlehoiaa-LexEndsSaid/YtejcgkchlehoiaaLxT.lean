/- LexEnds returns true of every text, in whatever world, and turns nothing that was there. -/
import Derived.Test.YtejcgkchlehoiaaLxI
import Derived.Test.YtejcgkchlehoiaaLxS
namespace Go.Proofs.Ytejcgkchlehoiaa.lex
set_option linter.unusedSimpArgs false
set_option linter.unusedVariables false
open Go.RowKit nam

set_option maxHeartbeats 1600000 in
set_option maxRecDepth 1000000 in
theorem law_ends (s : ByteArray) (hs : s.size ≤ 140737488351232) (w : World) : Calls Try.prog 5 #[.string s] w fun e w' => e = .returned (.bool true) ∧ Below w.heap.size w w' := by
  by_cases hl : 398 < s.size
  · have hl' : (400 : Int) < (s.size : Int) + 2 := by omega
    have hsz : (s.size : Int) ≤ 1000000000000000 := by omega
    clear hs hl
    go_enter Try.func5, Try.ntmps5
    go_wp2_with fail
    refine (works_any _).mono ?_
    rintro e w1 ⟨rfl, hb⟩
    have HB := Lib.hid hb; clear hb
    go_wp2_with fail
    go_ret
    exact ⟨rfl, HB.out⟩
  · have hl' : ¬ (400 : Int) < (s.size : Int) + 2 := by omega
    have hsz : (s.size : Int) ≤ 398 := by omega
    have hrl := rn_length s 0
    obtain ⟨l, p, c, h1⟩ : ∃ l p c, toksO s = (l, p, c) := ⟨_, _, _, rfl⟩
    rcases ends_of (s := s) (by omega) with ⟨hc, h2⟩ | ⟨hc, h2⟩
    · obtain ⟨l2, p2, c2, h3⟩ : ∃ l p c, toksO (s ++ tail2) = (l, p, c) := ⟨_, _, _, rfl⟩
      rw [h1] at hc h2
      rw [h3] at h2
      dsimp only at hc h2
      subst h2
      unfold tail2 at h3
      have hcb : (c2 != 0) = true := by simpa using hc
      have HT1 := Lib.hid (fun w => tokens_of h1 w)
      have HT2 := Lib.hid (fun w => tokens_of h3 w)
      clear hs hl hc h1 h3
      go_enter Try.func5, Try.ntmps5
      go_wp2_with fail
      refine (HT1.out _).mono ?_
      rintro e w1 ⟨v1, rfl, _, hb⟩
      have HB := Lib.hid hb; clear hb
      go_wp2_with fail
      refine (HT2.out _).mono ?_
      rintro e w2 ⟨v2, rfl, _, hb⟩
      have HB := Lib.hid (below_on' HB.out hb); clear hb
      go_wp2_with fail
      refine (works_any _).mono ?_
      rintro e w3 ⟨rfl, hb⟩
      have HB := Lib.hid (below_on' HB.out hb); clear hb
      go_wp2_with fail
      go_ret
      exact ⟨rfl, HB.out⟩
    · rw [h1] at hc
      dsimp only at hc
      subst hc
      unfold tail2 at h2
      have HT1 := Lib.hid (fun w => tokens_of h1 w)
      have HT2 := Lib.hid (fun w => tokens_of h2 w)
      clear hs hl h1 h2
      go_enter Try.func5, Try.ntmps5
      go_wp2_with fail
      refine (HT1.out _).mono ?_
      rintro e w1 ⟨v1, rfl, _, hb⟩
      have HB := Lib.hid hb; clear hb
      go_wp2_with fail
      refine (HT2.out _).mono ?_
      rintro e w2 ⟨v2, rfl, _, hb⟩
      have HB := Lib.hid (below_on' HB.out hb); clear hb
      go_wp2_with fail
      go_loopw [9] (fun n w' => ∃ pos many : Nat, w' = w2.iter s pos ∧ n = .int .i64 many ∧ many + (rn s pos).length = (rn s 0).length) (fun _ w' => s.size - w'.iterPos w2.heap.size)
      case atStart => exact ⟨0, 0, rfl, rfl, by omega⟩
      case round =>
        obtain ⟨pos, many, rfl, rfl, hc⟩ := hrel
        by_cases hp : pos < s.size
        · have hnx : ∀ ty, (Instr.next (.pointer (some ⟨w2.heap.size, 0, none⟩)) true ty).run Try.prog (w2.iter s pos) = _ := fun ty => run_next_any w2 s pos ty hp
          have hwd := width_pos s pos hp
          have hst := congrArg List.length (rn_step s pos hp)
          rw [List.length_cons] at hst
          have hm : (many : Int) + 1 ≤ 9223372036854775807 := by omega
          have HC := Lib.hid hc
          have HS := Lib.hid hst
          clear hc hst
          go_wp2_with fail
          go_roundw
          case rel => exact ⟨pos + (Utf8.decode s pos).2, many + 1, rfl, by go_num, by have := HC.out; have := HS.out; omega⟩
          case measure => simp; omega
        · have hnx : ∀ ty, (Instr.next (.pointer (some ⟨w2.heap.size, 0, none⟩)) true ty).run Try.prog (w2.iter s pos) = _ := fun ty => run_next_end w2 s pos ty hp
          rw [rn_end s pos hp] at hc
          obtain rfl : many = (rn s 0).length := by simpa using hc
          have hm : ((rn s 0).length : Int) + 1 ≤ 9223372036854775807 := by omega
          have HI := Lib.hid (below_iter w2 s pos)
          clear hc
          go_wp2_with fail
          refine (works_any _).mono ?_
          rintro e w3 ⟨rfl, hb⟩
          have HB := Lib.hid (below_on' (below_on' HB.out HI.out) hb); clear hb
          go_wp2_with fail
          go_ret
          exact ⟨rfl, HB.out⟩
end Go.Proofs.Ytejcgkchlehoiaa.lex
