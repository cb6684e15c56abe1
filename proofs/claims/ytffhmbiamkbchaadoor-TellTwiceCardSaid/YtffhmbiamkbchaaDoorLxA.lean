/- What lex.letter, digit and ones answer of a rune. -/
import Derived.Test.YtffhmbiamkbchaaDoorMNm
import Derived.Test.YtffhmbiamkbchaaDoorLxP
import Derived.Lib.OthersKept
namespace Go.Proofs.YtffhmbiamkbchaaDoor.lex
set_option linter.unusedSimpArgs false
set_option linter.unusedVariables false
open Go.RowKit nam

theorem letter_lx (r : Nat) (hr : okR r) (w : World) : Calls Tryd.prog 63 #[.int .i32 r] w fun e w' => e = .returned (.bool (letB r)) ∧ Below w.heap.size w w' := by
  have HN := Lib.hid (nameB_one r hr)
  have HO := Lib.hid (textOf_one r hr)
  go_enter Tryd.func63, Tryd.ntmps63
  go_wp2_with fail
  refine (name_any _ _).mono ?_
  rintro e w1 ⟨rfl, hb⟩
  have HB := Lib.hid hb; clear hb
  go_wp2_with fail
  go_ret
  exact ⟨ret_bool (by rw [HO.out, HN.out]), HB.out⟩
theorem letter_yes {r : Nat} (h : letB r = true) (hr : okR r) (w : World) : Calls Tryd.prog 63 #[.int .i32 r] w fun e w' => e = .returned (.bool true) ∧ Below w.heap.size w w' := by
  have := letter_lx r hr w; rwa [h] at this
theorem letter_no {r : Nat} (h : letB r = false) (hr : okR r) (w : World) : Calls Tryd.prog 63 #[.int .i32 r] w fun e w' => e = .returned (.bool false) ∧ Below w.heap.size w w' := by
  have := letter_lx r hr w; rwa [h] at this
theorem digit_lx (r : Nat) (w : World) : Calls Tryd.prog 65 #[.int .i32 r] w fun e w' => e = .returned (.bool (digB r)) ∧ w = w' := by
  go_enter Tryd.func65, Tryd.ntmps65
  go_wp2
  all_goals (go_ret; exact ⟨ret_bool (by unfold digB; rw [Bool.eq_iff_iff]; simp; omega), rfl⟩)
theorem digit_yes {r : Nat} (h : digB r = true) (w : World) : Calls Tryd.prog 65 #[.int .i32 r] w fun e w' => e = .returned (.bool true) ∧ w = w' := by
  have := digit_lx r w; rwa [h] at this
theorem digit_no {r : Nat} (h : digB r = false) (w : World) : Calls Tryd.prog 65 #[.int .i32 r] w fun e w' => e = .returned (.bool false) ∧ w = w' := by
  have := digit_lx r w; rwa [h] at this
theorem ones_lx {r d : Nat} (h : (r : Int) = 48 + d) (hd : d ≤ 9) (w : World) : Calls Tryd.prog 80 #[.int .i32 r] w fun e w' => e = .returned (.int .i64 d) ∧ w = w' := by
  have h1 : (48 : Int) ≤ r := by omega
  have h2 : (r : Int) ≤ 57 := by omega
  have H := Lib.hid h; clear h
  go_enter Tryd.func80, Tryd.ntmps80
  go_wp2
  go_ret
  exact ⟨ret_int (by have := H.out; omega), rfl⟩
end Go.Proofs.YtffhmbiamkbchaaDoor.lex
