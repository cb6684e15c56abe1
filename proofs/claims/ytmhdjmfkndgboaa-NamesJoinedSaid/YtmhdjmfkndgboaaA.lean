/- What names.letter, digit, blank and mayStand answer of a rune; changelingref01.letter is the same. -/
import Derived.Test.YtmhdjmfkndgboaaRows
import Derived.Test.YtmhdjmfkndgboaaP
import Derived.WalkKit
import Derived.BigQuiet
import Derived.Handy
import Derived.Lib.Hide
namespace Go.Proofs.Ytmhdjmfkndgboaa
open Go.RowKit

theorem ret_bool {a b : Bool} (h : a = b) : Ending.returned (.bool a) = .returned (.bool b) := by rw [h]

theorem blank_any (n : Nat) (w : World) : Calls Try.prog 23 #[.int .i32 n] w fun e w' => e = .returned (.bool (blkB n)) ∧ w = w' := by
  go_enter Try.func23, Try.ntmps23
  go_wp2
  all_goals (go_ret; exact ⟨ret_bool (by unfold blkB; rw [Bool.eq_iff_iff]; simp; omega), rfl⟩)
theorem letter_any (n : Nat) (w : World) : Calls Try.prog 24 #[.int .i32 n] w fun e w' => e = .returned (.bool (letB n)) ∧ w = w' := by
  go_enter Try.func24, Try.ntmps24
  go_wp2
  all_goals (go_ret; exact ⟨ret_bool (by unfold letB; rw [Bool.eq_iff_iff]; simp; omega), rfl⟩)
theorem digit_any (n : Nat) (w : World) : Calls Try.prog 25 #[.int .i32 n] w fun e w' => e = .returned (.bool (digB n)) ∧ w = w' := by
  go_enter Try.func25, Try.ntmps25
  go_wp2
  all_goals (go_ret; exact ⟨ret_bool (by unfold digB; rw [Bool.eq_iff_iff]; simp; omega), rfl⟩)
theorem mayStand_any (n : Nat) (w : World) : Calls Try.prog 22 #[.int .i32 n] w fun e w' => e = .returned (.bool (mayB n)) ∧ w = w' := by
  go_enter Try.func22, Try.ntmps22
  go_wp2
  all_goals (go_ret; exact ⟨ret_bool (by unfold mayB; rw [Bool.eq_iff_iff]; simp; omega), rfl⟩)
theorem refLetter_any (n : Nat) (w : World) : Calls Try.prog 26 #[.int .i32 n] w fun e w' => e = .returned (.bool (letB n)) ∧ w = w' := by
  go_enter Try.func26, Try.ntmps26
  go_wp2
  all_goals (go_ret; exact ⟨ret_bool (by unfold letB; rw [Bool.eq_iff_iff]; simp; omega), rfl⟩)
end Go.Proofs.Ytmhdjmfkndgboaa
