/- What names.letter, digit, blank and mayStand answer of a rune; changelingref01.letter is the same. -/
import Derived.Test.YtjmfneljgogohaaDoorRows
import Derived.Test.YtjmfneljgogohaaDoorNmP
import Derived.WalkKit
import Derived.BigQuiet
import Derived.Handy
import Derived.Lib.Hide
namespace Go.Proofs.YtjmfneljgogohaaDoor.nam
open Go.RowKit

theorem ret_bool {a b : Bool} (h : a = b) : Ending.returned (.bool a) = .returned (.bool b) := by rw [h]

theorem letter_any (n : Nat) (w : World) : Calls Tryd.prog 30 #[.int .i32 n] w fun e w' => e = .returned (.bool (letB n)) ∧ w = w' := by
  go_enter Tryd.func30, Tryd.ntmps30
  go_wp2
  all_goals (go_ret; exact ⟨ret_bool (by unfold letB; rw [Bool.eq_iff_iff]; simp; omega), rfl⟩)
theorem digit_any (n : Nat) (w : World) : Calls Tryd.prog 31 #[.int .i32 n] w fun e w' => e = .returned (.bool (digB n)) ∧ w = w' := by
  go_enter Tryd.func31, Tryd.ntmps31
  go_wp2
  all_goals (go_ret; exact ⟨ret_bool (by unfold digB; rw [Bool.eq_iff_iff]; simp; omega), rfl⟩)
end Go.Proofs.YtjmfneljgogohaaDoor.nam
