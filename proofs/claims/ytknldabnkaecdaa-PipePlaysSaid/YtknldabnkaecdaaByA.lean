/- What bytes.turnedForm and bytes.ofTurnedForm answer of every number. -/
import Derived.Test.YtknldabnkaecdaaRows
import Derived.Test.YtknldabnkaecdaaByP
import Derived.WalkKit
import Derived.BigQuiet
import Derived.Handy
import Derived.Lib.Hide
namespace Go.Proofs.Ytknldabnkaecdaa.byt
open Go.RowKit

theorem ret_int {k : IntKind} {a b : Int} (h : a = b) : Ending.returned (.int k a) = .returned (.int k b) := by rw [h]

theorem turned_any (n : Int) (w : World) (hn : fits n) : Calls Try.prog 34 #[.int .i64 n] w fun e w' => e = .returned (.int .u64 (tf n)) ∧ w = w' := by
  obtain ⟨h1, h2⟩ := hn
  by_cases h : n < 0
  · have HT := Lib.hid (tf_neg h)
    go_enter Try.func34, Try.ntmps34
    go_wp2
    go_ret
    exact ⟨ret_int HT.out.symm, rfl⟩
  · have HT := Lib.hid (tf_pos h)
    go_enter Try.func34, Try.ntmps34
    go_wp2
    go_ret
    exact ⟨ret_int HT.out.symm, rfl⟩

theorem of_any (u : Nat) (w : World) (hu : u < 18446744073709551616) : Calls Try.prog 38 #[.int .u64 u] w fun e w' => e = .returned (.int .i64 (fo u)) ∧ w = w' := by
  by_cases h : u % 2 = 1
  · have HT := Lib.hid (show fo u = -1 - ((u / 2 : Nat) : Int) by unfold fo; rw [if_pos h])
    have hb : ((u : Int) % 2 == 1) = true := by simp; omega
    go_enter Try.func38, Try.ntmps38
    go_wp2
    go_ret
    exact ⟨ret_int (by rw [HT.out]; omega), rfl⟩
  · have HT := Lib.hid (show fo u = ((u / 2 : Nat) : Int) by unfold fo; rw [if_neg h])
    have hb : ((u : Int) % 2 == 1) = false := by simp; omega
    go_enter Try.func38, Try.ntmps38
    go_wp2
    go_ret
    exact ⟨ret_int (by rw [HT.out]; omega), rfl⟩

end Go.Proofs.Ytknldabnkaecdaa.byt
