/- SumMore, SumJoins and SumEmpty return true, in whatever world, and turn nothing that was there. -/
import Derived.Test.YtcjheicmicbmjaaW
namespace Go.Proofs.Ytcjheicmicbmjaa
open Go.RowKit

theorem bl_append (a b : ByteArray) : bl (a ++ b) = bl a ++ bl b := by
  show (a ++ b).data.toList = _
  rw [ByteArray.data_append, Array.toList_append]
theorem size_append (a b : ByteArray) : (a ++ b).size = a.size + b.size := by rw [← bl_length, bl_append, List.length_append]; rfl
theorem more_at {n : Nat} {m : List UInt8} {b : ByteArray} (h : more n (bl b) = sm m) (w : World) (hn : n < 4294967296) (hb : b.size ≤ 9223372036854775807) :
    Calls Try.prog 12 #[.int .u32 n, .string b] w fun e w' => e = .returned (.int .u32 (sm m)) ∧ w = w' := by
  have := more_any n b w hn hb; rwa [h] at this
/-- A sum of two rows, said so that no tactic opens it. -/
def Jn (n m k r : Nat) : Prop := ∀ _ : Unit, joined n m k = r
theorem join_at {n m k r : Nat} (h : Jn n m k r) (w : World) (hn : n < 4294967296) (hm : m < 4294967296) (hk : k ≤ 9223372036854775807) :
    Calls Try.prog 13 #[.int .u32 n, .int .u32 m, .int .i64 k] w fun e w' => e = .returned (.int .u32 r) ∧ w = w' := by
  have := join_any n m k w hn hm hk; rwa [h ()] at this
theorem refOf_at {s : ByteArray} {l : List UInt8} (h : bl s = l) (w : World) (hs : s.size ≤ 9223372036854775807) :
    Calls Try.prog 11 #[.string s] w fun e w' => e = .returned (.int .u32 (sm l)) ∧ w = w' := by
  have := refOf_any s w hs; rwa [h] at this

set_option maxHeartbeats 800000 in
set_option maxRecDepth 1000000 in
theorem law_more (a b : ByteArray) (ha : a.size ≤ 140737488351232) (hb : b.size ≤ 140737488351232) (w : World) : Calls Try.prog 4 #[.string a, .string b] w fun e w' => e = .returned (.bool true) ∧ Below w.heap.size w w' := by
  by_cases hl : 100000 < a.size + b.size
  · have hl' : (100000 : Int) < (a.size : Int) + (b.size : Int) := by omega
    clear hl
    go_enter Try.func4, Try.ntmps4
    go_wp2_with fail
    with_reducible refine (works_any _).mono ?_
    rintro e w1 ⟨rfl, hb⟩
    have HB := Lib.hid hb; clear hb
    go_wp2_with fail
    go_ret
    exact ⟨rfl, HB.out⟩
  · have hl' : (a.size : Int) + (b.size : Int) ≤ 100000 := by omega
    clear hl
    have HA := Lib.hid (sm_lt (bl a))
    have HM := Lib.hid (sm_more (bl a) (bl b))
    have HC := Lib.hid (bl_append a b)
    have HZ := Lib.hid (show (a ++ b).size ≤ 9223372036854775807 by rw [size_append]; omega)
    obtain ⟨x, ex⟩ : ∃ x, sm (bl a) = x := ⟨_, rfl⟩
    have HX := Lib.hid ex
    rw [ex] at HA HM
    clear ex
    go_enter Try.func4, Try.ntmps4
    go_wp2_with fail
    with_reducible refine (of_one a w (by omega)).mono ?_
    rw [HX.out]
    rintro e w1 ⟨rfl, hb⟩
    have HB := Lib.hid hb; clear hb
    go_wp2_with fail
    with_reducible refine (more_at HM.out _ HA.out (by omega)).mono ?_
    rintro e w2 ⟨rfl, rfl⟩
    go_wp2_with fail
    with_reducible refine (refOf_at HC.out _ HZ.out).mono ?_
    rintro e w2 ⟨rfl, rfl⟩
    go_wp2_with fail
    with_reducible refine (works_any _).mono ?_
    rintro e w2 ⟨rfl, hb⟩
    have HB := Lib.hid (below_on' HB.out hb); clear hb
    go_wp2_with fail
    go_ret
    exact ⟨rfl, HB.out⟩

set_option maxHeartbeats 800000 in
set_option maxRecDepth 1000000 in
theorem law_joins (a b : ByteArray) (ha : a.size ≤ 140737488351232) (hb : b.size ≤ 140737488351232) (w : World) : Calls Try.prog 5 #[.string a, .string b] w fun e w' => e = .returned (.bool true) ∧ Below w.heap.size w w' := by
  by_cases hl : 100000 < a.size + b.size
  · have hl' : (100000 : Int) < (a.size : Int) + (b.size : Int) := by omega
    clear hl
    go_enter Try.func5, Try.ntmps5
    go_wp2_with fail
    with_reducible refine (works_any _).mono ?_
    rintro e w1 ⟨rfl, hb⟩
    have HB := Lib.hid hb; clear hb
    go_wp2_with fail
    go_ret
    exact ⟨rfl, HB.out⟩
  · have hl' : (a.size : Int) + (b.size : Int) ≤ 100000 := by omega
    clear hl
    have HJ : Hid (Jn (sm (bl a)) (sm (bl b)) b.size (sm (bl a ++ bl b))) := Lib.hid (fun _ => sm_joined (bl a) (bl b))
    have HA := Lib.hid (sm_lt (bl a))
    have HB0 := Lib.hid (sm_lt (bl b))
    obtain ⟨x, ex⟩ : ∃ x, sm (bl a) = x := ⟨_, rfl⟩
    obtain ⟨y, ey⟩ : ∃ y, sm (bl b) = y := ⟨_, rfl⟩
    obtain ⟨z, ez⟩ : ∃ z, sm (bl a ++ bl b) = z := ⟨_, rfl⟩
    have HX := Lib.hid ex; have HY := Lib.hid ey; have HZ := Lib.hid ez
    rw [ex] at HA HJ
    rw [ey] at HB0 HJ
    rw [ez] at HJ
    clear ex ey ez
    go_enter Try.func5, Try.ntmps5
    go_wp2_with fail
    with_reducible refine (of_one a w (by omega)).mono ?_
    rw [HX.out]
    rintro e w1 ⟨rfl, hb⟩
    have HB := Lib.hid hb; clear hb
    go_wp2_with fail
    with_reducible refine (of_one b _ (by omega)).mono ?_
    rw [HY.out]
    rintro e w2 ⟨rfl, hb⟩
    have HB := Lib.hid (below_on' HB.out hb); clear hb
    go_wp2_with fail
    with_reducible refine (join_at HJ.out _ HA.out HB0.out (by omega)).mono ?_
    rintro e w3 ⟨rfl, rfl⟩
    go_wp2_with fail
    with_reducible refine (of_two a b _ (by omega) (by omega)).mono ?_
    rw [HZ.out]
    rintro e w4 ⟨rfl, hb⟩
    have HB := Lib.hid (below_on' HB.out hb); clear hb
    go_wp2_with fail
    with_reducible refine (works_any _).mono ?_
    rintro e w5 ⟨rfl, hb⟩
    have HB := Lib.hid (below_on' HB.out hb); clear hb
    go_wp2_with fail
    go_ret
    exact ⟨rfl, HB.out⟩
end Go.Proofs.Ytcjheicmicbmjaa
