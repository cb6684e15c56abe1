/- SumEmpty returns true, in whatever world, and turns nothing that was there. -/
import Derived.Test.YtcjheicmicbmjaaL1
namespace Go.Proofs.Ytcjheicmicbmjaa
open Go.RowKit

theorem more_empty {n : Nat} (w : World) (hn : n < 4294967296) : Calls Try.prog 12 #[.int .u32 n, .string ⟨#[]⟩] w fun e w' => e = .returned (.int .u32 n) ∧ w = w' := by
  have := more_any n ⟨#[]⟩ w hn (by decide)
  rwa [show bl ⟨#[]⟩ = [] from rfl, more_nil] at this
theorem joined_none (l : List UInt8) : joined (sm l) 1 0 = sm l := by
  have := sm_joined l []
  rw [List.append_nil] at this
  exact this
theorem join_at2 {n m k k2 r : Nat} (h : Jn n m (k + k2) r) (w : World) (hn : n < 4294967296) (hm : m < 4294967296) (hk : k + k2 ≤ 9223372036854775807) :
    Calls Try.prog 13 #[.int .u32 n, .int .u32 m, .int .i64 ((k : Int) + (k2 : Int))] w fun e w' => e = .returned (.int .u32 r) ∧ w = w' := by
  rw [← Int.natCast_add]
  exact join_at h w hn hm hk
theorem join_at0 {n r : Nat} (h : Jn n 1 0 r) (w : World) (hn : n < 4294967296) :
    Calls Try.prog 13 #[.int .u32 n, .int .u32 1, .int .i64 0] w fun e w' => e = .returned (.int .u32 r) ∧ w = w' :=
  join_at h w hn (by omega) (by omega)

set_option maxHeartbeats 1600000 in
set_option maxRecDepth 1000000 in
theorem law_empty (a b c : ByteArray) (ha : a.size ≤ 140737488351232) (hb : b.size ≤ 140737488351232) (hc : c.size ≤ 140737488351232) (w : World) : Calls Try.prog 7 #[.string a, .string b, .string c] w fun e w' => e = .returned (.bool true) ∧ Below w.heap.size w w' := by
  by_cases hl : 50000 < a.size + b.size + c.size
  · have hl' : (50000 : Int) < (a.size : Int) + (b.size : Int) + (c.size : Int) := by omega
    clear hl
    go_enter Try.func7, Try.ntmps7
    go_wp2_with fail
    with_reducible refine (works_any _).mono ?_
    rintro e w1 ⟨rfl, hb⟩
    have HB := Lib.hid hb; clear hb
    go_wp2_with fail
    go_ret
    exact ⟨rfl, HB.out⟩
  · have hl' : (a.size : Int) + (b.size : Int) + (c.size : Int) ≤ 50000 := by omega
    clear hl
    have HJ1 : Hid (Jn (sm (bl a)) (sm (bl b)) b.size (sm (bl a ++ bl b))) := Lib.hid (fun _ => sm_joined (bl a) (bl b))
    have HJ2 : Hid (Jn (sm (bl a ++ bl b)) (sm (bl c)) c.size (sm (bl a ++ bl b ++ bl c))) := Lib.hid (fun _ => sm_joined (bl a ++ bl b) (bl c))
    have HJ3 : Hid (Jn (sm (bl b)) (sm (bl c)) c.size (sm (bl b ++ bl c))) := Lib.hid (fun _ => sm_joined (bl b) (bl c))
    have HJ4 : Hid (Jn (sm (bl a)) (sm (bl b ++ bl c)) (b.size + c.size) (sm (bl a ++ bl b ++ bl c))) := Lib.hid (fun _ => by
      have := sm_joined (bl a) (bl b ++ bl c)
      rwa [List.length_append, bl_length, bl_length, ← List.append_assoc] at this)
    have HJ5 : Hid (Jn (sm (bl a)) 1 0 (sm (bl a))) := Lib.hid (fun _ => joined_none (bl a))
    have HA := Lib.hid (sm_lt (bl a))
    have HB0 := Lib.hid (sm_lt (bl b))
    have HC := Lib.hid (sm_lt (bl c))
    have HAB := Lib.hid (sm_lt (bl a ++ bl b))
    have HBC := Lib.hid (sm_lt (bl b ++ bl c))
    obtain ⟨x, ex⟩ : ∃ x, sm (bl a) = x := ⟨_, rfl⟩
    obtain ⟨y, ey⟩ : ∃ y, sm (bl b) = y := ⟨_, rfl⟩
    obtain ⟨z, ez⟩ : ∃ z, sm (bl c) = z := ⟨_, rfl⟩
    obtain ⟨u, eu⟩ : ∃ u, sm (bl a ++ bl b) = u := ⟨_, rfl⟩
    obtain ⟨v, ev⟩ : ∃ v, sm (bl b ++ bl c) = v := ⟨_, rfl⟩
    obtain ⟨t, et⟩ : ∃ t, sm (bl a ++ bl b ++ bl c) = t := ⟨_, rfl⟩
    have HX := Lib.hid ex; have HY := Lib.hid ey; have HZ := Lib.hid ez
    rw [ex] at HA HJ1 HJ4 HJ5
    rw [ey] at HB0 HJ1 HJ3
    rw [ez] at HC HJ2 HJ3
    rw [eu] at HAB HJ1 HJ2
    rw [ev] at HBC HJ3 HJ4
    rw [et] at HJ2 HJ4
    clear ex ey ez eu ev et
    go_enter Try.func7, Try.ntmps7
    go_wp2_with fail
    with_reducible refine (of_one a w (by omega)).mono ?_
    rw [HX.out]
    rintro e w1 ⟨rfl, hb⟩
    have HB := Lib.hid hb; clear hb
    go_wp2_with fail
    with_reducible refine (of_one b _ (by omega)).mono ?_
    rw [HY.out]
    rintro e w2 ⟨rfl, hb⟩
    have HB := Lib.hid (below_on' HB.out hb); clear hb
    go_wp2_with fail
    with_reducible refine (of_one c _ (by omega)).mono ?_
    rw [HZ.out]
    rintro e w3 ⟨rfl, hb⟩
    have HB := Lib.hid (below_on' HB.out hb); clear hb
    go_wp2_with fail
    with_reducible refine (join_at HJ1.out _ HA.out HB0.out (by omega)).mono ?_
    rintro e w4 ⟨rfl, rfl⟩
    go_wp2_with fail
    with_reducible refine (join_at HJ2.out _ HAB.out HC.out (by omega)).mono ?_
    rintro e w4 ⟨rfl, rfl⟩
    go_wp2_with fail
    with_reducible refine (join_at HJ3.out _ HB0.out HC.out (by omega)).mono ?_
    rintro e w4 ⟨rfl, rfl⟩
    go_wp2_with fail
    with_reducible refine (join_at2 HJ4.out _ HA.out HBC.out (by omega)).mono ?_
    rintro e w4 ⟨rfl, rfl⟩
    go_wp2_with fail
    with_reducible refine (of_none _).mono ?_
    rintro e w4 ⟨rfl, hb⟩
    have HB := Lib.hid (below_on' HB.out hb); clear hb
    go_wp2_with fail
    with_reducible refine (join_at0 HJ5.out _ HA.out).mono ?_
    rintro e w5 ⟨rfl, rfl⟩
    go_wp2_with fail
    with_reducible refine (more_empty _ HA.out).mono ?_
    rintro e w5 ⟨rfl, rfl⟩
    go_wp2_with fail
    with_reducible refine (works_any _).mono ?_
    rintro e w5 ⟨rfl, hb⟩
    have HB := Lib.hid (below_on' HB.out hb); clear hb
    go_wp2_with fail
    go_ret
    exact ⟨rfl, HB.out⟩
end Go.Proofs.Ytcjheicmicbmjaa
