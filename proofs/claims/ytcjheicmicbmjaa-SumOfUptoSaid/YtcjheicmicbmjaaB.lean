/- What changelingref03.Of and sum.Join answer. -/
import Derived.Test.YtcjheicmicbmjaaA
namespace Go.Proofs.Ytcjheicmicbmjaa
open Go.RowKit

set_option maxHeartbeats 800000 in
set_option maxRecDepth 1000000 in
theorem refOf_any (s : ByteArray) (w : World) (hs : s.size ≤ 9223372036854775807) :
    Calls Try.prog 11 #[.string s] w fun e w' => e = .returned (.int .u32 (sm (bl s))) ∧ w = w' := by
  go_enter Try.func11, Try.ntmps11
  go_wp2
  go_loop [3, 4, 5] (fun x y c => ∃ k a b : Nat, c = .int .i64 k ∧ k ≤ s.size ∧ x = .int .i64 a ∧ y = .int .i64 b ∧ Half (a, b) ∧ run (a, b) ((bl s).drop k) = run (1, 0) (bl s)) (fun _ _ c => s.size - (intOf c).toNat)
  case atStart => exact ⟨0, 1, 0, rfl, Nat.zero_le _, rfl, rfl, ⟨by decide, by decide⟩, by rw [List.drop_zero]⟩
  case round =>
    obtain ⟨k, a, b, rfl, hk, rfl, rfl, hh, hr⟩ := hrel
    obtain ⟨h1, h2⟩ := hh
    simp only at h1 h2
    by_cases hlt : k < s.size
    · rw [drop_byte s k hlt, run_cons] at hr
      have hb := byte_lt s[k]
      have HH := Lib.hid (half_st (a, b) s[k])
      obtain ⟨x, y, hxy⟩ : ∃ x y, st (a, b) s[k] = (x, y) := ⟨_, _, rfl⟩
      have hx := congrArg Prod.fst hxy
      have hy := congrArg Prod.snd hxy
      simp only [st] at hx hy
      have HX := Lib.hid (show ((a : Int) + (s[k].toNat : Int)) % 65521 = (x : Int) by omega)
      have HY := Lib.hid (show ((b : Int) + ((a : Int) + (s[k].toNat : Int)) % 65521) % 65521 = (y : Int) by omega)
      rw [hxy] at hr HH
      have HR := Lib.hid hr
      clear hr hx hy hxy
      go_wp2
      go_round
      case rel => exact ⟨k + 1, x, y, by go_num, by omega, congrArg _ HX.out, congrArg _ HY.out, HH.out, HR.out⟩
      case measure => simp [intOf]; omega
    · have hk' : ¬ ((k : Int) < (s.size : Int)) := by omega
      rw [List.drop_eq_nil_of_le (by rw [bl_length]; omega), run_nil] at hr
      have HR := Lib.hid (show 65536 * (b : Int) + (a : Int) = (sm (bl s) : Nat) by unfold sm more; rw [hv_one, ← hr]; unfold tg; simp only; omega)
      clear hr
      go_wp2
      go_ret
      exact ⟨ret_int HR.out, rfl⟩

/-- A product of rests. -/
theorem prod_fits {a k : Nat} (ha : a < 65536) : (k : Int) % 65521 * ((a : Int) + 65521 - 1) = ((k % 65521 * (a + 65520) : Nat) : Int) ∧ k % 65521 * (a + 65520) < 8589934592 := by
  have h1 : k % 65521 ≤ 65520 := by omega
  have h2 : a + 65520 ≤ 131055 := by omega
  have := Nat.mul_le_mul h1 h2
  refine ⟨?_, by omega⟩
  have e1 : ((k % 65521 : Nat) : Int) = (k : Int) % 65521 := by omega
  have e2 : ((a + 65520 : Nat) : Int) = (a : Int) + 65521 - 1 := by omega
  rw [Int.natCast_mul, e1, e2]
theorem halves_at {n a b : Nat} (h : hv n = (a, b)) (w : World) (hn : n < 4294967296) : Calls Try.prog 17 #[.int .u32 n] w fun e w' => e = .returned (.tuple #[.int .u64 a, .int .u64 b]) ∧ w = w' := by
  have := halves_any n w hn; rwa [h] at this

set_option maxHeartbeats 800000 in
set_option maxRecDepth 1000000 in
theorem join_any (n m k : Nat) (w : World) (hn : n < 4294967296) (hm : m < 4294967296) (hk : k ≤ 9223372036854775807) :
    Calls Try.prog 13 #[.int .u32 n, .int .u32 m, .int .i64 k] w fun e w' => e = .returned (.int .u32 (joined n m k)) ∧ w = w' := by
  have hN := half_hv hn
  have hM := half_hv hm
  have hj : joined n m k = tg (((hv m).1 + ((hv n).1 + 65520)) % 65521, ((hv n).2 + (hv m).2 + k % 65521 * ((hv n).1 + 65520)) % 65521) := rfl
  obtain ⟨a, b, hab⟩ : ∃ a b, hv n = (a, b) := ⟨_, _, rfl⟩
  obtain ⟨c, d, hcd⟩ : ∃ c d, hv m = (c, d) := ⟨_, _, rfl⟩
  rw [hab, hcd] at hj
  rw [hab] at hN
  rw [hcd] at hM
  obtain ⟨h1, h2⟩ := hN
  obtain ⟨h3, h4⟩ := hM
  simp only at h1 h2 h3 h4 hj
  obtain ⟨hp, hq⟩ := prod_fits (k := k) h1
  obtain ⟨Q, eQ⟩ : ∃ Q, k % 65521 * (a + 65520) = Q := ⟨_, rfl⟩
  rw [eQ] at hp hq hj
  obtain ⟨x, hx⟩ : ∃ x, (c + (a + 65520)) % 65521 = x := ⟨_, rfl⟩
  obtain ⟨y, hy⟩ : ∃ y, (b + d + Q) % 65521 = y := ⟨_, rfl⟩
  rw [hx, hy] at hj
  have hX : ((c : Int) + ((a : Int) + 65521 - 1)) % 65521 = (x : Int) := by omega
  have hY : ((b : Int) + (d : Int) + (Q : Int)) % 65521 = (y : Int) := by omega
  have HH : Hid (Half (x, y)) := Lib.hid ⟨by simp only; omega, by simp only; omega⟩
  have HA := Lib.hid hab; have HC := Lib.hid hcd; have HJ := Lib.hid hj
  clear hab hcd hj hx hy eQ
  have hmx : max (k : Int) 0 = (k : Int) := by omega
  go_enter Try.func13, Try.ntmps13
  go_wp2_with fail
  refine (halves_at HA.out _ hn).mono ?_
  rintro e w' ⟨rfl, rfl⟩
  go_wp2_with fail
  refine (halves_at HC.out _ hm).mono ?_
  rintro e w' ⟨rfl, rfl⟩
  go_wp2_with fail
  rw [hX, hY]
  refine (together_any x y _ HH.out).mono ?_
  rintro e w' ⟨rfl, rfl⟩
  go_wp2_with fail
  go_ret
  exact ⟨by rw [HJ.out]; rfl, rfl⟩
end Go.Proofs.Ytcjheicmicbmjaa
