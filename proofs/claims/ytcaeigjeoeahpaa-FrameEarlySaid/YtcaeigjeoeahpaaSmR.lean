/- What changelingref03.Of answers. -/
import Derived.Test.YtcaeigjeoeahpaaSmA
namespace Go.Proofs.Ytcaeigjeoeahpaa.sum
open Go.RowKit

set_option maxHeartbeats 800000 in
set_option maxRecDepth 1000000 in
theorem refOf_any (s : ByteArray) (w : World) (hs : s.size ≤ 9223372036854775807) :
    Calls Try.prog 22 #[.string s] w fun e w' => e = .returned (.int .u32 (sm (bl s))) ∧ w = w' := by
  go_enter Try.func22, Try.ntmps22
  go_wp2
  go_loop [3, 4, 5] (fun x y c => ∃ k a b : Nat, c = .int .i64 k ∧ k ≤ s.size ∧ x = .int .i64 a ∧ y = .int .i64 b ∧ Half (a, b) ∧ run (a, b) ((bl s).drop k) = run (1, 0) (bl s)) (fun _ _ c => s.size - (intOf c).toNat)
  case atStart => exact ⟨0, 1, 0, rfl, Nat.zero_le _, rfl, rfl, ⟨by decide, by decide⟩, by rw [List.drop_zero]⟩
  case round =>
    obtain ⟨k, a, b, rfl, hk, rfl, rfl, hh, hr⟩ := hrel
    obtain ⟨h1, h2⟩ := hh
    simp only at h1 h2
    by_cases hlt : k < s.size
    · rw [drop_byte s k hlt, run_cons] at hr
      have hb := byte_lt s[k]
      have HH := Lib.hid (half_st (a, b) s[k])
      obtain ⟨x, y, hxy⟩ : ∃ x y, st (a, b) s[k] = (x, y) := ⟨_, _, rfl⟩
      have hx := congrArg Prod.fst hxy
      have hy := congrArg Prod.snd hxy
      simp only [st] at hx hy
      have HX := Lib.hid (show ((a : Int) + (s[k].toNat : Int)) % 65521 = (x : Int) by omega)
      have HY := Lib.hid (show ((b : Int) + ((a : Int) + (s[k].toNat : Int)) % 65521) % 65521 = (y : Int) by omega)
      rw [hxy] at hr HH
      have HR := Lib.hid hr
      clear hr hx hy hxy
      go_wp2
      go_round
      case rel => exact ⟨k + 1, x, y, by go_num, by omega, congrArg _ HX.out, congrArg _ HY.out, HH.out, HR.out⟩
      case measure => simp [intOf]; omega
    · have hk' : ¬ ((k : Int) < (s.size : Int)) := by omega
      rw [List.drop_eq_nil_of_le (by rw [bl_length]; omega), run_nil] at hr
      have HR := Lib.hid (show 65536 * (b : Int) + (a : Int) = (sm (bl s) : Nat) by unfold sm more; rw [hv_one, ← hr]; unfold tg; simp only; omega)
      clear hr
      go_wp2
      go_ret
      exact ⟨ret_int HR.out, rfl⟩
end Go.Proofs.Ytcaeigjeoeahpaa.sum
