/- What sum.halves, sum.together and sum.More answer. -/
import Derived.Test.YtbnnbaoimidfnaaRows
import Derived.Test.YtbnnbaoimidfnaaSmP
import Derived.WalkKit
import Derived.BigQuiet
import Derived.Handy
import Derived.Lib.Hide
namespace Go.Proofs.Ytbnnbaoimidfnaa.sum
open Go.RowKit

theorem ret_int {k : IntKind} {a b : Int} (h : a = b) : Ending.returned (.int k a) = .returned (.int k b) := by rw [h]

theorem halves_any (n : Nat) (w : World) (hn : n < 4294967296) : Calls Try.prog 46 #[.int .u32 n] w fun e w' => e = .returned (.tuple #[.int .u64 (hv n).1, .int .u64 (hv n).2]) ∧ w = w' := by
  go_enter Try.func46, Try.ntmps46
  go_wp2
  go_ret2
  exact ⟨rfl, rfl⟩
theorem together_any (a b : Nat) (w : World) (h : Half (a, b)) : Calls Try.prog 47 #[.int .u64 a, .int .u64 b] w fun e w' => e = .returned (.int .u32 (tg (a, b))) ∧ w = w' := by
  obtain ⟨h1, h2⟩ := h
  simp only at h1 h2
  have HT := Lib.hid (show (b : Int) * 65536 + (a : Int) = (tg (a, b) : Nat) by unfold tg; simp only; omega)
  go_enter Try.func47, Try.ntmps47
  go_wp2
  go_ret
  exact ⟨ret_int HT.out, rfl⟩

set_option maxHeartbeats 800000 in
set_option maxRecDepth 1000000 in
theorem more_any (n : Nat) (s : ByteArray) (w : World) (hn : n < 4294967296) (hs : s.size ≤ 9223372036854775807) :
    Calls Try.prog 44 #[.int .u32 n, .string s] w fun e w' => e = .returned (.int .u32 (more n (bl s))) ∧ w = w' := by
  go_enter Try.func44, Try.ntmps44
  go_wp2_with (go_at_call 46; ((with_reducible refine (halves_any n _ hn).mono ?_); rintro e w' ⟨rfl, rfl⟩))
  go_loop [5, 6, 15] (fun x y c => ∃ k a b : Nat, c = .int .i64 k ∧ k ≤ s.size ∧ x = .int .u64 a ∧ y = .int .u64 b ∧ Half (a, b) ∧ run (a, b) ((bl s).drop k) = run (hv n) (bl s)) (fun _ _ c => s.size - (intOf c).toNat)
  case atStart => exact ⟨0, (hv n).1, (hv n).2, rfl, Nat.zero_le _, rfl, rfl, half_hv hn, by rw [List.drop_zero]⟩
  case round =>
    obtain ⟨k, a, b, rfl, hk, rfl, rfl, hh, hr⟩ := hrel
    have HF := Lib.hid hh
    obtain ⟨h1, h2⟩ := hh
    simp only at h1 h2
    by_cases hlt : k < s.size
    · rw [drop_byte s k hlt, run_cons] at hr
      have hb := byte_lt s[k]
      have HH := Lib.hid (half_st (a, b) s[k])
      obtain ⟨x, y, hxy⟩ : ∃ x y, st (a, b) s[k] = (x, y) := ⟨_, _, rfl⟩
      have hx := congrArg Prod.fst hxy
      have hy := congrArg Prod.snd hxy
      simp only [st] at hx hy
      have HX := Lib.hid (show ((a : Int) + (s[k].toNat : Int)) % 65521 = (x : Int) by omega)
      have HY := Lib.hid (show ((b : Int) + ((a : Int) + (s[k].toNat : Int)) % 65521) % 65521 = (y : Int) by omega)
      rw [hxy] at hr HH
      have HR := Lib.hid hr
      clear hr hx hy hxy
      go_wp2
      go_round
      case rel => exact ⟨k + 1, x, y, by go_num, by omega, congrArg _ HX.out, congrArg _ HY.out, HH.out, HR.out⟩
      case measure => simp [intOf]; omega
    · have hk' : ¬ ((k : Int) < (s.size : Int)) := by omega
      rw [List.drop_eq_nil_of_le (by rw [bl_length]; omega), run_nil] at hr
      have HR := Lib.hid hr
      clear hr
      go_wp2_with (go_at_call 47; ((with_reducible refine (together_any a b _ HF.out).mono ?_); rintro e w' ⟨rfl, rfl⟩))
      go_ret
      exact ⟨by rw [HR.out]; rfl, rfl⟩
end Go.Proofs.Ytbnnbaoimidfnaa.sum
