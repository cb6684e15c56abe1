/- What bytes.Take answers: of every text. -/
import Derived.Test.YtknldabnkaecdaaByA
import Derived.Deep.LoopGhost
import Derived.Laws.Bits64b
namespace Go.Proofs.Ytknldabnkaecdaa.byt
open Go.RowKit

/-- A text's bytes. -/
abbrev bl (s : ByteArray) : List UInt8 := s.data.toList
theorem bl_length (s : ByteArray) : (bl s).length = s.size := rfl
theorem drop_byte (s : ByteArray) (k : Nat) (h : k < s.size) : (bl s).drop k = s[k] :: (bl s).drop (k + 1) := by
  rw [List.drop_eq_getElem_cons (by rw [bl_length]; exact h)]
  rfl
theorem pow_seven (k : Nat) : (2 : Nat) ^ (7 * k) = 128 ^ k := by rw [Nat.pow_mul]
/-- A seven of bits more. -/
theorem or_seven {k F b : Nat} (hk : k ≤ 9) (hF : F < 128 ^ k) (hb : b % 128 * 128 ^ k < 18446744073709551616) :
    bits .or .u64 (F : Int) (IntKind.u64.wrap ((b : Int) % 128 * 2 ^ (7 * k))) = ((F + b % 128 * 128 ^ k : Nat) : Int) := by
  have e : ((b : Int) % 128 * 2 ^ (7 * k)) = ((b % 128 * 128 ^ k : Nat) : Int) := by
    rw [← pow_seven k, Int.natCast_mul, Int.natCast_pow, Int.natCast_emod]
    rfl
  have hp : 128 ^ k ≤ 128 ^ 9 := Nat.pow_le_pow_right (by omega) hk
  rw [e, IntKind.wrap_u64, Int.emod_eq_of_lt (by omega) (by omega), bits_or_u64_nat _ _ (by omega) hb]
  have h2 := Nat.shiftLeft_add_eq_or_of_lt (i := 7 * k) (b := F) (by rw [pow_seven]; exact hF) (b % 128)
  rw [Nat.shiftLeft_eq, pow_seven] at h2
  rw [Nat.or_comm, ← h2, Nat.add_comm]
theorem seven_room {k b : Nat} (hk : k ≤ 8) : b % 128 * 128 ^ k < 18446744073709551616 ∧ (∀ F, F < 128 ^ k → F + b % 128 * 128 ^ k < 128 ^ (k + 1)) ∧ 128 ^ (k + 1) ≤ 128 ^ 9 := by
  have h1 : b % 128 * 128 ^ k ≤ 127 * 128 ^ k := Nat.mul_le_mul_right _ (by omega)
  have h2 : 128 ^ k ≤ 128 ^ 8 := Nat.pow_le_pow_right (by omega) hk
  have h3 : (128 : Nat) ^ (k + 1) = 128 * 128 ^ k := by rw [Nat.pow_succ, Nat.mul_comm]
  refine ⟨by omega, fun F hF => by omega, Nat.pow_le_pow_right (by omega) (by omega)⟩

theorem nine_room {k b : Nat} (hk : k = 9) (hb : 1 ≥ b) : b % 128 * 128 ^ k < 18446744073709551616 := by
  subst hk
  rw [Nat.mod_eq_of_lt (by omega)]
  omega
theorem nine_fits {k b F : Nat} (hk : k = 9) (hF : F < 128 ^ k) (hb : 1 ≥ b) : F + b % 128 * 128 ^ k < 18446744073709551616 := by
  subst hk
  rw [Nat.mod_eq_of_lt (by omega)]
  omega

def takeE (s : ByteArray) : Ending := .returned (.tuple #[.int .i64 (take (bl s)).1, .int .i64 (take (bl s)).2.1, .int .i64 (take (bl s)).2.2])
theorem takeE_of {s : ByteArray} {n : Int} {k : Nat} {c : Int} (h : take (bl s) = (n, k, c)) : takeE s = .returned (.tuple #[.int .i64 n, .int .i64 k, .int .i64 c]) := by unfold takeE; rw [h]

theorem tk_err {k F : Nat} {b : UInt8} {t : List UInt8} (h : (k = 9 ∧ 1 < b.toNat) ∨ (0 < k ∧ b.toNat = 0)) : tk k F (b :: t) = (0, 0, 21) := by simp only [tk]; rw [if_pos h]
theorem tk_fin {k F : Nat} {b : UInt8} {t : List UInt8} (h : ¬ ((k = 9 ∧ 1 < b.toNat) ∨ (0 < k ∧ b.toNat = 0))) (hb : b.toNat < 128) : tk k F (b :: t) = (fo (F + b.toNat % 128 * 128 ^ k), k + 1, 0) := by
  simp only [tk]; rw [if_neg h, if_pos hb, Nat.mod_eq_of_lt hb]
theorem tk_on {k F : Nat} {b : UInt8} {t : List UInt8} (h : ¬ ((k = 9 ∧ 1 < b.toNat) ∨ (0 < k ∧ b.toNat = 0))) (hb : 128 ≤ b.toNat) : tk k F (b :: t) = tk (k + 1) (F + b.toNat % 128 * 128 ^ k) t := by
  have := byte_lt b
  simp only [tk]; rw [if_neg h, if_neg (by omega)]
  have e : b.toNat - 128 = b.toNat % 128 := by omega
  rw [e]

set_option maxHeartbeats 800000 in
set_option maxRecDepth 1000000 in
theorem take_any (s : ByteArray) (w : World) (hs : s.size ≤ 9223372036854775807) :
    Calls Try.prog 36 #[.string s] w fun e w' => e = takeE s ∧ w = w' := by
  go_enter Try.func36, Try.ntmps36
  go_wp2
  go_step3
  go_wp2
  go_step3
  go_wp2
  go_loop [3, 5, 10] (fun z f c => ∃ k F : Nat, z = .int .i64 0 ∧ k ≤ s.size ∧ k ≤ 9 ∧ c = .int .i64 k ∧ f = .int .u64 F ∧ tk k F ((bl s).drop k) = take (bl s) ∧ F < 128 ^ k) (fun _ _ c => s.size - (intOf c).toNat)
  case atStart => exact ⟨0, 0, rfl, by omega, by omega, rfl, rfl, rfl, by simp⟩
  case round =>
    obtain ⟨k, F, rfl, hk, hk9, rfl, rfl, ht, hF⟩ := hrel
    by_cases hlt : k < s.size
    · rw [drop_byte s k hlt] at ht
      have HT := Lib.hid ht
      have HF := Lib.hid hF
      clear ht hF
      by_cases h8 : k ≤ 8
      · obtain ⟨r1, r2, r3⟩ := seven_room (b := s[k].toNat) h8
        have hor := or_seven (by omega) HF.out r1
        have R2 := Lib.hid (r2 F HF.out)
        have hG : F + s[k].toNat % 128 * 128 ^ k < 18446744073709551616 := by have := R2.out; omega
        obtain ⟨G, eG⟩ : ∃ G : Nat, F + s[k].toNat % 128 * 128 ^ k = G := ⟨_, rfl⟩
        rw [eG] at hor hG
        have EG := Lib.hid eG
        clear r1 r2 r3 eG
        rcases Nat.lt_or_ge 0 k |>.symm with hk0 | hk0
        · by_cases hb : s[k].toNat < 128
          · have HE := Lib.hid (HT.out.symm.trans (tk_fin (by omega) hb))
            rw [EG.out] at HE
            have hb' : (s[k].toNat : Int) < 128 := by omega
            clear hb HT HF R2
            go_wp2_with (go_at_call 38; ((with_reducible refine (of_any G _ hG).mono ?_); rintro e w' ⟨rfl, rfl⟩))
            try rw [Exit.noGoto_ret]
            go_ret3
            exact ⟨by rw [takeE_of HE.out]; rfl, rfl⟩
          · have HE := Lib.hid ((tk_on (t := (bl s).drop (k + 1)) (F := F) (by omega) (by omega)).symm.trans HT.out)
            rw [EG.out] at HE
            rw [EG.out] at R2
            have hb' : (128 : Int) ≤ (s[k].toNat : Int) := by omega
            clear hb HT HF
            go_wp2
            go_round
            case rel => exact ⟨k + 1, G, rfl, by omega, by omega, by go_num, rfl, HE.out, R2.out⟩
            case measure => simp [intOf]; omega
        · rcases Nat.lt_or_ge 0 s[k].toNat |>.symm with hz | hz
          · have hb0 : ((s[k].toNat : Int) == 0) = true := by simp; omega
            have HE := Lib.hid (HT.out.symm.trans (tk_err (by omega)))
            clear HT HF R2 hz
            go_wp2
            try rw [Exit.noGoto_ret]
            go_ret3
            exact ⟨by rw [takeE_of HE.out]; rfl, rfl⟩
          · by_cases hb : s[k].toNat < 128
            · have HE := Lib.hid (HT.out.symm.trans (tk_fin (by omega) hb))
              rw [EG.out] at HE
              have hb' : (s[k].toNat : Int) < 128 := by omega
              have hb0 : ((s[k].toNat : Int) == 0) = false := by simp; omega
              clear hb HT HF R2 hz
              go_wp2_with (go_at_call 38; ((with_reducible refine (of_any G _ hG).mono ?_); rintro e w' ⟨rfl, rfl⟩))
              try rw [Exit.noGoto_ret]
              go_ret3
              exact ⟨by rw [takeE_of HE.out]; rfl, rfl⟩
            · have HE := Lib.hid ((tk_on (t := (bl s).drop (k + 1)) (F := F) (by omega) (by omega)).symm.trans HT.out)
              rw [EG.out] at HE R2
              have hb' : (128 : Int) ≤ (s[k].toNat : Int) := by omega
              have hb0 : ((s[k].toNat : Int) == 0) = false := by simp; omega
              clear hb HT HF hz
              go_wp2
              go_round
              case rel => exact ⟨k + 1, G, rfl, by omega, by omega, by go_num, rfl, HE.out, R2.out⟩
              case measure => simp [intOf]; omega
      · rcases Nat.lt_or_ge 1 s[k].toNat with hz | hz
        · have hb1 : (1 : Int) < (s[k].toNat : Int) := by omega
          have HE := Lib.hid (HT.out.symm.trans (tk_err (by omega)))
          clear HT HF hz
          go_wp2
          try rw [Exit.noGoto_ret]
          go_ret3
          exact ⟨by rw [takeE_of HE.out]; rfl, rfl⟩
        · have hb1 : (s[k].toNat : Int) ≤ 1 := by omega
          rcases Nat.lt_or_ge 0 s[k].toNat |>.symm with hy | hy
          · have hb0 : ((s[k].toNat : Int) == 0) = true := by simp; omega
            have HE := Lib.hid (HT.out.symm.trans (tk_err (by omega)))
            clear HT HF hz hy
            go_wp2
            try rw [Exit.noGoto_ret]
            go_ret3
            exact ⟨by rw [takeE_of HE.out]; rfl, rfl⟩
          · have hr : s[k].toNat % 128 * 128 ^ k < 18446744073709551616 := nine_room (by omega) hz
            have hor := or_seven (by omega) HF.out hr
            have hG : F + s[k].toNat % 128 * 128 ^ k < 18446744073709551616 := nine_fits (by omega) HF.out hz
            obtain ⟨G, eG⟩ : ∃ G : Nat, F + s[k].toNat % 128 * 128 ^ k = G := ⟨_, rfl⟩
            rw [eG] at hor hG
            have EG := Lib.hid eG
            clear hr eG
            have HE := Lib.hid (HT.out.symm.trans (tk_fin (by omega) (by omega)))
            rw [EG.out, show k + 1 = 10 by omega] at HE
            have hb' : (s[k].toNat : Int) < 128 := by omega
            have hb0 : ((s[k].toNat : Int) == 0) = false := by simp; omega
            clear HT HF hz hy
            go_wp2_with (go_at_call 38; ((with_reducible refine (of_any G _ hG).mono ?_); rintro e w' ⟨rfl, rfl⟩))
            try rw [Exit.noGoto_ret]
            go_ret3
            exact ⟨by rw [takeE_of HE.out]; rfl, rfl⟩
    · have hp : (bl s).drop k = [] := List.drop_eq_nil_of_le (by rw [bl_length]; omega)
      rw [hp] at ht
      have HT := Lib.hid ht
      clear ht hp
      go_wp2
      try rw [Exit.noGoto_ret]
      go_ret3
      exact ⟨by rw [takeE_of HT.out.symm]; rfl, rfl⟩
end Go.Proofs.Ytknldabnkaecdaa.byt
