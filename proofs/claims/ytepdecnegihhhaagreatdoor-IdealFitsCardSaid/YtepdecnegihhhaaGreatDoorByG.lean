/- What changelingref02.Take answers: as bytes.Take, of every text. -/
import Derived.Test.YtepdecnegihhhaaGreatDoorMBy
set_option linter.unusedSimpArgs false
set_option linter.unusedVariables false
namespace Go.Proofs.YtepdecnegihhhaaGreatDoor.byt
open Go.RowKit
def hv : List UInt8 → Nat
 | [] => 0
 | b :: t => b.toNat % 128 + 128 * hv t
theorem hv_snoc (l : List UInt8) (b : UInt8) : hv (l ++ [b]) = hv l + b.toNat % 128 * 128 ^ l.length := by
 induction l with
 | nil => simp [hv]
 | cons c l ih =>
  rw [List.cons_append, hv, ih, hv, List.length_cons, Nat.pow_succ]
  have e : b.toNat % 128 * (128 ^ l.length * 128) = 128 * (b.toNat % 128 * 128 ^ l.length) := by rw [← Nat.mul_assoc, Nat.mul_comm]
  omega
theorem hv_lt (l : List UInt8) : hv l < 128 ^ l.length := by
 induction l with
 | nil => simp [hv]
 | cons c l ih =>
  rw [hv, List.length_cons, Nat.pow_succ]
  omega
theorem hv_drop (l : List UInt8) (j : Nat) : hv (l.drop j) ≤ hv l := by
 induction l generalizing j with
 | nil => simp
 | cons c l ih =>
  cases j with
  | zero => simp
  | succ j => rw [List.drop_succ_cons, hv]; have := ih j; omega
def Lead (s : ByteArray) (k : Nat) : Prop := ∀ (j : Nat) (h : j < s.size), j < k → 128 ≤ (s[j]'h).toNat
theorem take_byte (s : ByteArray) (k : Nat) (h : k < s.size) : (bl s).take (k + 1) = (bl s).take k ++ [s[k]] := by
 rw [List.take_succ_eq_append_getElem (by rw [bl_length]; exact h)]
 rfl
theorem lead_tk {s : ByteArray} : ∀ {k : Nat}, k ≤ 9 → k ≤ s.size → Lead s k → tk k (hv ((bl s).take k)) ((bl s).drop k) = take (bl s) := by
 intro k
 induction k with
 | zero => intro _ _ _; simp [hv, take]
 | succ k ih =>
  intro h9 hs hl
  have hk : k < s.size := by omega
  have hb := hl k hk (by omega)
  have := ih (by omega) (by omega) (fun j h hj => hl j h (by omega))
  rw [drop_byte s k hk, tk_on (by omega) hb] at this
  rw [take_byte s k hk, hv_snoc, List.length_take, bl_length, Nat.min_eq_left (by omega)]
  exact this
theorem lead_more {s : ByteArray} {k : Nat} (hk : k < s.size) (hl : Lead s k) (hb : 128 ≤ s[k].toNat) : Lead s (k + 1) := by
 intro j h hj
 rcases Nat.lt_or_ge j k with h1 | h1
 · exact hl j h h1
 · obtain rfl : j = k := by omega
   exact hb
theorem lead_ten {s : ByteArray} (hs : 10 ≤ s.size) (hl : Lead s 10) : take (bl s) = (0, 0, 21) := by
 have h := lead_tk (s := s) (k := 9) (by omega) (by omega) (fun j h hj => hl j h (by omega))
 have hb := hl 9 (by omega) (by omega)
 rw [drop_byte s 9 (by omega), tk_err (by omega)] at h
 exact h.symm
theorem lead_end {s : ByteArray} {k : Nat} (h9 : k ≤ 9) (hk : k = s.size) (hl : Lead s k) : take (bl s) = (0, 0, 20) := by
 have h := lead_tk h9 (by omega) hl
 rw [List.drop_eq_nil_of_le (by rw [bl_length]; omega)] at h
 exact h.symm
theorem lead_err {s : ByteArray} {k : Nat} (h9 : k ≤ 9) (hk : k < s.size) (hl : Lead s k) (h : (k = 9 ∧ 1 < s[k].toNat) ∨ (0 < k ∧ s[k].toNat = 0)) : take (bl s) = (0, 0, 21) := by
 have h2 := lead_tk h9 (by omega) hl
 rw [drop_byte s k hk, tk_err h] at h2
 exact h2.symm
theorem lead_fin {s : ByteArray} {k : Nat} (h9 : k ≤ 9) (hk : k < s.size) (hl : Lead s k) (h : ¬ ((k = 9 ∧ 1 < s[k].toNat) ∨ (0 < k ∧ s[k].toNat = 0))) (hb : s[k].toNat < 128) :
  take (bl s) = (fo (hv ((bl s).take (k + 1))), k + 1, 0) ∧ hv ((bl s).take (k + 1)) < 18446744073709551616 := by
 have h2 := lead_tk h9 (by omega) hl
 rw [drop_byte s k hk, tk_fin h hb] at h2
 have hF := hv_lt ((bl s).take k)
 have hlen : ((bl s).take k).length = k := by rw [List.length_take, bl_length]; omega
 rw [take_byte s k hk, hv_snoc]
 rw [hlen] at hF ⊢
 refine ⟨h2.symm, ?_⟩
 rcases Nat.lt_or_ge k 9 with h8 | h8
 · obtain ⟨_, r2, r3⟩ := seven_room (k := k) (b := s[k].toNat) (by omega)
   have := r2 _ hF
   omega
 · exact nine_fits (by omega) hF (by omega)
theorem horner {s : ByteArray} {m k : Nat} (hm : m ≤ k) (hk : k < s.size) : hv (((bl s).take (k + 1)).drop m) = (s[m]'(by omega)).toNat % 128 + 128 * hv (((bl s).take (k + 1)).drop (m + 1)) := by
 rw [List.drop_eq_getElem_cons (by rw [List.length_take, bl_length]; omega), hv, List.getElem_take]
 rfl
theorem ret3_of {s : ByteArray} {a b : Int} {k : Nat} {c : Int} (h : take (bl s) = (a, k, c)) (e : a = b) : takeE s = .returned (.tuple #[.int .i64 b, .int .i64 k, .int .i64 c]) := by
 rw [takeE_of h, e]
set_option maxHeartbeats 1600000 in
set_option maxRecDepth 1000000 in
theorem refTake_any (s : ByteArray) (w : World) (hs : s.size ≤ 9223372036854775807) :
  Calls Tryz.prog 69 #[.string s] w fun e w' => e = takeE s ∧ w = w' := by
 go_enter Tryz.func69, Tryz.ntmps69
 go_wp2
 go_loop [5] (fun c => ∃ k : Nat, c = .int .i64 k ∧ k ≤ s.size ∧ k ≤ 10 ∧ Lead s k) (fun c => s.size - (intOf c).toNat)
 case atStart => exact ⟨0, rfl, by omega, by omega, fun j h hj => by omega⟩
 case round =>
  obtain ⟨k, rfl, hk, hk10, hl⟩ := hrel
  have HL := Lib.hid hl
  clear hl
  by_cases h10 : 10 ≤ k
  · have hk' : (10 : Int) ≤ (k : Int) := by omega
    have h9 : 9 < s.size := by omega
    obtain rfl : k = 10 := by omega
    have HE := Lib.hid (lead_ten hk HL.out)
    have hb9 : (1 : Int) < (s[9].toNat : Int) := by have := HL.out 9 h9 (by omega); omega
    go_wp2
    all_goals (go_ret3; exact ⟨by rw [takeE_of HE.out]; rfl, rfl⟩)
  · by_cases hlt : k < s.size
    · by_cases hb : 128 ≤ s[k].toNat
      · have hb' : (127 : Int) < (s[k].toNat : Int) := by omega
        have HR := Lib.hid (lead_more hlt HL.out hb)
        clear hb
        go_wp2
        go_round
        case rel => exact ⟨k + 1, by go_num, by omega, by omega, HR.out⟩
        case measure => simp [intOf]; omega
      · have hb' : (s[k].toNat : Int) ≤ 127 := by omega
        by_cases hz : (k = 9 ∧ 1 < s[k].toNat) ∨ (0 < k ∧ s[k].toNat = 0)
        · have HE := Lib.hid (lead_err (by omega) hlt HL.out hz)
          by_cases h91 : k = 9 ∧ 1 < s[k].toNat
          · obtain ⟨h9, h1⟩ := h91
            subst h9
            have h1' : (1 : Int) < (s[9].toNat : Int) := by omega
            clear hz hb h1
            go_wp2
            go_ret3
            exact ⟨by rw [takeE_of HE.out]; rfl, rfl⟩
          · have h0 : ((s[k].toNat : Int) == 0) = true := by simp; omega
            have hkne : ((k : Int) == (s.size : Int)) = false := by simp; omega
            have hk0 : (0 : Int) < (k : Int) := by omega
            by_cases h9 : k = 9
            · subst h9
              have h1' : (s[9].toNat : Int) ≤ 1 := by omega
              clear hz hb h91
              go_wp2
              go_ret3
              exact ⟨by rw [takeE_of HE.out]; rfl, rfl⟩
            · have h9' : (k : Int) < 9 := by omega
              clear hz hb h91 h9
              go_wp2
              go_ret3
              exact ⟨by rw [takeE_of HE.out]; rfl, rfl⟩
        · rcases Nat.lt_or_ge k 9 with h9 | h9
          · rcases Nat.lt_or_ge 0 k with hk0 | hk0
            · have hk0' : (0 : Int) < (k : Int) := by omega
              have h0 : ((s[k].toNat : Int) == 0) = false := by simp; omega
              have hkne : ((k : Int) == (s.size : Int)) = false := by simp; omega
              obtain ⟨hf, hfl⟩ := lead_fin (by omega) hlt HL.out (by omega) (by omega)
              have HF := Lib.hid hf
              clear hf hz
              go_wp2
              go_loop [6, 7] (fun u i => ∃ (m : Nat) (j : Int), i = .int .i64 j ∧ j + 1 = m ∧ m ≤ k + 1 ∧ u = .int .u64 (hv (((bl s).take (k + 1)).drop m) : Nat)) (fun _ i => (intOf i + 1).toNat)
              case atStart => exact ⟨k + 1, k, rfl, by omega, Nat.le_refl _, by rw [List.drop_eq_nil_of_le (by rw [List.length_take]; omega)]; rfl⟩
              case round =>
               obtain ⟨m, j, rfl, hj, hm, rfl⟩ := hrel
               have hle := hv_drop ((bl s).take (k + 1)) m
               by_cases h0 : j < 0
               · obtain rfl : m = 0 := by omega
                 rw [List.drop_zero] at hle ⊢
                 obtain ⟨U, eU⟩ : ∃ U, hv ((bl s).take (k + 1)) = U := ⟨_, rfl⟩
                 rw [eU] at HF hfl ⊢
                 have EU := Lib.hid eU
                 clear eU hle hj
                 by_cases hu : U % 2 = 1
                 · have hb2 : ((U : Int) % 2 == 1) = true := by simp; omega
                   have HU := Lib.hid (show fo U = -((U : Int) / 2) - 1 by unfold fo; rw [if_pos hu]; omega)
                   clear hu
                   go_wp2
                   go_ret3
                   exact ⟨by rw [ret3_of HF.out HU.out]; rfl, rfl⟩
                 · have hb2 : ((U : Int) % 2 == 1) = false := by simp; omega
                   have HU := Lib.hid (show fo U = (U : Int) / 2 by unfold fo; rw [if_neg hu]; omega)
                   clear hu
                   go_wp2
                   go_ret3
                   exact ⟨by rw [ret3_of HF.out HU.out]; rfl, rfl⟩
               · obtain ⟨i, rfl⟩ : ∃ i : Nat, j = i := ⟨j.toNat, by omega⟩
                 obtain rfl : m = i + 1 := by omega
                 have hh := horner (m := i) (by omega) hlt
                 have hle2 := hv_drop ((bl s).take (k + 1)) i
                 have his : i < s.size := by omega
                 obtain ⟨V, eV⟩ : ∃ V, hv (((bl s).take (k + 1)).drop (i + 1)) = V := ⟨_, rfl⟩
                 rw [eV] at hh hle ⊢
                 have hfit : 128 * (V : Int) + (s[i].toNat : Int) % 128 < 18446744073709551616 := by omega
                 have HH := Lib.hid hh
                 clear hh eV hj hle2
                 go_wp2
                 go_round
                 case rel => exact ⟨i, (i : Int) - 1, rfl, by omega, by omega, by rw [HH.out]; exact congrArg _ (by omega)⟩
                 case measure => simp [intOf]
            · have hk0' : (k : Int) ≤ 0 := by omega
              have hkne : ((k : Int) == (s.size : Int)) = false := by simp; omega
              obtain ⟨hf, hfl⟩ := lead_fin (by omega) hlt HL.out (by omega) (by omega)
              have HF := Lib.hid hf
              clear hf hz
              go_wp2
              go_loop [6, 7] (fun u i => ∃ (m : Nat) (j : Int), i = .int .i64 j ∧ j + 1 = m ∧ m ≤ k + 1 ∧ u = .int .u64 (hv (((bl s).take (k + 1)).drop m) : Nat)) (fun _ i => (intOf i + 1).toNat)
              case atStart => exact ⟨k + 1, k, rfl, by omega, Nat.le_refl _, by rw [List.drop_eq_nil_of_le (by rw [List.length_take]; omega)]; rfl⟩
              case round =>
               obtain ⟨m, j, rfl, hj, hm, rfl⟩ := hrel
               have hle := hv_drop ((bl s).take (k + 1)) m
               by_cases h0 : j < 0
               · obtain rfl : m = 0 := by omega
                 rw [List.drop_zero] at hle ⊢
                 obtain ⟨U, eU⟩ : ∃ U, hv ((bl s).take (k + 1)) = U := ⟨_, rfl⟩
                 rw [eU] at HF hfl ⊢
                 have EU := Lib.hid eU
                 clear eU hle hj
                 by_cases hu : U % 2 = 1
                 · have hb2 : ((U : Int) % 2 == 1) = true := by simp; omega
                   have HU := Lib.hid (show fo U = -((U : Int) / 2) - 1 by unfold fo; rw [if_pos hu]; omega)
                   clear hu
                   go_wp2
                   go_ret3
                   exact ⟨by rw [ret3_of HF.out HU.out]; rfl, rfl⟩
                 · have hb2 : ((U : Int) % 2 == 1) = false := by simp; omega
                   have HU := Lib.hid (show fo U = (U : Int) / 2 by unfold fo; rw [if_neg hu]; omega)
                   clear hu
                   go_wp2
                   go_ret3
                   exact ⟨by rw [ret3_of HF.out HU.out]; rfl, rfl⟩
               · obtain ⟨i, rfl⟩ : ∃ i : Nat, j = i := ⟨j.toNat, by omega⟩
                 obtain rfl : m = i + 1 := by omega
                 have hh := horner (m := i) (by omega) hlt
                 have hle2 := hv_drop ((bl s).take (k + 1)) i
                 have his : i < s.size := by omega
                 obtain ⟨V, eV⟩ : ∃ V, hv (((bl s).take (k + 1)).drop (i + 1)) = V := ⟨_, rfl⟩
                 rw [eV] at hh hle ⊢
                 have hfit : 128 * (V : Int) + (s[i].toNat : Int) % 128 < 18446744073709551616 := by omega
                 have HH := Lib.hid hh
                 clear hh eV hj hle2
                 go_wp2
                 go_round
                 case rel => exact ⟨i, (i : Int) - 1, rfl, by omega, by omega, by rw [HH.out]; exact congrArg _ (by omega)⟩
                 case measure => simp [intOf]
          · have h99 : 9 < s.size := by omega
            have h1' : (s[9].toNat : Int) ≤ 1 := by
             obtain rfl : k = 9 := by omega
             omega
            have h0 : ((s[k].toNat : Int) == 0) = false := by simp; omega
            have hkne : ((k : Int) == (s.size : Int)) = false := by simp; omega
            obtain ⟨hf, hfl⟩ := lead_fin (by omega) hlt HL.out (by omega) (by omega)
            have HF := Lib.hid hf
            clear hf hz
            go_wp2
            go_loop [6, 7] (fun u i => ∃ (m : Nat) (j : Int), i = .int .i64 j ∧ j + 1 = m ∧ m ≤ k + 1 ∧ u = .int .u64 (hv (((bl s).take (k + 1)).drop m) : Nat)) (fun _ i => (intOf i + 1).toNat)
            case atStart => exact ⟨k + 1, k, rfl, by omega, Nat.le_refl _, by rw [List.drop_eq_nil_of_le (by rw [List.length_take]; omega)]; rfl⟩
            case round =>
             obtain ⟨m, j, rfl, hj, hm, rfl⟩ := hrel
             have hle := hv_drop ((bl s).take (k + 1)) m
             by_cases h0 : j < 0
             · obtain rfl : m = 0 := by omega
               rw [List.drop_zero] at hle ⊢
               obtain ⟨U, eU⟩ : ∃ U, hv ((bl s).take (k + 1)) = U := ⟨_, rfl⟩
               rw [eU] at HF hfl ⊢
               have EU := Lib.hid eU
               clear eU hle hj
               by_cases hu : U % 2 = 1
               · have hb2 : ((U : Int) % 2 == 1) = true := by simp; omega
                 have HU := Lib.hid (show fo U = -((U : Int) / 2) - 1 by unfold fo; rw [if_pos hu]; omega)
                 clear hu
                 go_wp2
                 go_ret3
                 exact ⟨by rw [ret3_of HF.out HU.out]; rfl, rfl⟩
               · have hb2 : ((U : Int) % 2 == 1) = false := by simp; omega
                 have HU := Lib.hid (show fo U = (U : Int) / 2 by unfold fo; rw [if_neg hu]; omega)
                 clear hu
                 go_wp2
                 go_ret3
                 exact ⟨by rw [ret3_of HF.out HU.out]; rfl, rfl⟩
             · obtain ⟨i, rfl⟩ : ∃ i : Nat, j = i := ⟨j.toNat, by omega⟩
               obtain rfl : m = i + 1 := by omega
               have hh := horner (m := i) (by omega) hlt
               have hle2 := hv_drop ((bl s).take (k + 1)) i
               have his : i < s.size := by omega
               obtain ⟨V, eV⟩ : ∃ V, hv (((bl s).take (k + 1)).drop (i + 1)) = V := ⟨_, rfl⟩
               rw [eV] at hh hle ⊢
               have hfit : 128 * (V : Int) + (s[i].toNat : Int) % 128 < 18446744073709551616 := by omega
               have HH := Lib.hid hh
               clear hh eV hj hle2
               go_wp2
               go_round
               case rel => exact ⟨i, (i : Int) - 1, rfl, by omega, by omega, by rw [HH.out]; exact congrArg _ (by omega)⟩
               case measure => simp [intOf]
    · have HE := Lib.hid (lead_end (by omega) (by omega) HL.out)
      have hkne : ((k : Int) == (s.size : Int)) = true := by simp; omega
      go_wp2
      all_goals (go_ret3; exact ⟨by rw [takeE_of HE.out]; rfl, rfl⟩)
end Go.Proofs.YtepdecnegihhhaaGreatDoor.byt
