/- Plain facts on numbers and their bytes: the turned form, the bytes by sevens of bits, what bytes begin with. No program in this file. What .. -/
import Derived.RowKit
import Derived.Test.YtepdecnegihhhaaGreatDoorRows
import Derived.WalkKit
import Derived.BigQuiet
import Derived.Handy
import Derived.Lib.Hide
import Derived.Deep.LoopGhost
import Derived.Laws.Bits64b
import Derived.Lib.OthersKept
import Derived.OwnWalk
import Derived.Laws.BytesArg
set_option linter.unusedSimpArgs false
set_option linter.unusedVariables false
namespace Go.Proofs.YtepdecnegihhhaaGreatDoor.byt
section
def tf (n : Int) : Nat := if n < 0 then 2 * (-1 - n).toNat + 1 else 2 * n.toNat
def fo (u : Nat) : Int := if u % 2 = 1 then -1 - ((u / 2 : Nat) : Int) else ((u / 2 : Nat) : Int)
theorem tf_lt {n : Int} (h1 : -9223372036854775808 ≤ n) (h2 : n ≤ 9223372036854775807) : tf n < 18446744073709551616 := by
 unfold tf
 split <;> omega
theorem fo_in {u : Nat} (h : u < 18446744073709551616) : -9223372036854775808 ≤ fo u ∧ fo u ≤ 9223372036854775807 := by
 unfold fo
 split <;> omega
theorem tf_neg {n : Int} (h : n < 0) : ((tf n : Nat) : Int) = 2 * (-1 - n) + 1 := by unfold tf; rw [if_pos h]; omega
theorem tf_pos {n : Int} (h : ¬ n < 0) : ((tf n : Nat) : Int) = 2 * n := by unfold tf; rw [if_neg h]; omega
def sev (u : Nat) : List UInt8 := if u < 128 then [UInt8.ofNat u] else UInt8.ofNat (u % 128 + 128) :: sev (u / 128)
termination_by u
theorem sev_small {u : Nat} (h : u < 128) : sev u = [UInt8.ofNat u] := by rw [sev, if_pos h]
theorem sev_big {u : Nat} (h : ¬ u < 128) : sev u = UInt8.ofNat (u % 128 + 128) :: sev (u / 128) := by rw [sev, if_neg h]
theorem ofNat_toNat {u : Nat} (h : u < 256) : (UInt8.ofNat u).toNat = u := by simp [UInt8.toNat_ofNat']; omega
theorem ofNat_self (b : UInt8) : UInt8.ofNat b.toNat = b := by simp
theorem byte_lt (b : UInt8) : b.toNat < 256 := b.toNat_lt
theorem sev_pos (u : Nat) : 1 ≤ (sev u).length := by
 by_cases h : u < 128
 · rw [sev_small h]; simp
 · rw [sev_big h]; simp
theorem sev_le (u k : Nat) (h : u < 128 ^ (k + 1)) : (sev u).length ≤ k + 1 := by
 induction k generalizing u with
 | zero => rw [sev_small (by simpa using h)]; simp
 | succ k ih =>
  by_cases hs : u < 128
  · rw [sev_small hs]; simp
  · rw [sev_big hs, List.length_cons]
    have := ih (u / 128) (by rw [Nat.pow_succ] at h; omega)
    omega
theorem sev_ten {u : Nat} (h : u < 18446744073709551616) : (sev u).length ≤ 10 := sev_le u 9 (by omega)
def tk (i f : Nat) : List UInt8 → Int × Nat × Int
 | [] => (0, 0, 20)
 | b :: t =>
  if (i = 9 ∧ 1 < b.toNat) ∨ (0 < i ∧ b.toNat = 0) then (0, 0, 21)
  else if b.toNat < 128 then (fo (f + b.toNat * 128 ^ i), i + 1, 0)
  else tk (i + 1) (f + (b.toNat - 128) * 128 ^ i) t
theorem pow_room {i : Nat} (h : i ≤ 8) : 2 ^ (64 - 7 * i) = 128 * 2 ^ (64 - 7 * (i + 1)) := by
 have : 64 - 7 * i = 7 + (64 - 7 * (i + 1)) := by omega
 rw [this, Nat.pow_add]
theorem mul_parts (a b p : Nat) : (a + 128 * b) * p = a * p + b * (p * 128) := by
 rw [Nat.add_mul, Nat.mul_comm 128 b, Nat.mul_assoc, Nat.mul_comm 128 p]
theorem tk_bad (s : List UInt8) : ∀ i f, (tk i f s).2.2 ≠ 0 → tk i f s = (0, 0, 20) ∨ tk i f s = (0, 0, 21) := by
 induction s with
 | nil => intro i f _; exact .inl rfl
 | cons b t ih =>
  intro i f h
  simp only [tk] at h ⊢
  split
  · exact .inr rfl
  · rename_i hn
    rw [if_neg hn] at h
    split
    · rename_i hb
      rw [if_pos hb] at h
      exact absurd rfl h
    · rename_i hb
      rw [if_neg hb] at h
      exact ih _ _ h
theorem tk_ok (s : List UInt8) : ∀ i f, i ≤ 9 → (tk i f s).2.2 = 0 → ∃ u t, s = sev u ++ t ∧ tk i f s = (fo (f + u * 128 ^ i), i + (sev u).length, 0) ∧ u < 2 ^ (64 - 7 * i) ∧ (0 < i → 0 < u) := by
 induction s with
 | nil => intro i f _ h; simp [tk] at h
 | cons b t ih =>
  intro i f hi h
  simp only [tk] at h ⊢
  by_cases hn : (i = 9 ∧ 1 < b.toNat) ∨ (0 < i ∧ b.toNat = 0)
  · rw [if_pos hn] at h; simp at h
  · rw [if_neg hn] at h ⊢
    by_cases hb : b.toNat < 128
    · rw [if_pos hb]
      have hlt : b.toNat < 2 ^ (64 - 7 * i) := by
       rcases Nat.lt_or_ge i 9 with h9 | h9
       · have := pow_room (i := i) (by omega)
         have := Nat.two_pow_pos (64 - 7 * (i + 1))
         omega
       · obtain rfl : i = 9 := by omega
         have : b.toNat ≤ 1 := by omega
         show b.toNat < 2
         omega
      exact ⟨b.toNat, t, by rw [sev_small hb, ofNat_self]; rfl, by rw [sev_small hb]; rfl, hlt, fun h0 => by omega⟩
    · rw [if_neg hb] at h ⊢
      have hi8 : i ≤ 8 := by omega
      obtain ⟨u, t', rfl, he, hu, h0⟩ := ih (i + 1) (f + (b.toNat - 128) * 128 ^ i) (by omega) h
      have hu0 := h0 (by omega)
      have hbl := byte_lt b
      have hsev : sev (b.toNat - 128 + 128 * u) = b :: sev u := by
       rw [sev_big (by omega)]
       have e1 : (b.toNat - 128 + 128 * u) % 128 + 128 = b.toNat := by omega
       have e2 : (b.toNat - 128 + 128 * u) / 128 = u := by omega
       rw [e1, e2, ofNat_self]
      refine ⟨b.toNat - 128 + 128 * u, t', by rw [hsev]; rfl, ?_, by rw [pow_room hi8]; omega, fun _ => by omega⟩
      rw [he, hsev, List.length_cons, mul_parts, ← Nat.pow_succ, Nat.add_assoc, Nat.add_right_comm, Nat.add_assoc i]
def take (s : List UInt8) : Int × Nat × Int := tk 0 0 s
theorem take_ok {s : List UInt8} (h : (take s).2.2 = 0) : ∃ u t, s = sev u ++ t ∧ take s = (fo u, (sev u).length, 0) ∧ u < 18446744073709551616 := by
 obtain ⟨u, t, h1, h2, h3, _⟩ := tk_ok s 0 0 (by omega) h
 exact ⟨u, t, h1, by simpa [take] using h2, h3⟩
theorem take_bad {s : List UInt8} (h : (take s).2.2 ≠ 0) : take s = (0, 0, 20) ∨ take s = (0, 0, 21) := tk_bad s 0 0 h
theorem take_size {s : List UInt8} (h : (take s).2.2 = 0) : 1 ≤ (take s).2.1 ∧ (take s).2.1 ≤ 10 ∧ (take s).2.1 ≤ s.length ∧ -9223372036854775808 ≤ (take s).1 ∧ (take s).1 ≤ 9223372036854775807 := by
 obtain ⟨u, t, rfl, h2, h3⟩ := take_ok h
 rw [h2]
 have h4 := fo_in h3
 exact ⟨sev_pos u, sev_ten h3, by simp, h4.1, h4.2⟩
def flat (l : List Int) : List UInt8 := l.flatMap fun n => sev (tf n)
def fits (n : Int) : Prop := -9223372036854775808 ≤ n ∧ n ≤ 9223372036854775807
theorem flat_size (l : List Int) (h : ∀ n ∈ l, fits n) : (flat l).length ≤ 10 * l.length := by
 induction l with
 | nil => simp [flat]
 | cons n l ih =>
  have hn := h n List.mem_cons_self
  have h1 := sev_ten (tf_lt hn.1 hn.2)
  have h2 := ih (fun m hm => h m (List.mem_cons_of_mem _ hm))
  show (sev (tf n) ++ flat l).length ≤ _
  rw [List.length_append, List.length_cons]
  omega
theorem flat_snoc (l : List Int) (n : Int) : flat (l ++ [n]) = flat l ++ sev (tf n) := by simp [flat]
end
section
open Go.RowKit
theorem ret_int {k : IntKind} {a b : Int} (h : a = b) : Ending.returned (.int k a) = .returned (.int k b) := by rw [h]
theorem turned_any (n : Int) (w : World) (hn : fits n) : Calls Tryz.prog 90 #[.int .i64 n] w fun e w' => e = .returned (.int .u64 (tf n)) ∧ w = w' := by
 obtain ⟨h1, h2⟩ := hn
 by_cases h : n < 0
 · have HT := Lib.hid (tf_neg h)
   go_enter Tryz.func90, Tryz.ntmps90
   go_wp2
   go_ret
   exact ⟨ret_int HT.out.symm, rfl⟩
 · have HT := Lib.hid (tf_pos h)
   go_enter Tryz.func90, Tryz.ntmps90
   go_wp2
   go_ret
   exact ⟨ret_int HT.out.symm, rfl⟩
theorem of_any (u : Nat) (w : World) (hu : u < 18446744073709551616) : Calls Tryz.prog 105 #[.int .u64 u] w fun e w' => e = .returned (.int .i64 (fo u)) ∧ w = w' := by
 by_cases h : u % 2 = 1
 · have HT := Lib.hid (show fo u = -1 - ((u / 2 : Nat) : Int) by unfold fo; rw [if_pos h])
   have hb : ((u : Int) % 2 == 1) = true := by simp; omega
   go_enter Tryz.func105, Tryz.ntmps105
   go_wp2
   go_ret
   exact ⟨ret_int (by rw [HT.out]; omega), rfl⟩
 · have HT := Lib.hid (show fo u = ((u / 2 : Nat) : Int) by unfold fo; rw [if_neg h])
   have hb : ((u : Int) % 2 == 1) = false := by simp; omega
   go_enter Tryz.func105, Tryz.ntmps105
   go_wp2
   go_ret
   exact ⟨ret_int (by rw [HT.out]; omega), rfl⟩
end
section
open Go.RowKit
abbrev bl (s : ByteArray) : List UInt8 := s.data.toList
theorem bl_length (s : ByteArray) : (bl s).length = s.size := rfl
theorem drop_byte (s : ByteArray) (k : Nat) (h : k < s.size) : (bl s).drop k = s[k] :: (bl s).drop (k + 1) := by
 rw [List.drop_eq_getElem_cons (by rw [bl_length]; exact h)]
 rfl
theorem pow_seven (k : Nat) : (2 : Nat) ^ (7 * k) = 128 ^ k := by rw [Nat.pow_mul]
theorem or_seven {k F b : Nat} (hk : k ≤ 9) (hF : F < 128 ^ k) (hb : b % 128 * 128 ^ k < 18446744073709551616) :
  bits .or .u64 (F : Int) (IntKind.u64.wrap ((b : Int) % 128 * 2 ^ (7 * k))) = ((F + b % 128 * 128 ^ k : Nat) : Int) := by
 have e : ((b : Int) % 128 * 2 ^ (7 * k)) = ((b % 128 * 128 ^ k : Nat) : Int) := by
  rw [← pow_seven k, Int.natCast_mul, Int.natCast_pow, Int.natCast_emod]
  rfl
 have hp : 128 ^ k ≤ 128 ^ 9 := Nat.pow_le_pow_right (by omega) hk
 rw [e, IntKind.wrap_u64, Int.emod_eq_of_lt (by omega) (by omega), bits_or_u64_nat _ _ (by omega) hb]
 have h2 := Nat.shiftLeft_add_eq_or_of_lt (i := 7 * k) (b := F) (by rw [pow_seven]; exact hF) (b % 128)
 rw [Nat.shiftLeft_eq, pow_seven] at h2
 rw [Nat.or_comm, ← h2, Nat.add_comm]
theorem seven_room {k b : Nat} (hk : k ≤ 8) : b % 128 * 128 ^ k < 18446744073709551616 ∧ (∀ F, F < 128 ^ k → F + b % 128 * 128 ^ k < 128 ^ (k + 1)) ∧ 128 ^ (k + 1) ≤ 128 ^ 9 := by
 have h1 : b % 128 * 128 ^ k ≤ 127 * 128 ^ k := Nat.mul_le_mul_right _ (by omega)
 have h2 : 128 ^ k ≤ 128 ^ 8 := Nat.pow_le_pow_right (by omega) hk
 have h3 : (128 : Nat) ^ (k + 1) = 128 * 128 ^ k := by rw [Nat.pow_succ, Nat.mul_comm]
 refine ⟨by omega, fun F hF => by omega, Nat.pow_le_pow_right (by omega) (by omega)⟩
theorem nine_room {k b : Nat} (hk : k = 9) (hb : 1 ≥ b) : b % 128 * 128 ^ k < 18446744073709551616 := by
 subst hk
 rw [Nat.mod_eq_of_lt (by omega)]
 omega
theorem nine_fits {k b F : Nat} (hk : k = 9) (hF : F < 128 ^ k) (hb : 1 ≥ b) : F + b % 128 * 128 ^ k < 18446744073709551616 := by
 subst hk
 rw [Nat.mod_eq_of_lt (by omega)]
 omega
def takeE (s : ByteArray) : Ending := .returned (.tuple #[.int .i64 (take (bl s)).1, .int .i64 (take (bl s)).2.1, .int .i64 (take (bl s)).2.2])
theorem takeE_of {s : ByteArray} {n : Int} {k : Nat} {c : Int} (h : take (bl s) = (n, k, c)) : takeE s = .returned (.tuple #[.int .i64 n, .int .i64 k, .int .i64 c]) := by unfold takeE; rw [h]
theorem tk_err {k F : Nat} {b : UInt8} {t : List UInt8} (h : (k = 9 ∧ 1 < b.toNat) ∨ (0 < k ∧ b.toNat = 0)) : tk k F (b :: t) = (0, 0, 21) := by simp only [tk]; rw [if_pos h]
theorem tk_fin {k F : Nat} {b : UInt8} {t : List UInt8} (h : ¬ ((k = 9 ∧ 1 < b.toNat) ∨ (0 < k ∧ b.toNat = 0))) (hb : b.toNat < 128) : tk k F (b :: t) = (fo (F + b.toNat % 128 * 128 ^ k), k + 1, 0) := by
 simp only [tk]; rw [if_neg h, if_pos hb, Nat.mod_eq_of_lt hb]
theorem tk_on {k F : Nat} {b : UInt8} {t : List UInt8} (h : ¬ ((k = 9 ∧ 1 < b.toNat) ∨ (0 < k ∧ b.toNat = 0))) (hb : 128 ≤ b.toNat) : tk k F (b :: t) = tk (k + 1) (F + b.toNat % 128 * 128 ^ k) t := by
 have := byte_lt b
 simp only [tk]; rw [if_neg h, if_neg (by omega)]
 have e : b.toNat - 128 = b.toNat % 128 := by omega
 rw [e]
set_option maxHeartbeats 800000 in
set_option maxRecDepth 1000000 in
theorem take_any (s : ByteArray) (w : World) (hs : s.size ≤ 9223372036854775807) :
  Calls Tryz.prog 67 #[.string s] w fun e w' => e = takeE s ∧ w = w' := by
 go_enter Tryz.func67, Tryz.ntmps67
 go_wp2
 go_step3
 go_wp2
 go_step3
 go_wp2
 go_loop [3, 5, 10] (fun z f c => ∃ k F : Nat, z = .int .i64 0 ∧ k ≤ s.size ∧ k ≤ 9 ∧ c = .int .i64 k ∧ f = .int .u64 F ∧ tk k F ((bl s).drop k) = take (bl s) ∧ F < 128 ^ k) (fun _ _ c => s.size - (intOf c).toNat)
 case atStart => exact ⟨0, 0, rfl, by omega, by omega, rfl, rfl, rfl, by simp⟩
 case round =>
  obtain ⟨k, F, rfl, hk, hk9, rfl, rfl, ht, hF⟩ := hrel
  by_cases hlt : k < s.size
  · rw [drop_byte s k hlt] at ht
    have HT := Lib.hid ht
    have HF := Lib.hid hF
    clear ht hF
    by_cases h8 : k ≤ 8
    · obtain ⟨r1, r2, r3⟩ := seven_room (b := s[k].toNat) h8
      have hor := or_seven (by omega) HF.out r1
      have R2 := Lib.hid (r2 F HF.out)
      have hG : F + s[k].toNat % 128 * 128 ^ k < 18446744073709551616 := by have := R2.out; omega
      obtain ⟨G, eG⟩ : ∃ G : Nat, F + s[k].toNat % 128 * 128 ^ k = G := ⟨_, rfl⟩
      rw [eG] at hor hG
      have EG := Lib.hid eG
      clear r1 r2 r3 eG
      rcases Nat.lt_or_ge 0 k |>.symm with hk0 | hk0
      · by_cases hb : s[k].toNat < 128
        · have HE := Lib.hid (HT.out.symm.trans (tk_fin (by omega) hb))
          rw [EG.out] at HE
          have hb' : (s[k].toNat : Int) < 128 := by omega
          clear hb HT HF R2
          go_wp2_with (go_at_call 105; ((with_reducible refine (of_any G _ hG).mono ?_); rintro e w' ⟨rfl, rfl⟩))
          try rw [Exit.noGoto_ret]
          go_ret3
          exact ⟨by rw [takeE_of HE.out]; rfl, rfl⟩
        · have HE := Lib.hid ((tk_on (t := (bl s).drop (k + 1)) (F := F) (by omega) (by omega)).symm.trans HT.out)
          rw [EG.out] at HE
          rw [EG.out] at R2
          have hb' : (128 : Int) ≤ (s[k].toNat : Int) := by omega
          clear hb HT HF
          go_wp2
          go_round
          case rel => exact ⟨k + 1, G, rfl, by omega, by omega, by go_num, rfl, HE.out, R2.out⟩
          case measure => simp [intOf]; omega
      · rcases Nat.lt_or_ge 0 s[k].toNat |>.symm with hz | hz
        · have hb0 : ((s[k].toNat : Int) == 0) = true := by simp; omega
          have HE := Lib.hid (HT.out.symm.trans (tk_err (by omega)))
          clear HT HF R2 hz
          go_wp2
          try rw [Exit.noGoto_ret]
          go_ret3
          exact ⟨by rw [takeE_of HE.out]; rfl, rfl⟩
        · by_cases hb : s[k].toNat < 128
          · have HE := Lib.hid (HT.out.symm.trans (tk_fin (by omega) hb))
            rw [EG.out] at HE
            have hb' : (s[k].toNat : Int) < 128 := by omega
            have hb0 : ((s[k].toNat : Int) == 0) = false := by simp; omega
            clear hb HT HF R2 hz
            go_wp2_with (go_at_call 105; ((with_reducible refine (of_any G _ hG).mono ?_); rintro e w' ⟨rfl, rfl⟩))
            try rw [Exit.noGoto_ret]
            go_ret3
            exact ⟨by rw [takeE_of HE.out]; rfl, rfl⟩
          · have HE := Lib.hid ((tk_on (t := (bl s).drop (k + 1)) (F := F) (by omega) (by omega)).symm.trans HT.out)
            rw [EG.out] at HE R2
            have hb' : (128 : Int) ≤ (s[k].toNat : Int) := by omega
            have hb0 : ((s[k].toNat : Int) == 0) = false := by simp; omega
            clear hb HT HF hz
            go_wp2
            go_round
            case rel => exact ⟨k + 1, G, rfl, by omega, by omega, by go_num, rfl, HE.out, R2.out⟩
            case measure => simp [intOf]; omega
    · rcases Nat.lt_or_ge 1 s[k].toNat with hz | hz
      · have hb1 : (1 : Int) < (s[k].toNat : Int) := by omega
        have HE := Lib.hid (HT.out.symm.trans (tk_err (by omega)))
        clear HT HF hz
        go_wp2
        try rw [Exit.noGoto_ret]
        go_ret3
        exact ⟨by rw [takeE_of HE.out]; rfl, rfl⟩
      · have hb1 : (s[k].toNat : Int) ≤ 1 := by omega
        rcases Nat.lt_or_ge 0 s[k].toNat |>.symm with hy | hy
        · have hb0 : ((s[k].toNat : Int) == 0) = true := by simp; omega
          have HE := Lib.hid (HT.out.symm.trans (tk_err (by omega)))
          clear HT HF hz hy
          go_wp2
          try rw [Exit.noGoto_ret]
          go_ret3
          exact ⟨by rw [takeE_of HE.out]; rfl, rfl⟩
        · have hr : s[k].toNat % 128 * 128 ^ k < 18446744073709551616 := nine_room (by omega) hz
          have hor := or_seven (by omega) HF.out hr
          have hG : F + s[k].toNat % 128 * 128 ^ k < 18446744073709551616 := nine_fits (by omega) HF.out hz
          obtain ⟨G, eG⟩ : ∃ G : Nat, F + s[k].toNat % 128 * 128 ^ k = G := ⟨_, rfl⟩
          rw [eG] at hor hG
          have EG := Lib.hid eG
          clear hr eG
          have HE := Lib.hid (HT.out.symm.trans (tk_fin (by omega) (by omega)))
          rw [EG.out, show k + 1 = 10 by omega] at HE
          have hb' : (s[k].toNat : Int) < 128 := by omega
          have hb0 : ((s[k].toNat : Int) == 0) = false := by simp; omega
          clear HT HF hz hy
          go_wp2_with (go_at_call 105; ((with_reducible refine (of_any G _ hG).mono ?_); rintro e w' ⟨rfl, rfl⟩))
          try rw [Exit.noGoto_ret]
          go_ret3
          exact ⟨by rw [takeE_of HE.out]; rfl, rfl⟩
  · have hp : (bl s).drop k = [] := List.drop_eq_nil_of_le (by rw [bl_length]; omega)
    rw [hp] at ht
    have HT := Lib.hid ht
    clear ht hp
    go_wp2
    try rw [Exit.noGoto_ret]
    go_ret3
    exact ⟨by rw [takeE_of HT.out.symm]; rfl, rfl⟩
end
section
open Go.RowKit
def Rd (w : World) (B : Nat) (a : Option Addr) (l : List Int) : Prop :=
 l ≠ [] → ∃ b o, a = some ⟨b, o, none⟩ ∧ b < B ∧ ∀ j, j < l.length → w.cell? ⟨b, o + j, none⟩ = some (.int .i64 (l.getD j 0))
def byteV (b : UInt8) : Value := .int .u8 b.toNat
def txt (l : List UInt8) : ByteArray := ⟨l.toArray⟩
theorem txt_bl (l : List UInt8) : bl (txt l) = l := rfl
theorem txt_size (l : List UInt8) : (txt l).size = l.length := by simp [txt, ByteArray.size]
theorem info5 : (Tryz.prog.info? 5).map (fun i => (i.zero, i.size, i.bytes)) = some (some (.int .u8 0), 1, 1) := by kernel_rfl
theorem own_below {W W' : World} {B e size n : Nat} {v : Value} {xs : List Value} (h : W.ownsRow B e size v n xs) (hb : Below W.heap.size W W') : W'.ownsRow B e size v n xs :=
 h.kept (row := none) ⟨hb.os, hb.tape, hb.output, hb.size, fun k hk _ => hb.block k hk⟩ (by cases hv : v.ownBlock <;> simp)
theorem cell_one_new (w : World) (x : Value) (t : TypeId) : ∀ j u, [x][j]? = some u → (w.alloc (.cells #[x] t)).cell? ((⟨w.heap.size, 0, none⟩ : Addr).add j) = some u := by
 intro j u hj
 match j, hj with
 | 0, hj => simp at hj; subst hj; simp [Addr.add]
 | (j + 1), hj => simp at hj
theorem own_cases {w : World} {B e n : Nat} {v : Value} {xs : List Value} (h : w.ownsRow B e 1 v n xs) :
  (v = .slice none 0 0 ∧ n = 0) ∨ ∃ g cap, v = .slice (some ⟨g, 0, none⟩) n cap ∧ n ≤ cap ∧ cap ≤ maxLen ∧ B ≤ g ∧ g < w.heap.size ∧ ∀ j u, xs[j]? = some u → w.cell? ⟨g, j, none⟩ = some u := by
 rcases h.2 with h0 | ⟨g, cap, cur, rfl, hb, hg, h1, h2, h3, h4⟩
 · exact .inl h0
 · refine .inr ⟨g, cap, rfl, h1, h2, hb, (Array.getElem?_eq_some_iff.1 hg).1, fun j u hj => ?_⟩
   have := h.cells (g := g) rfl j u hj
   have hadd : (⟨g, 0, none⟩ : Addr).add j = ⟨g, j, none⟩ := by unfold Addr.add; split <;> simp_all
   rwa [hadd] at this
theorem nums_txt (l : List UInt8) : strOfNums (l.map fun b => (b.toNat : Int)) = txt l := by
 unfold strOfNums txt
 congr 2
 rw [List.map_map]
 conv => rhs; rw [← List.map_id l]
 exact List.map_congr_left fun b _ => by simp
theorem own_string {w : World} {B : Nat} {v : Value} {l : List UInt8} (h : w.ownsRow B 5 1 v l.length (l.map byteV)) : (convert 156 9 v).run Tryz.prog w = .ok (.string (txt l)) w := by
 rcases own_cases h with ⟨rfl, h0⟩ | ⟨g, cap, rfl, _, _, _, _, hc⟩
 · obtain rfl := List.eq_nil_of_length_eq_zero h0
   exact run_convert_bytes_nil w 156 5 Tryz.underlying156 Tryz.underlying5 0 0 9 Tryz.underlying9
 · rw [← nums_txt]
   refine run_convert_bytes_arg w 156 5 Tryz.underlying156 Tryz.underlying5 g 0 _ cap _ (by simp) (fun i hi => ?_) 9 Tryz.underlying9
   rw [Nat.zero_add]
   refine hc i _ ?_
   rw [List.getElem?_map, List.getElem?_eq_getElem hi, List.getD_eq_getElem?_getD, List.getElem?_map, List.getElem?_eq_getElem hi]
   rfl
def PutIn (l : List Int) (k : Nat) (w wr : World) (v3 v6 : Value) (g : Nat) : Prop :=
 ∃ (done : List UInt8) (U : Nat), v6 = .int .u64 U ∧ U < 18446744073709551616 ∧ done ++ sev U = flat (l.take (k + 1)) ∧ U ≤ g ∧ wr.ownsRow w.heap.size 5 1 v3 done.length (done.map byteV) ∧ Below w.heap.size w wr
def PutOut (l : List Int) (w wr : World) (v3 v12 : Value) (g : Nat) : Prop :=
 ∃ k : Nat, k + g = l.length ∧ v12 = .int .i64 k ∧ wr.ownsRow w.heap.size 5 1 v3 (flat (l.take k)).length ((flat (l.take k)).map byteV) ∧ Below w.heap.size w wr
def PutPost (l : List Int) (w : World) (e : Ending) (w' : World) : Prop := e = .returned (.string (txt (flat l))) ∧ Below w.heap.size w w'
set_option maxRecDepth 100000 in
theorem or_high (U : Nat) : bits .or .u8 ((U : Int) % 256) 128 = ((U % 128 + 128 : Nat) : Int) := by
 have e : (U : Int) % 256 = ((U % 256 : Nat) : Int) := by omega
 rw [e]
 have h := (bits_nat .u8 8 (by decide) wraps_u8 (U % 256) 128 (by omega) (by omega)).2
 have hm : ∀ m : Fin 256, m.val ||| 128 = m.val % 128 + 128 := by decide
 have h2 := hm ⟨U % 256, by omega⟩
 simp only at h2
 have h3 : U % 256 % 128 = U % 128 := by omega
 rw [h2, h3] at h
 exact h
theorem take_more {l : List Int} {k : Nat} {x : Int} (hk : k < l.length) (hx : l.getD k 0 = x) : flat (l.take (k + 1)) = flat (l.take k) ++ sev (tf x) := by
 have h : l[k]? = some x := by
  rw [List.getD_eq_getElem?_getD, List.getElem?_eq_getElem hk] at hx
  rw [List.getElem?_eq_getElem hk]
  simpa using hx
 rw [List.take_add_one, h]
 exact flat_snoc _ _
theorem take_size' {l : List Int} (hf : ∀ n ∈ l, fits n) (k : Nat) : (flat (l.take k)).length ≤ 10 * l.length := by
 have h := flat_size (l.take k) (fun n hn => hf n (List.mem_of_mem_take hn))
 have h2 := List.length_take_le k l
 have h3 : (l.take k).length ≤ l.length := by rw [List.length_take]; omega
 omega
theorem put_last {l : List Int} {k g U : Nat} {w wr w2 : World} {done : List UInt8} {v4 : Value} (hg : k + (g + 1) = l.length) (hU : U < 128) (hd : done ++ sev U = flat (l.take (k + 1)))
  (hb : Below w.heap.size w wr) {o : Obj} {r : Option Nat} (hr : ∀ j, r = some j → w.heap.size ≤ j) (k4 : w2.ownsRow w.heap.size 5 1 v4 (done.length + 1) (done.map byteV ++ [.int .u8 (U : Int)])) (g4 : (wr.alloc o).grownBy w2 r) {v12 : Value} (hv : v12 = .int .i64 (k + 1 : Nat)) :
  PutOut l w w2 v4 v12 g := by
 rw [sev_small hU] at hd
 refine ⟨k + 1, by omega, hv, ?_, (hb.alloc hb.size _).grown g4 (by rw [World.size_alloc]; have := hb.size; omega) hr⟩
 rw [← hd]
 have e : byteV (UInt8.ofNat U) = .int .u8 (U : Int) := by unfold byteV; rw [ofNat_toNat (by omega)]
 simpa [e] using k4
theorem put_on {l : List Int} {k g U : Nat} {w wr w2 : World} {done : List UInt8} {v4 : Value} (hU : ¬ U < 128) (hU2 : U < 18446744073709551616) (hd : done ++ sev U = flat (l.take (k + 1)))
  (hb : Below w.heap.size w wr) {o : Obj} {r : Option Nat} (hr : ∀ j, r = some j → w.heap.size ≤ j) (k4 : w2.ownsRow w.heap.size 5 1 v4 (done.length + 1) (done.map byteV ++ [.int .u8 ((U % 128 + 128 : Nat) : Int)])) (g4 : (wr.alloc o).grownBy w2 r) {v6 : Value} (hv : v6 = .int .u64 (U / 128 : Nat)) (hg : U / 128 ≤ g) :
  PutIn l k w w2 v4 v6 g := by
 rw [sev_big hU] at hd
 refine ⟨done ++ [UInt8.ofNat (U % 128 + 128)], U / 128, hv, by omega, by rw [← hd, List.append_assoc]; rfl, hg, ?_, (hb.alloc hb.size _).grown g4 (by rw [World.size_alloc]; have := hb.size; omega) hr⟩
 have e : byteV (UInt8.ofNat (U % 128 + 128)) = .int .u8 ((U % 128 + 128 : Nat) : Int) := by unfold byteV; rw [ofNat_toNat (by omega)]
 rw [List.length_append, List.map_append, List.map_cons, List.map_nil, e]
 exact k4
set_option maxHeartbeats 1600000 in
set_option maxRecDepth 1000000 in
theorem put_any (l : List Int) (a : Option Addr) (cap : Nat) (w : World) (hr : Rd w w.heap.size a l) (hf : ∀ n ∈ l, fits n) (hl : l.length ≤ 1000000) :
  Calls Tryz.prog 53 #[.slice a l.length cap] w (PutPost l w) := by
 obtain ⟨i0, hi, hz0, hz1, hz2⟩ := info_parts info5
 obtain ⟨w1, hmk, hown0, hg0⟩ := run_make_own (P := Tryz.prog) (w := w) w.heap.size 156 5 i0 (.int .u8 0) 1 Tryz.underlying156 hi hz0 hz1 .i64 .i64 l.length (by rw [hz2]; omega) (by unfold maxLen; omega) (Nat.le_refl _)
 have HR := Lib.hid hr; have HF := Lib.hid hf
 clear hr hf
 go_enter Tryz.func53, Tryz.ntmps53
 go_wp2
 go_step3
 go_wp2
 go_step3
 go_wp2
 clear hmk
 go_loopg [3, 12] l.length (fun g v3 v12 wr => PutOut l w wr v3 v12 g)
 case atStart => exact ⟨0, by omega, rfl, hown0, (Below.refl _ _).grown hg0 (Nat.le_refl _) (by simp)⟩
 case round =>
  obtain ⟨k, hkg, rfl, hown, hb⟩ := hrel
  have HO := Lib.hid hown; have HB := Lib.hid hb
  clear hown hb
  cases gk with
  | zero =>
   have hkz : ¬ ((k : Int) < (l.length : Int)) := by omega
   have hcv := own_string HO.out
   rw [show k = l.length by omega, List.take_length] at hcv
   go_wp2
   try rw [Exit.noGoto_ret]
   go_ret
   exact ⟨rfl, HB.out⟩
  | succ g =>
   have hkz : (k : Int) < (l.length : Int) := by omega
   obtain ⟨b, o, rfl, hlt, hc⟩ := HR.out (by intro e; rw [e] at hkz; simp at hkz; omega)
   have hck := (HB.out.cell (p := ⟨b, o + k, none⟩) hlt).trans (hc k (by omega))
   have hfk : fits (l.getD k 0) := HF.out _ (by rw [List.getD_eq_getElem?_getD, List.getElem?_eq_getElem (by omega)]; simp)
   obtain ⟨x, ex⟩ : ∃ x, l.getD k 0 = x := ⟨_, rfl⟩
   rw [ex] at hck hfk
   have EX := Lib.hid ex
   clear hc ex
   go_wp2_with (go_at_call 90; ((with_reducible refine (turned_any _ _ hfk).mono ?_); rintro e w' ⟨rfl, rfl⟩))
   obtain ⟨wo, rfl⟩ : ∃ wo : World, wo = wr := ⟨_, rfl⟩
   go_loopg [3, 6] (tf x) (fun g2 v3 v6 wr => PutIn l k w wr v3 v6 g2)
   case atStart => exact ⟨flat (l.take k), tf x, rfl, tf_lt hfk.1 hfk.2, (take_more (by omega) EX.out).symm, Nat.le_refl _, HO.out, HB.out⟩
   case round =>
    obtain ⟨done, U, rfl, hU, hd, hUg, hown, hb⟩ := hrel
    have hlen : done.length ≤ 10000000 := by
     have h1 := take_size' HF.out (k + 1)
     rw [← hd, List.length_append] at h1
     omega
    have HSZ : Hid (∀ o, w.heap.size ≤ (wr.alloc o).heap.size) := Lib.hid (fun o => by rw [World.size_alloc]; have := hb.size; omega)
    have HL := Lib.hid (fun j hj => (hown.lt j hj).1)
    have HD := Lib.hid hd; have HO2 := Lib.hid hown; have HB2 := Lib.hid hb
    clear hd hown hb
    have hor := or_high U
    obtain ⟨V, eV⟩ : ∃ V, U % 128 + 128 = V := ⟨_, rfl⟩
    rw [eV] at hor
    have EV := Lib.hid eV
    clear eV
    by_cases hs : U < 128
    · have hs' : (U : Int) < 128 := by omega
      go_wp2_with (at_builtin; refine wpList_append_own _ rfl (.tmp 22) (.tmp 25) 156 rfl w.heap.size 5 i0 (.int .u8 0) 1 1 Tryz.underlying156 hi hz0 hz1 hz2 rfl (by decide) _ _ _ rfl (HO2.out.alloc _) ⟨_, 0, none⟩ 1 1 [.int .u8 (U : Int)] rfl rfl (cell_one_new _ _ _) (by simp [Value.oneCell']) (by unfold maxLen; omega) (by omega) (HSZ.out _) ?_)
      intro v4 w2 k4 g4 _
      have HR2 := Lib.hid (fun (v12 : Value) (hv : v12 = .int .i64 (k + 1 : Nat)) => put_last (g := g) (by omega) hs HD.out HB2.out HL.out k4 g4 hv)
      clear k4 g4
      go_wp2
      go_roundg g
      case measure => omega
      case rel => exact HR2.out _ (by go_num)
    · have hs' : (128 : Int) ≤ (U : Int) := by omega
      go_wp2_with (at_builtin; refine wpList_append_own _ rfl (.tmp 27) (.tmp 31) 156 rfl w.heap.size 5 i0 (.int .u8 0) 1 1 Tryz.underlying156 hi hz0 hz1 hz2 rfl (by decide) _ _ _ rfl (HO2.out.alloc _) ⟨_, 0, none⟩ 1 1 [.int .u8 (V : Int)] rfl rfl (cell_one_new _ _ _) (by simp [Value.oneCell']) (by unfold maxLen; omega) (by omega) (HSZ.out _) ?_)
      intro v4 w2 k4 g4 _
      rw [← EV.out] at k4
      have HR2 := Lib.hid (fun (v6 : Value) (hv : v6 = .int .u64 (U / 128 : Nat)) => put_on (g := U / 128) hs hU HD.out HB2.out HL.out k4 g4 hv (Nat.le_refl _))
      clear k4 g4
      go_wp2
      go_roundg (U / 128)
      case measure => omega
      case rel => exact HR2.out _ (by go_num)
end
section
open Go.RowKit
def intV (n : Int) : Value := .int .i64 n
theorem take_of {s : ByteArray} {n : Int} {k : Nat} {c : Int} (h : take (bl s) = (n, k, c)) (w : World) (hs : s.size ≤ 9223372036854775807) :
  Calls Tryz.prog 67 #[.string s] w fun e w' => e = .returned (.tuple #[.int .i64 n, .int .i64 k, .int .i64 c]) ∧ w = w' := by
 have := take_any s w hs; rwa [takeE_of h] at this
end
section
open Go.RowKit
theorem below_on' {w w' w'' : World} (h : Below w.heap.size w w') (k : Below w'.heap.size w' w'') : Below w.heap.size w w'' := h.trans (k.mono h.size)
def putO (s : ByteArray) : ByteArray × Int := if 65536 < s.size then (txt [], 3) else (txt (sev (tf s.size)) ++ s, 0)
theorem str_ne {a b : ByteArray} (h : a ≠ b) : (a.toList == b.toList) = false := by
 rw [beq_eq_false_iff_ne]
 intro e
 rw [ByteArray.toList_eq, ByteArray.toList_eq] at e
 exact h (WideShapes.bytes_inj e)
theorem below_drewN (w : World) (q : Nat) : Below w.heap.size w (w.drewN q) := ⟨rfl, rfl, rfl, Nat.le_refl _, fun _ _ => rfl⟩
theorem fits_wf {n : Int} (h : (Lit.int .i64 n).wf = true) : fits n := by
 simp [Lit.wf, IntKind.min, IntKind.max, IntKind.signed, IntKind.bits] at h
 exact ⟨by omega, by omega⟩
end
end Go.Proofs.YtepdecnegihhhaaGreatDoor.byt
