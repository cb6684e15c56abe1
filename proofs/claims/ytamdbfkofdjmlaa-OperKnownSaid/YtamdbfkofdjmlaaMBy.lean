/- Plain facts on numbers and their bytes: the turned form, the bytes by sevens of bits, what bytes begin with. No program in this file. What bytes.turnedForm and bytes.ofTurnedForm answer of every number. What bytes.Take answers: of every text. What bytes.Put answers: of every row of numbers that fit. What bytes.Take answers, as callers meet it; what Numbers is to answer. What bytes.PutText and bytes.TakeText answer of every text; Put as its callers meet it. -/
import Derived.RowKit
import Derived.Test.YtamdbfkofdjmlaaRows
import Derived.WalkKit
import Derived.BigQuiet
import Derived.Handy
import Derived.Lib.Hide
import Derived.Deep.LoopGhost
import Derived.Laws.Bits64b
import Derived.Lib.OthersKept
import Derived.OwnWalk
import Derived.Laws.BytesArg
section
namespace Go.Proofs.Ytamdbfkofdjmlaa.byt

/-- A number's turned form. -/
def tf (n : Int) : Nat := if n < 0 then 2 * (-1 - n).toNat + 1 else 2 * n.toNat
/-- The number of a turned form. -/
def fo (u : Nat) : Int := if u % 2 = 1 then -1 - ((u / 2 : Nat) : Int) else ((u / 2 : Nat) : Int)
theorem fo_tf (n : Int) : fo (tf n) = n := by
  unfold fo tf
  by_cases h : n < 0
  · rw [if_pos h, if_pos (by omega)]; omega
  · rw [if_neg h, if_neg (by omega)]; omega
theorem tf_fo (u : Nat) : tf (fo u) = u := by
  unfold fo
  by_cases h : u % 2 = 1
  · rw [if_pos h]; unfold tf; rw [if_pos (by omega)]; omega
  · rw [if_neg h]; unfold tf; rw [if_neg (by omega)]; omega
theorem tf_lt {n : Int} (h1 : -9223372036854775808 ≤ n) (h2 : n ≤ 9223372036854775807) : tf n < 18446744073709551616 := by
  unfold tf
  split <;> omega
theorem fo_in {u : Nat} (h : u < 18446744073709551616) : -9223372036854775808 ≤ fo u ∧ fo u ≤ 9223372036854775807 := by
  unfold fo
  split <;> omega
theorem tf_neg {n : Int} (h : n < 0) : ((tf n : Nat) : Int) = 2 * (-1 - n) + 1 := by unfold tf; rw [if_pos h]; omega
theorem tf_pos {n : Int} (h : ¬ n < 0) : ((tf n : Nat) : Int) = 2 * n := by unfold tf; rw [if_neg h]; omega

/-- The bytes of a turned form, by sevens of bits. -/
def sev (u : Nat) : List UInt8 := if u < 128 then [UInt8.ofNat u] else UInt8.ofNat (u % 128 + 128) :: sev (u / 128)
termination_by u
theorem sev_small {u : Nat} (h : u < 128) : sev u = [UInt8.ofNat u] := by rw [sev, if_pos h]
theorem sev_big {u : Nat} (h : ¬ u < 128) : sev u = UInt8.ofNat (u % 128 + 128) :: sev (u / 128) := by rw [sev, if_neg h]
theorem ofNat_toNat {u : Nat} (h : u < 256) : (UInt8.ofNat u).toNat = u := by simp [UInt8.toNat_ofNat']; omega
theorem ofNat_self (b : UInt8) : UInt8.ofNat b.toNat = b := by simp
theorem byte_lt (b : UInt8) : b.toNat < 256 := b.toNat_lt
theorem sev_pos (u : Nat) : 1 ≤ (sev u).length := by
  by_cases h : u < 128
  · rw [sev_small h]; simp
  · rw [sev_big h]; simp
theorem sev_le (u k : Nat) (h : u < 128 ^ (k + 1)) : (sev u).length ≤ k + 1 := by
  induction k generalizing u with
  | zero => rw [sev_small (by simpa using h)]; simp
  | succ k ih =>
    by_cases hs : u < 128
    · rw [sev_small hs]; simp
    · rw [sev_big hs, List.length_cons]
      have := ih (u / 128) (by rw [Nat.pow_succ] at h; omega)
      omega
theorem sev_ten {u : Nat} (h : u < 18446744073709551616) : (sev u).length ≤ 10 := sev_le u 9 (by omega)
theorem sev_mono (u v : Nat) (h : u / 2 ≤ v / 2) : (sev u).length ≤ (sev v).length := by
  induction u using Nat.strongRecOn generalizing v with
  | ind u ih =>
    by_cases hs : u < 128
    · rw [sev_small hs]; exact sev_pos v
    · rw [sev_big hs, sev_big (show ¬ v < 128 by omega), List.length_cons, List.length_cons]
      have := ih (u / 128) (by omega) (v / 128) (by omega)
      omega

/-- What bytes begin with, once i bytes of the form f are read: the number, how many bytes, the code. -/
def tk (i f : Nat) : List UInt8 → Int × Nat × Int
  | [] => (0, 0, 20)
  | b :: t =>
    if (i = 9 ∧ 1 < b.toNat) ∨ (0 < i ∧ b.toNat = 0) then (0, 0, 21)
    else if b.toNat < 128 then (fo (f + b.toNat * 128 ^ i), i + 1, 0)
    else tk (i + 1) (f + (b.toNat - 128) * 128 ^ i) t

theorem pow_room {i : Nat} (h : i ≤ 8) : 2 ^ (64 - 7 * i) = 128 * 2 ^ (64 - 7 * (i + 1)) := by
  have : 64 - 7 * i = 7 + (64 - 7 * (i + 1)) := by omega
  rw [this, Nat.pow_add]
theorem mul_parts (a b p : Nat) : (a + 128 * b) * p = a * p + b * (p * 128) := by
  rw [Nat.add_mul, Nat.mul_comm 128 b, Nat.mul_assoc, Nat.mul_comm 128 p]

theorem tk_sev (u : Nat) : ∀ (i f : Nat) (t : List UInt8), i ≤ 9 → u < 2 ^ (64 - 7 * i) → (0 < i → 0 < u) → tk i f (sev u ++ t) = (fo (f + u * 128 ^ i), i + (sev u).length, 0) := by
  induction u using Nat.strongRecOn with
  | ind u ih =>
    intro i f t hi hu h0
    by_cases hs : u < 128
    · rw [sev_small hs]
      simp only [List.cons_append, List.nil_append, tk, List.length_cons, List.length_nil]
      rw [ofNat_toNat (by omega), if_neg, if_pos hs]
      rintro (⟨rfl, h⟩ | ⟨h1, h2⟩)
      · have : u < 2 := hu
        omega
      · have := h0 h1; omega
    · have hi8 : i ≤ 8 := by
        rcases Nat.lt_or_ge i 9 with h | h
        · omega
        · obtain rfl : i = 9 := by omega
          have : u < 2 := hu
          omega
      rw [pow_room hi8] at hu
      have key := ih (u / 128) (by omega) (i + 1) (f + u % 128 * 128 ^ i) t (by omega) (by omega) (fun _ => by omega)
      rw [sev_big hs]
      simp only [List.cons_append, tk, List.length_cons]
      rw [ofNat_toNat (by omega), if_neg (by omega), if_neg (by omega), Nat.add_sub_cancel, key]
      have e : u * 128 ^ i = u % 128 * 128 ^ i + u / 128 * 128 ^ (i + 1) := by
        rw [Nat.pow_succ, ← mul_parts, Nat.mod_add_div]
      rw [e, Nat.add_assoc, Nat.add_right_comm, Nat.add_assoc i]

theorem tk_bad (s : List UInt8) : ∀ i f, (tk i f s).2.2 ≠ 0 → tk i f s = (0, 0, 20) ∨ tk i f s = (0, 0, 21) := by
  induction s with
  | nil => intro i f _; exact .inl rfl
  | cons b t ih =>
    intro i f h
    simp only [tk] at h ⊢
    split
    · exact .inr rfl
    · rename_i hn
      rw [if_neg hn] at h
      split
      · rename_i hb
        rw [if_pos hb] at h
        exact absurd rfl h
      · rename_i hb
        rw [if_neg hb] at h
        exact ih _ _ h

theorem tk_ok (s : List UInt8) : ∀ i f, i ≤ 9 → (tk i f s).2.2 = 0 → ∃ u t, s = sev u ++ t ∧ tk i f s = (fo (f + u * 128 ^ i), i + (sev u).length, 0) ∧ u < 2 ^ (64 - 7 * i) ∧ (0 < i → 0 < u) := by
  induction s with
  | nil => intro i f _ h; simp [tk] at h
  | cons b t ih =>
    intro i f hi h
    simp only [tk] at h ⊢
    by_cases hn : (i = 9 ∧ 1 < b.toNat) ∨ (0 < i ∧ b.toNat = 0)
    · rw [if_pos hn] at h; simp at h
    · rw [if_neg hn] at h ⊢
      by_cases hb : b.toNat < 128
      · rw [if_pos hb]
        have hlt : b.toNat < 2 ^ (64 - 7 * i) := by
          rcases Nat.lt_or_ge i 9 with h9 | h9
          · have := pow_room (i := i) (by omega)
            have := Nat.two_pow_pos (64 - 7 * (i + 1))
            omega
          · obtain rfl : i = 9 := by omega
            have : b.toNat ≤ 1 := by omega
            show b.toNat < 2
            omega
        exact ⟨b.toNat, t, by rw [sev_small hb, ofNat_self]; rfl, by rw [sev_small hb]; rfl, hlt, fun h0 => by omega⟩
      · rw [if_neg hb] at h ⊢
        have hi8 : i ≤ 8 := by omega
        obtain ⟨u, t', rfl, he, hu, h0⟩ := ih (i + 1) (f + (b.toNat - 128) * 128 ^ i) (by omega) h
        have hu0 := h0 (by omega)
        have hbl := byte_lt b
        have hsev : sev (b.toNat - 128 + 128 * u) = b :: sev u := by
          rw [sev_big (by omega)]
          have e1 : (b.toNat - 128 + 128 * u) % 128 + 128 = b.toNat := by omega
          have e2 : (b.toNat - 128 + 128 * u) / 128 = u := by omega
          rw [e1, e2, ofNat_self]
        refine ⟨b.toNat - 128 + 128 * u, t', by rw [hsev]; rfl, ?_, by rw [pow_room hi8]; omega, fun _ => by omega⟩
        rw [he, hsev, List.length_cons, mul_parts, ← Nat.pow_succ, Nat.add_assoc, Nat.add_right_comm, Nat.add_assoc i]

/-- What bytes begin with. -/
def take (s : List UInt8) : Int × Nat × Int := tk 0 0 s
theorem take_sev {u : Nat} (t : List UInt8) (h : u < 18446744073709551616) : take (sev u ++ t) = (fo u, (sev u).length, 0) := by
  have := tk_sev u 0 0 t (by omega) h (by omega)
  simpa [take] using this
theorem take_ok {s : List UInt8} (h : (take s).2.2 = 0) : ∃ u t, s = sev u ++ t ∧ take s = (fo u, (sev u).length, 0) ∧ u < 18446744073709551616 := by
  obtain ⟨u, t, h1, h2, h3, _⟩ := tk_ok s 0 0 (by omega) h
  exact ⟨u, t, h1, by simpa [take] using h2, h3⟩
theorem take_bad {s : List UInt8} (h : (take s).2.2 ≠ 0) : take s = (0, 0, 20) ∨ take s = (0, 0, 21) := tk_bad s 0 0 h
/-- What is taken is of s's bytes, ten at most, and fits. -/
theorem take_size {s : List UInt8} (h : (take s).2.2 = 0) : 1 ≤ (take s).2.1 ∧ (take s).2.1 ≤ 10 ∧ (take s).2.1 ≤ s.length ∧ -9223372036854775808 ≤ (take s).1 ∧ (take s).1 ≤ 9223372036854775807 := by
  obtain ⟨u, t, rfl, h2, h3⟩ := take_ok h
  rw [h2]
  have h4 := fo_in h3
  exact ⟨sev_pos u, sev_ten h3, by simp, h4.1, h4.2⟩
theorem sev_one {u v : Nat} {t : List UInt8} (hu : u < 18446744073709551616) (hv : v < 18446744073709551616) (h : sev u ++ t = sev v) : u = v := by
  have h1 := take_sev t hu
  have h2 := take_sev [] hv
  rw [List.append_nil, ← h, h1] at h2
  have h3 : fo u = fo v := congrArg (·.1) h2
  rw [← tf_fo u, ← tf_fo v, h3]

/-- The bytes of numbers, one behind the other. -/
def flat (l : List Int) : List UInt8 := l.flatMap fun n => sev (tf n)
/-- All numbers whose bytes they are, behind those that are had; so many at most. -/
def nums : Nat → List Int → List UInt8 → List Int × Int
  | 0, acc, _ => (acc, 0)
  | f + 1, acc, s =>
    if s = [] then (acc, 0)
    else if (take s).2.2 = 0 then nums f (acc ++ [(take s).1]) (s.drop (take s).2.1)
    else ([], (take s).2.2)
def fits (n : Int) : Prop := -9223372036854775808 ≤ n ∧ n ≤ 9223372036854775807
theorem nums_end (f : Nat) (acc : List Int) : nums f acc [] = (acc, 0) := by cases f <;> simp [nums]
theorem nums_step {f : Nat} {acc : List Int} {s : List UInt8} (hs : s ≠ []) (h : (take s).2.2 = 0) : nums (f + 1) acc s = nums f (acc ++ [(take s).1]) (s.drop (take s).2.1) := by
  rw [nums, if_neg hs, if_pos h]
theorem nums_bad {f : Nat} {acc : List Int} {s : List UInt8} (hs : s ≠ []) (h : (take s).2.2 ≠ 0) : nums (f + 1) acc s = ([], (take s).2.2) := by
  rw [nums, if_neg hs, if_neg h]
theorem nums_flat (l : List Int) : ∀ (f : Nat) (acc : List Int), (∀ n ∈ l, fits n) → (flat l).length ≤ f → nums f acc (flat l) = (acc ++ l, 0) := by
  induction l with
  | nil => intro f acc _ _; rw [show flat [] = [] from rfl, nums_end, List.append_nil]
  | cons n l ih =>
    intro f acc hf hl
    have e : flat (n :: l) = sev (tf n) ++ flat l := rfl
    have hp := sev_pos (tf n)
    rw [e, List.length_append] at hl
    have hn := hf n List.mem_cons_self
    have ht := take_sev (flat l) (tf_lt hn.1 hn.2)
    match f, hl with
    | 0, hl => omega
    | f + 1, hl =>
      have hne : sev (tf n) ++ flat l ≠ [] := by
        intro h0
        have := congrArg List.length h0
        rw [List.length_append, List.length_nil] at this
        omega
      rw [e, nums_step hne (by rw [ht]), ht]
      simp only [List.drop_left]
      rw [ih f _ (fun m hm => hf m (List.mem_cons_of_mem _ hm)) (by omega), fo_tf, List.append_assoc]
      rfl
theorem nums_ok : ∀ (f : Nat) (acc : List Int) (s : List UInt8), s.length ≤ f → (nums f acc s).2 = 0 → ∃ l, (nums f acc s).1 = acc ++ l ∧ flat l = s ∧ (∀ n ∈ l, fits n) ∧ l.length ≤ s.length := by
  intro f
  induction f with
  | zero =>
    intro acc s hl _
    obtain rfl : s = [] := List.eq_nil_of_length_eq_zero (by omega)
    exact ⟨[], by simp [nums], rfl, by simp, by simp⟩
  | succ f ih =>
    intro acc s hl h
    by_cases hs : s = []
    · subst hs
      exact ⟨[], by simp [nums], rfl, by simp, by simp⟩
    · by_cases h0 : (take s).2.2 = 0
      · rw [nums_step hs h0] at h ⊢
        have hsz := take_size h0
        obtain ⟨u, t, rfl, h2, h3⟩ := take_ok h0
        rw [h2] at h hsz ⊢
        simp only [List.drop_left] at h ⊢
        rw [List.length_append] at hl
        simp only at hsz
        obtain ⟨l, e1, e2, e3, e4⟩ := ih _ t (by omega) h
        refine ⟨fo u :: l, by rw [e1, List.append_assoc]; rfl, ?_, ?_, by simp; omega⟩
        · show sev (tf (fo u)) ++ flat l = _
          rw [tf_fo, e2]
        · intro n hn
          rcases List.mem_cons.1 hn with rfl | hn
          · exact fo_in h3
          · exact e3 n hn
      · rw [nums_bad hs h0] at h; exact absurd h h0
theorem flat_size (l : List Int) (h : ∀ n ∈ l, fits n) : (flat l).length ≤ 10 * l.length := by
  induction l with
  | nil => simp [flat]
  | cons n l ih =>
    have hn := h n List.mem_cons_self
    have h1 := sev_ten (tf_lt hn.1 hn.2)
    have h2 := ih (fun m hm => h m (List.mem_cons_of_mem _ hm))
    show (sev (tf n) ++ flat l).length ≤ _
    rw [List.length_append, List.length_cons]
    omega
theorem nums_many : ∀ (f : Nat) (acc : List Int) (s : List UInt8), s.length ≤ f → (nums f acc s).1.length ≤ acc.length + s.length := by
  intro f
  induction f with
  | zero => intro acc s _; simp [nums]
  | succ f ih =>
    intro acc s hl
    by_cases hs : s = []
    · subst hs; simp [nums]
    · by_cases h0 : (take s).2.2 = 0
      · rw [nums_step hs h0]
        have hsz := take_size h0
        have := ih (acc ++ [(take s).1]) (s.drop (take s).2.1) (by rw [List.length_drop]; omega)
        rw [List.length_append, List.length_drop] at this
        simp only [List.length_cons, List.length_nil] at this
        omega
      · rw [nums_bad hs h0]; simp
theorem flat_snoc (l : List Int) (n : Int) : flat (l ++ [n]) = flat l ++ sev (tf n) := by simp [flat]
end Go.Proofs.Ytamdbfkofdjmlaa.byt
end
section
namespace Go.Proofs.Ytamdbfkofdjmlaa.byt
open Go.RowKit

theorem ret_int {k : IntKind} {a b : Int} (h : a = b) : Ending.returned (.int k a) = .returned (.int k b) := by rw [h]

theorem turned_any (n : Int) (w : World) (hn : fits n) : Calls Try.prog 57 #[.int .i64 n] w fun e w' => e = .returned (.int .u64 (tf n)) ∧ w = w' := by
  obtain ⟨h1, h2⟩ := hn
  by_cases h : n < 0
  · have HT := Lib.hid (tf_neg h)
    go_enter Try.func57, Try.ntmps57
    go_wp2
    go_ret
    exact ⟨ret_int HT.out.symm, rfl⟩
  · have HT := Lib.hid (tf_pos h)
    go_enter Try.func57, Try.ntmps57
    go_wp2
    go_ret
    exact ⟨ret_int HT.out.symm, rfl⟩

end Go.Proofs.Ytamdbfkofdjmlaa.byt
end
section
namespace Go.Proofs.Ytamdbfkofdjmlaa.byt
open Go.RowKit

/-- A text's bytes. -/
abbrev bl (s : ByteArray) : List UInt8 := s.data.toList
theorem bl_length (s : ByteArray) : (bl s).length = s.size := rfl
theorem drop_byte (s : ByteArray) (k : Nat) (h : k < s.size) : (bl s).drop k = s[k] :: (bl s).drop (k + 1) := by
  rw [List.drop_eq_getElem_cons (by rw [bl_length]; exact h)]
  rfl
theorem pow_seven (k : Nat) : (2 : Nat) ^ (7 * k) = 128 ^ k := by rw [Nat.pow_mul]
/-- A seven of bits more. -/
theorem or_seven {k F b : Nat} (hk : k ≤ 9) (hF : F < 128 ^ k) (hb : b % 128 * 128 ^ k < 18446744073709551616) :
    bits .or .u64 (F : Int) (IntKind.u64.wrap ((b : Int) % 128 * 2 ^ (7 * k))) = ((F + b % 128 * 128 ^ k : Nat) : Int) := by
  have e : ((b : Int) % 128 * 2 ^ (7 * k)) = ((b % 128 * 128 ^ k : Nat) : Int) := by
    rw [← pow_seven k, Int.natCast_mul, Int.natCast_pow, Int.natCast_emod]
    rfl
  have hp : 128 ^ k ≤ 128 ^ 9 := Nat.pow_le_pow_right (by omega) hk
  rw [e, IntKind.wrap_u64, Int.emod_eq_of_lt (by omega) (by omega), bits_or_u64_nat _ _ (by omega) hb]
  have h2 := Nat.shiftLeft_add_eq_or_of_lt (i := 7 * k) (b := F) (by rw [pow_seven]; exact hF) (b % 128)
  rw [Nat.shiftLeft_eq, pow_seven] at h2
  rw [Nat.or_comm, ← h2, Nat.add_comm]
theorem seven_room {k b : Nat} (hk : k ≤ 8) : b % 128 * 128 ^ k < 18446744073709551616 ∧ (∀ F, F < 128 ^ k → F + b % 128 * 128 ^ k < 128 ^ (k + 1)) ∧ 128 ^ (k + 1) ≤ 128 ^ 9 := by
  have h1 : b % 128 * 128 ^ k ≤ 127 * 128 ^ k := Nat.mul_le_mul_right _ (by omega)
  have h2 : 128 ^ k ≤ 128 ^ 8 := Nat.pow_le_pow_right (by omega) hk
  have h3 : (128 : Nat) ^ (k + 1) = 128 * 128 ^ k := by rw [Nat.pow_succ, Nat.mul_comm]
  refine ⟨by omega, fun F hF => by omega, Nat.pow_le_pow_right (by omega) (by omega)⟩

theorem nine_room {k b : Nat} (hk : k = 9) (hb : 1 ≥ b) : b % 128 * 128 ^ k < 18446744073709551616 := by
  subst hk
  rw [Nat.mod_eq_of_lt (by omega)]
  omega
theorem nine_fits {k b F : Nat} (hk : k = 9) (hF : F < 128 ^ k) (hb : 1 ≥ b) : F + b % 128 * 128 ^ k < 18446744073709551616 := by
  subst hk
  rw [Nat.mod_eq_of_lt (by omega)]
  omega

def takeE (s : ByteArray) : Ending := .returned (.tuple #[.int .i64 (take (bl s)).1, .int .i64 (take (bl s)).2.1, .int .i64 (take (bl s)).2.2])
theorem takeE_of {s : ByteArray} {n : Int} {k : Nat} {c : Int} (h : take (bl s) = (n, k, c)) : takeE s = .returned (.tuple #[.int .i64 n, .int .i64 k, .int .i64 c]) := by unfold takeE; rw [h]

theorem tk_err {k F : Nat} {b : UInt8} {t : List UInt8} (h : (k = 9 ∧ 1 < b.toNat) ∨ (0 < k ∧ b.toNat = 0)) : tk k F (b :: t) = (0, 0, 21) := by simp only [tk]; rw [if_pos h]
theorem tk_fin {k F : Nat} {b : UInt8} {t : List UInt8} (h : ¬ ((k = 9 ∧ 1 < b.toNat) ∨ (0 < k ∧ b.toNat = 0))) (hb : b.toNat < 128) : tk k F (b :: t) = (fo (F + b.toNat % 128 * 128 ^ k), k + 1, 0) := by
  simp only [tk]; rw [if_neg h, if_pos hb, Nat.mod_eq_of_lt hb]
theorem tk_on {k F : Nat} {b : UInt8} {t : List UInt8} (h : ¬ ((k = 9 ∧ 1 < b.toNat) ∨ (0 < k ∧ b.toNat = 0))) (hb : 128 ≤ b.toNat) : tk k F (b :: t) = tk (k + 1) (F + b.toNat % 128 * 128 ^ k) t := by
  have := byte_lt b
  simp only [tk]; rw [if_neg h, if_neg (by omega)]
  have e : b.toNat - 128 = b.toNat % 128 := by omega
  rw [e]

end Go.Proofs.Ytamdbfkofdjmlaa.byt
end
section
namespace Go.Proofs.Ytamdbfkofdjmlaa.byt
open Go.RowKit

/-- A slice, nil or not, whose numbers are l, below block B. -/
def Rd (w : World) (B : Nat) (a : Option Addr) (l : List Int) : Prop :=
  l ≠ [] → ∃ b o, a = some ⟨b, o, none⟩ ∧ b < B ∧ ∀ j, j < l.length → w.cell? ⟨b, o + j, none⟩ = some (.int .i64 (l.getD j 0))
theorem Rd.below {w w' : World} {B : Nat} {a : Option Addr} {l : List Int} (h : Rd w B a l) (hb : Below B w w') : Rd w' B a l := fun hl => by
  obtain ⟨b, o, e, hlt, hc⟩ := h hl
  exact ⟨b, o, e, hlt, fun j hj => (hb.cell (p := ⟨b, o + j, none⟩) hlt).trans (hc j hj)⟩
theorem Rd.more {w : World} {B B' : Nat} {a : Option Addr} {l : List Int} (h : Rd w B a l) (hB : B ≤ B') : Rd w B' a l := fun hl => by
  obtain ⟨b, o, e, hlt, hc⟩ := h hl
  exact ⟨b, o, e, by omega, hc⟩
theorem Rd.on {w w' : World} {a : Option Addr} {l : List Int} (h : Rd w w.heap.size a l) (hb : Below w.heap.size w w') : Rd w' w'.heap.size a l := (h.below hb).more hb.size

def byteV (b : UInt8) : Value := .int .u8 b.toNat
/-- A row of bytes as a text. -/
def txt (l : List UInt8) : ByteArray := ⟨l.toArray⟩
theorem txt_bl (l : List UInt8) : bl (txt l) = l := rfl
theorem bl_txt (s : ByteArray) : txt (bl s) = s := rfl
theorem txt_size (l : List UInt8) : (txt l).size = l.length := by simp [txt, ByteArray.size]

theorem info5 : (Try.prog.info? 5).map (fun i => (i.zero, i.size, i.bytes)) = some (some (.int .u8 0), 1, 1) := by kernel_rfl

theorem own_below {W W' : World} {B e size n : Nat} {v : Value} {xs : List Value} (h : W.ownsRow B e size v n xs) (hb : Below W.heap.size W W') : W'.ownsRow B e size v n xs :=
  h.kept (row := none) ⟨hb.os, hb.tape, hb.output, hb.size, fun k hk _ => hb.block k hk⟩ (by cases hv : v.ownBlock <;> simp)
theorem cell_one_new (w : World) (x : Value) (t : TypeId) : ∀ j u, [x][j]? = some u → (w.alloc (.cells #[x] t)).cell? ((⟨w.heap.size, 0, none⟩ : Addr).add j) = some u := by
  intro j u hj
  match j, hj with
  | 0, hj => simp at hj; subst hj; simp [Addr.add]
  | (j + 1), hj => simp at hj

/-- How a slice that is owned is read. -/
theorem own_cases {w : World} {B e n : Nat} {v : Value} {xs : List Value} (h : w.ownsRow B e 1 v n xs) :
    (v = .slice none 0 0 ∧ n = 0) ∨ ∃ g cap, v = .slice (some ⟨g, 0, none⟩) n cap ∧ n ≤ cap ∧ cap ≤ maxLen ∧ B ≤ g ∧ g < w.heap.size ∧ ∀ j u, xs[j]? = some u → w.cell? ⟨g, j, none⟩ = some u := by
  rcases h.2 with h0 | ⟨g, cap, cur, rfl, hb, hg, h1, h2, h3, h4⟩
  · exact .inl h0
  · refine .inr ⟨g, cap, rfl, h1, h2, hb, (Array.getElem?_eq_some_iff.1 hg).1, fun j u hj => ?_⟩
    have := h.cells (g := g) rfl j u hj
    have hadd : (⟨g, 0, none⟩ : Addr).add j = ⟨g, j, none⟩ := by unfold Addr.add; split <;> simp_all
    rwa [hadd] at this
theorem nums_txt (l : List UInt8) : strOfNums (l.map fun b => (b.toNat : Int)) = txt l := by
  unfold strOfNums txt
  congr 2
  rw [List.map_map]
  conv => rhs; rw [← List.map_id l]
  exact List.map_congr_left fun b _ => by simp
/-- The bytes that are owned, as a text. -/
theorem own_string {w : World} {B : Nat} {v : Value} {l : List UInt8} (h : w.ownsRow B 5 1 v l.length (l.map byteV)) : (convert 101 9 v).run Try.prog w = .ok (.string (txt l)) w := by
  rcases own_cases h with ⟨rfl, h0⟩ | ⟨g, cap, rfl, _, _, _, _, hc⟩
  · obtain rfl := List.eq_nil_of_length_eq_zero h0
    exact run_convert_bytes_nil w 101 5 Try.underlying101 Try.underlying5 0 0 9 Try.underlying9
  · rw [← nums_txt]
    refine run_convert_bytes_arg w 101 5 Try.underlying101 Try.underlying5 g 0 _ cap _ (by simp) (fun i hi => ?_) 9 Try.underlying9
    rw [Nat.zero_add]
    refine hc i _ ?_
    rw [List.getElem?_map, List.getElem?_eq_getElem hi, List.getD_eq_getElem?_getD, List.getElem?_map, List.getElem?_eq_getElem hi]
    rfl

/-- The inner loop's relation: what is done, and what is left, are the bytes so far and the number's. -/
def PutIn (l : List Int) (k : Nat) (w wr : World) (v3 v6 : Value) (g : Nat) : Prop :=
  ∃ (done : List UInt8) (U : Nat), v6 = .int .u64 U ∧ U < 18446744073709551616 ∧ done ++ sev U = flat (l.take (k + 1)) ∧ U ≤ g ∧ wr.ownsRow w.heap.size 5 1 v3 done.length (done.map byteV) ∧ Below w.heap.size w wr
def PutOut (l : List Int) (w wr : World) (v3 v12 : Value) (g : Nat) : Prop :=
  ∃ k : Nat, k + g = l.length ∧ v12 = .int .i64 k ∧ wr.ownsRow w.heap.size 5 1 v3 (flat (l.take k)).length ((flat (l.take k)).map byteV) ∧ Below w.heap.size w wr

def PutPost (l : List Int) (w : World) (e : Ending) (w' : World) : Prop := e = .returned (.string (txt (flat l))) ∧ Below w.heap.size w w'

set_option maxRecDepth 100000 in
theorem or_high (U : Nat) : bits .or .u8 ((U : Int) % 256) 128 = ((U % 128 + 128 : Nat) : Int) := by
  have e : (U : Int) % 256 = ((U % 256 : Nat) : Int) := by omega
  rw [e]
  have h := (bits_nat .u8 8 (by decide) wraps_u8 (U % 256) 128 (by omega) (by omega)).2
  have hm : ∀ m : Fin 256, m.val ||| 128 = m.val % 128 + 128 := by decide
  have h2 := hm ⟨U % 256, by omega⟩
  simp only at h2
  have h3 : U % 256 % 128 = U % 128 := by omega
  rw [h2, h3] at h
  exact h
theorem take_more {l : List Int} {k : Nat} {x : Int} (hk : k < l.length) (hx : l.getD k 0 = x) : flat (l.take (k + 1)) = flat (l.take k) ++ sev (tf x) := by
  have h : l[k]? = some x := by
    rw [List.getD_eq_getElem?_getD, List.getElem?_eq_getElem hk] at hx
    rw [List.getElem?_eq_getElem hk]
    simpa using hx
  rw [List.take_add_one, h]
  exact flat_snoc _ _
theorem take_size' {l : List Int} (hf : ∀ n ∈ l, fits n) (k : Nat) : (flat (l.take k)).length ≤ 10 * l.length := by
  have h := flat_size (l.take k) (fun n hn => hf n (List.mem_of_mem_take hn))
  have h2 := List.length_take_le k l
  have h3 : (l.take k).length ≤ l.length := by rw [List.length_take]; omega
  omega
/-- A number's last byte is put. -/
theorem put_last {l : List Int} {k g U : Nat} {w wr w2 : World} {done : List UInt8} {v4 : Value} (hg : k + (g + 1) = l.length) (hU : U < 128) (hd : done ++ sev U = flat (l.take (k + 1)))
    (hb : Below w.heap.size w wr) {o : Obj} {r : Option Nat} (hr : ∀ j, r = some j → w.heap.size ≤ j) (k4 : w2.ownsRow w.heap.size 5 1 v4 (done.length + 1) (done.map byteV ++ [.int .u8 (U : Int)])) (g4 : (wr.alloc o).grownBy w2 r) {v12 : Value} (hv : v12 = .int .i64 (k + 1 : Nat)) :
    PutOut l w w2 v4 v12 g := by
  rw [sev_small hU] at hd
  refine ⟨k + 1, by omega, hv, ?_, (hb.alloc hb.size _).grown g4 (by rw [World.size_alloc]; have := hb.size; omega) hr⟩
  rw [← hd]
  have e : byteV (UInt8.ofNat U) = .int .u8 (U : Int) := by unfold byteV; rw [ofNat_toNat (by omega)]
  simpa [e] using k4
/-- Another byte of it is put. -/
theorem put_on {l : List Int} {k g U : Nat} {w wr w2 : World} {done : List UInt8} {v4 : Value} (hU : ¬ U < 128) (hU2 : U < 18446744073709551616) (hd : done ++ sev U = flat (l.take (k + 1)))
    (hb : Below w.heap.size w wr) {o : Obj} {r : Option Nat} (hr : ∀ j, r = some j → w.heap.size ≤ j) (k4 : w2.ownsRow w.heap.size 5 1 v4 (done.length + 1) (done.map byteV ++ [.int .u8 ((U % 128 + 128 : Nat) : Int)])) (g4 : (wr.alloc o).grownBy w2 r) {v6 : Value} (hv : v6 = .int .u64 (U / 128 : Nat)) (hg : U / 128 ≤ g) :
    PutIn l k w w2 v4 v6 g := by
  rw [sev_big hU] at hd
  refine ⟨done ++ [UInt8.ofNat (U % 128 + 128)], U / 128, hv, by omega, by rw [← hd, List.append_assoc]; rfl, hg, ?_, (hb.alloc hb.size _).grown g4 (by rw [World.size_alloc]; have := hb.size; omega) hr⟩
  have e : byteV (UInt8.ofNat (U % 128 + 128)) = .int .u8 ((U % 128 + 128 : Nat) : Int) := by unfold byteV; rw [ofNat_toNat (by omega)]
  rw [List.length_append, List.map_append, List.map_cons, List.map_nil, e]
  exact k4

set_option maxHeartbeats 1600000 in
set_option maxRecDepth 1000000 in
theorem put_any (l : List Int) (a : Option Addr) (cap : Nat) (w : World) (hr : Rd w w.heap.size a l) (hf : ∀ n ∈ l, fits n) (hl : l.length ≤ 1000000) :
    Calls Try.prog 31 #[.slice a l.length cap] w (PutPost l w) := by
  obtain ⟨i0, hi, hz0, hz1, hz2⟩ := info_parts info5
  obtain ⟨w1, hmk, hown0, hg0⟩ := run_make_own (P := Try.prog) (w := w) w.heap.size 101 5 i0 (.int .u8 0) 1 Try.underlying101 hi hz0 hz1 .i64 .i64 l.length (by rw [hz2]; omega) (by unfold maxLen; omega) (Nat.le_refl _)
  have HR := Lib.hid hr; have HF := Lib.hid hf
  clear hr hf
  go_enter Try.func31, Try.ntmps31
  go_wp2
  go_step3
  go_wp2
  go_step3
  go_wp2
  clear hmk
  go_loopg [3, 12] l.length (fun g v3 v12 wr => PutOut l w wr v3 v12 g)
  case atStart => exact ⟨0, by omega, rfl, hown0, (Below.refl _ _).grown hg0 (Nat.le_refl _) (by simp)⟩
  case round =>
    obtain ⟨k, hkg, rfl, hown, hb⟩ := hrel
    have HO := Lib.hid hown; have HB := Lib.hid hb
    clear hown hb
    cases gk with
    | zero =>
      have hkz : ¬ ((k : Int) < (l.length : Int)) := by omega
      have hcv := own_string HO.out
      rw [show k = l.length by omega, List.take_length] at hcv
      go_wp2
      try rw [Exit.noGoto_ret]
      go_ret
      exact ⟨rfl, HB.out⟩
    | succ g =>
      have hkz : (k : Int) < (l.length : Int) := by omega
      obtain ⟨b, o, rfl, hlt, hc⟩ := HR.out (by intro e; rw [e] at hkz; simp at hkz; omega)
      have hck := (HB.out.cell (p := ⟨b, o + k, none⟩) hlt).trans (hc k (by omega))
      have hfk : fits (l.getD k 0) := HF.out _ (by rw [List.getD_eq_getElem?_getD, List.getElem?_eq_getElem (by omega)]; simp)
      obtain ⟨x, ex⟩ : ∃ x, l.getD k 0 = x := ⟨_, rfl⟩
      rw [ex] at hck hfk
      have EX := Lib.hid ex
      clear hc ex
      go_wp2_with (go_at_call 57; ((with_reducible refine (turned_any _ _ hfk).mono ?_); rintro e w' ⟨rfl, rfl⟩))
      obtain ⟨wo, rfl⟩ : ∃ wo : World, wo = wr := ⟨_, rfl⟩
      go_loopg [3, 6] (tf x) (fun g2 v3 v6 wr => PutIn l k w wr v3 v6 g2)
      case atStart => exact ⟨flat (l.take k), tf x, rfl, tf_lt hfk.1 hfk.2, (take_more (by omega) EX.out).symm, Nat.le_refl _, HO.out, HB.out⟩
      case round =>
        obtain ⟨done, U, rfl, hU, hd, hUg, hown, hb⟩ := hrel
        have hlen : done.length ≤ 10000000 := by
          have h1 := take_size' HF.out (k + 1)
          rw [← hd, List.length_append] at h1
          omega
        have HSZ : Hid (∀ o, w.heap.size ≤ (wr.alloc o).heap.size) := Lib.hid (fun o => by rw [World.size_alloc]; have := hb.size; omega)
        have HL := Lib.hid (fun j hj => (hown.lt j hj).1)
        have HD := Lib.hid hd; have HO2 := Lib.hid hown; have HB2 := Lib.hid hb
        clear hd hown hb
        have hor := or_high U
        obtain ⟨V, eV⟩ : ∃ V, U % 128 + 128 = V := ⟨_, rfl⟩
        rw [eV] at hor
        have EV := Lib.hid eV
        clear eV
        by_cases hs : U < 128
        · have hs' : (U : Int) < 128 := by omega
          go_wp2_with (at_builtin; refine wpList_append_own _ rfl (.tmp 22) (.tmp 25) 101 rfl w.heap.size 5 i0 (.int .u8 0) 1 1 Try.underlying101 hi hz0 hz1 hz2 rfl (by decide) _ _ _ rfl (HO2.out.alloc _) ⟨_, 0, none⟩ 1 1 [.int .u8 (U : Int)] rfl rfl (cell_one_new _ _ _) (by simp [Value.oneCell']) (by unfold maxLen; omega) (by omega) (HSZ.out _) ?_)
          intro v4 w2 k4 g4 _
          have HR2 := Lib.hid (fun (v12 : Value) (hv : v12 = .int .i64 (k + 1 : Nat)) => put_last (g := g) (by omega) hs HD.out HB2.out HL.out k4 g4 hv)
          clear k4 g4
          go_wp2
          go_roundg g
          case measure => omega
          case rel => exact HR2.out _ (by go_num)
        · have hs' : (128 : Int) ≤ (U : Int) := by omega
          go_wp2_with (at_builtin; refine wpList_append_own _ rfl (.tmp 27) (.tmp 31) 101 rfl w.heap.size 5 i0 (.int .u8 0) 1 1 Try.underlying101 hi hz0 hz1 hz2 rfl (by decide) _ _ _ rfl (HO2.out.alloc _) ⟨_, 0, none⟩ 1 1 [.int .u8 (V : Int)] rfl rfl (cell_one_new _ _ _) (by simp [Value.oneCell']) (by unfold maxLen; omega) (by omega) (HSZ.out _) ?_)
          intro v4 w2 k4 g4 _
          rw [← EV.out] at k4
          have HR2 := Lib.hid (fun (v6 : Value) (hv : v6 = .int .u64 (U / 128 : Nat)) => put_on (g := U / 128) hs hU HD.out HB2.out HL.out k4 g4 hv (Nat.le_refl _))
          clear k4 g4
          go_wp2
          go_roundg (U / 128)
          case measure => omega
          case rel => exact HR2.out _ (by go_num)
end Go.Proofs.Ytamdbfkofdjmlaa.byt
end
section
namespace Go.Proofs.Ytamdbfkofdjmlaa.byt
open Go.RowKit

def intV (n : Int) : Value := .int .i64 n
/-- What Numbers answers: the numbers, the code. -/
def numsO (s : ByteArray) : List Int × Int := nums s.size [] (bl s)
def NumsPost (s : ByteArray) (w : World) (e : Ending) (w' : World) : Prop :=
  ∃ v, e = .returned (.tuple #[v, .int .i64 (numsO s).2]) ∧ w'.ownsRow w.heap.size 2 1 v (numsO s).1.length ((numsO s).1.map intV) ∧ Below w.heap.size w w'
theorem nums_fail {s : ByteArray} {w w' : World} {c : Int} (h : numsO s = ([], c)) (hb : Below w.heap.size w w') : NumsPost s w (.returned (.tuple #[.slice none 0 0, .int .i64 c])) w' :=
  ⟨.slice none 0 0, by rw [h], by rw [h]; exact World.ownsRow_nil _ _ _ _, hb⟩
theorem nums_fine {s : ByteArray} {w w' : World} {v : Value} {l : List Int} (h : numsO s = (l, 0)) (ho : w'.ownsRow w.heap.size 2 1 v l.length (l.map intV)) (hb : Below w.heap.size w w') : NumsPost s w (.returned (.tuple #[v, .int .i64 0])) w' :=
  ⟨v, by rw [h], by rw [h]; exact ho, hb⟩
theorem info2 : (Try.prog.info? 2).map (fun i => (i.zero, i.size, i.bytes)) = some (some (.int .i64 0), 1, 8) := by kernel_rfl

theorem bl_cut (s : ByteArray) (i j : Nat) : bl (s.extract i j) = ((bl s).drop i).take (j - i) := by
  unfold bl
  rw [ByteArray.data_extract, Array.toList_extract, List.extract_eq_take_drop]
theorem bl_extract (s : ByteArray) (k : Nat) : bl (s.extract k s.size) = (bl s).drop k := by
  rw [bl_cut, List.take_of_length_le (by rw [List.length_drop, bl_length]; omega)]
theorem bl_nil {s : ByteArray} : bl s = [] ↔ s.size = 0 := by
  rw [← bl_length]; exact List.length_eq_zero_iff.symm

/-- What holds at each round's head: the bytes that are left, the numbers that are had. -/
def NumsRel (s : ByteArray) (w wr : World) (v0 v4 : Value) (g : Nat) : Prop :=
  ∃ (r : ByteArray) (acc : List Int), v0 = .string r ∧ wr.ownsRow w.heap.size 2 1 v4 acc.length (acc.map intV) ∧ Below w.heap.size w wr ∧ nums g acc (bl r) = numsO s ∧ r.size ≤ g ∧ acc.length + r.size ≤ s.size

theorem nums_more {s r : ByteArray} {w wr w2 : World} {acc : List Int} {n : Int} {k g : Nat} {v4 : Value} {o : Obj} {ro : Option Nat} (hr : 0 < r.size) (hk1 : 1 ≤ k) (hk : k ≤ r.size) (ht : take (bl r) = (n, k, 0))
    (hb : Below w.heap.size w wr) (hn : nums (g + 1) acc (bl r) = numsO s) (hg : r.size ≤ g + 1) (hl : acc.length + r.size ≤ s.size)
    (hro : ∀ j, ro = some j → w.heap.size ≤ j) (k4 : w2.ownsRow w.heap.size 2 1 v4 (acc.length + 1) (acc.map intV ++ [.int .i64 n])) (g4 : (wr.alloc o).grownBy w2 ro) :
    NumsRel s w w2 (.string (r.extract k r.size)) v4 g := by
  have hsz : (r.extract k r.size).size = r.size - k := by rw [← bl_length, bl_extract, List.length_drop]; rfl
  rw [nums_step (by rw [Ne, bl_nil]; omega) (by rw [ht]), ht] at hn
  refine ⟨_, acc ++ [n], rfl, by simpa [intV] using k4, (hb.alloc hb.size _).grown g4 (by rw [World.size_alloc]; have := hb.size; omega) hro, by rw [bl_extract]; exact hn, by omega, by rw [List.length_append, List.length_singleton]; omega⟩

end Go.Proofs.Ytamdbfkofdjmlaa.byt
end
section
namespace Go.Proofs.Ytamdbfkofdjmlaa.byt
open Go.RowKit

theorem txt_append (l m : List UInt8) : txt l ++ txt m = txt (l ++ m) := by
  apply ByteArray.ext
  rw [ByteArray.data_append]
  simp [txt]
def OnePost (n : Int) (w : World) (e : Ending) (w' : World) : Prop := e = .returned (.string (txt (sev (tf n)))) ∧ Below w.heap.size w w'
theorem below_on' {w w' w'' : World} (h : Below w.heap.size w w') (k : Below w'.heap.size w' w'') : Below w.heap.size w w'' := h.trans (k.mono h.size)
/-- Put of one number. -/
theorem rd_one (w : World) (n : Int) : Rd (w.alloc (.cells #[.int .i64 n] 2)) (w.alloc (.cells #[.int .i64 n] 2)).heap.size (some ⟨w.heap.size, 0, none⟩) [n] := fun _ =>
  ⟨w.heap.size, 0, rfl, by simp, fun j hj => by
    obtain rfl : j = 0 := by simpa using hj
    exact cell_one_new w (.int .i64 n) 2 0 _ rfl⟩
theorem put_one (n : Int) (w : World) (hn : fits n) : Calls Try.prog 31 #[.slice (some ⟨w.heap.size, 0, none⟩) 1 1] (w.alloc (.cells #[.int .i64 n] 2)) (OnePost n w) := by
  refine (put_any [n] _ 1 _ (rd_one w n) (by simpa using hn) (by simp)).mono ?_
  rintro e w' ⟨rfl, hb⟩
  exact ⟨by simp [flat], ((Below.refl _ w).alloc (Nat.le_refl _) _).trans (hb.mono (by simp))⟩

/-- What PutText answers. -/
def putO (s : ByteArray) : ByteArray × Int := if 65536 < s.size then (txt [], 3) else (txt (sev (tf s.size)) ++ s, 0)
def PutTextPost (s : ByteArray) (w : World) (e : Ending) (w' : World) : Prop := e = .returned (.tuple #[.string (putO s).1, .int .i64 (putO s).2]) ∧ Below w.heap.size w w'
theorem putText_long {s : ByteArray} {w w' : World} (h : 65536 < s.size) (hb : Below w.heap.size w w') : PutTextPost s w (.returned (.tuple #[.string ⟨#[]⟩, .int .i64 3])) w' :=
  ⟨by unfold putO; rw [if_pos h]; rfl, hb⟩
theorem putText_fine {s : ByteArray} {w w' : World} (h : ¬ 65536 < s.size) (hb : Below w.heap.size w w') : PutTextPost s w (.returned (.tuple #[.string (txt (sev (tf s.size)) ++ s), .int .i64 0])) w' :=
  ⟨by unfold putO; rw [if_neg h], hb⟩
theorem fits_size {s : ByteArray} (h : ¬ 65536 < s.size) : fits (s.size : Int) := ⟨by omega, by omega⟩
theorem sev_room {n : Int} (h : fits n) : (txt (sev (tf n))).size ≤ 10 := by rw [txt_size]; exact sev_ten (tf_lt h.1 h.2)

/-- What TakeText answers: the text, how many bytes, the code. -/
def textO (s : ByteArray) : ByteArray × Nat × Int :=
  if (take (bl s)).2.2 ≠ 0 then (txt [], 0, (take (bl s)).2.2)
  else if (take (bl s)).1 < 0 then (txt [], 0, 21)
  else if 65536 < (take (bl s)).1 then (txt [], 0, 3)
  else if s.size < (take (bl s)).2.1 + (take (bl s)).1.toNat then (txt [], 0, 20)
  else (s.extract (take (bl s)).2.1 ((take (bl s)).2.1 + (take (bl s)).1.toNat), (take (bl s)).2.1 + (take (bl s)).1.toNat, 0)
def textE (s : ByteArray) : Ending := .returned (.tuple #[.string (textO s).1, .int .i64 (textO s).2.1, .int .i64 (textO s).2.2])
theorem textE_of {s t : ByteArray} {n : Nat} {c : Int} (h : textO s = (t, n, c)) : textE s = .returned (.tuple #[.string t, .int .i64 n, .int .i64 c]) := by unfold textE; rw [h]
theorem text_bad {s : ByteArray} {c : Int} (h : take (bl s) = (0, 0, c)) (hc : c ≠ 0) : textE s = .returned (.tuple #[.string ⟨#[]⟩, .int .i64 0, .int .i64 c]) :=
  textE_of (n := 0) (by unfold textO; rw [h, if_pos hc]; rfl)
theorem text_neg {s : ByteArray} {n : Int} {k : Nat} (h : take (bl s) = (n, k, 0)) (hn : n < 0) : textE s = .returned (.tuple #[.string ⟨#[]⟩, .int .i64 0, .int .i64 21]) :=
  textE_of (n := 0) (by unfold textO; rw [h, if_neg (by simp), if_pos hn]; rfl)
theorem text_long {s : ByteArray} {n : Int} {k : Nat} (h : take (bl s) = (n, k, 0)) (hn : 65536 < n) : textE s = .returned (.tuple #[.string ⟨#[]⟩, .int .i64 0, .int .i64 3]) :=
  textE_of (n := 0) (by unfold textO; rw [h, if_neg (by simp), if_neg (by simp only; omega), if_pos hn]; rfl)
theorem text_short {s : ByteArray} {m k : Nat} (h : take (bl s) = ((m : Int), k, 0)) (hn : m ≤ 65536) (hl : s.size < k + m) : textE s = .returned (.tuple #[.string ⟨#[]⟩, .int .i64 0, .int .i64 20]) :=
  textE_of (n := 0) (by unfold textO; rw [h, if_neg (by simp), if_neg (by simp only; omega), if_neg (by simp only; omega), if_pos (by simpa using hl)]; rfl)
theorem text_fine {s : ByteArray} {m k : Nat} (h : take (bl s) = ((m : Int), k, 0)) (hn : m ≤ 65536) (hl : ¬ s.size < k + m) : textE s = .returned (.tuple #[.string (s.extract k (k + m)), .int .i64 (k + m : Nat), .int .i64 0]) :=
  textE_of (by unfold textO; rw [h, if_neg (by simp), if_neg (by simp only; omega), if_neg (by simp only; omega), if_neg (by simpa using hl)]; rfl)

theorem str_ne {a b : ByteArray} (h : a ≠ b) : (a.toList == b.toList) = false := by
  rw [beq_eq_false_iff_ne]
  intro e
  rw [ByteArray.toList_eq, ByteArray.toList_eq] at e
  exact h (WideShapes.bytes_inj e)
theorem below_drewN (w : World) (q : Nat) : Below w.heap.size w (w.drewN q) := ⟨rfl, rfl, rfl, Nat.le_refl _, fun _ _ => rfl⟩
/-- What is owned is read as a slice. -/
theorem own_rd {w : World} {B : Nat} {v : Value} {l : List Int} (h : w.ownsRow B 2 1 v l.length (l.map intV)) : ∃ a cap, v = .slice a l.length cap ∧ Rd w w.heap.size a l := by
  rcases own_cases h with ⟨rfl, h0⟩ | ⟨g, cap, rfl, _, _, _, hg, hc⟩
  · rw [h0]
    exact ⟨none, 0, rfl, fun hl => absurd (List.eq_nil_of_length_eq_zero h0) hl⟩
  · refine ⟨_, cap, rfl, fun _ => ⟨g, 0, rfl, hg, fun j hj => ?_⟩⟩
    rw [Nat.zero_add]
    refine hc j _ ?_
    rw [List.getElem?_map, List.getElem?_eq_getElem hj, List.getD_eq_getElem?_getD, List.getElem?_eq_getElem hj]
    rfl
def NumsAt (l : List Int) (c : Int) (w : World) (e : Ending) (w' : World) : Prop :=
  ∃ a cap, e = .returned (.tuple #[.slice a l.length cap, .int .i64 c]) ∧ Rd w' w'.heap.size a l ∧ Below w.heap.size w w'
theorem nums_at {s : ByteArray} {l : List Int} {c : Int} (h : numsO s = (l, c)) {e : Ending} {w w' : World} (hp : NumsPost s w e w') : NumsAt l c w e w' := by
  obtain ⟨v, rfl, ho, hb⟩ := hp
  rw [h] at ho ⊢
  obtain ⟨a, cap, rfl, hr⟩ := own_rd ho
  exact ⟨a, cap, rfl, hr, hb⟩
theorem rd_two (w : World) (x y : Int) : Rd (w.alloc (.cells #[.int .i64 x, .int .i64 y] 2)) (w.alloc (.cells #[.int .i64 x, .int .i64 y] 2)).heap.size (some ⟨w.heap.size, 0, none⟩) [x, y] := fun _ =>
  ⟨w.heap.size, 0, rfl, by simp, fun j hj => by
    have hh : (w.alloc (.cells #[.int .i64 x, .int .i64 y] 2)).heap[w.heap.size]? = some (.cells #[.int .i64 x, .int .i64 y] 2 (0, 0)) := heap_alloc_new w _
    rw [cell_of_row _ w.heap.size (0 + j) _ _ _ hh]
    match j, hj with
    | 0, _ => rfl
    | 1, _ => rfl⟩

theorem numsO_many (s : ByteArray) : (numsO s).1.length ≤ s.size := by
  have := nums_many s.size [] (bl s) (Nat.le_refl _)
  simpa [numsO, bl_length] using this
theorem fits_wf {n : Int} (h : (Lit.int .i64 n).wf = true) : fits n := by
  simp [Lit.wf, IntKind.min, IntKind.max, IntKind.signed, IntKind.bits] at h
  exact ⟨by omega, by omega⟩
/-- A slice of numbers that came in is read as its numbers. -/
theorem rd_row {w : World} {a : Option Addr} {len cap : Nat} {zs : List Int}
    (h : (a = none ∧ len = 0 ∧ cap = 0 ∧ zs = []) ∨ ∃ x, a = some x ∧ len ≤ cap ∧ cap ≤ maxLen ∧ zs.length = cap ∧ (∀ i, i < zs.length → w.cell? (x.add i) = some (.int .i64 (zs.getD i 0))) ∧ ∀ n ∈ zs, (Lit.int .i64 n).wf = true) :
    ∃ l : List Int, l.length = len ∧ Rd w w.heap.size a l ∧ (∀ n ∈ l, fits n) := by
  rcases h with ⟨rfl, rfl, rfl, rfl⟩ | ⟨x, rfl, hl, hm, hz, hc, hw⟩
  · exact ⟨[], rfl, fun h => absurd rfl h, by simp⟩
  · refine ⟨zs.take len, by rw [List.length_take]; omega, fun hne => ?_, fun n hn => ?_⟩
    · have hlen : 0 < len := by
        rcases Nat.eq_zero_or_pos len with h0 | h0
        · rw [h0] at hne; exact absurd rfl hne
        · exact h0
      obtain ⟨b, off, spot⟩ := x
      have hc0 := hc 0 (by omega)
      have hspot : spot = none := by simpa [Addr.add] using World.cell?_spot hc0
      subst hspot
      refine ⟨b, off, rfl, ?_, fun j hj => ?_⟩
      · have := World.block_lt_of_cell? w _ hc0
        simpa [Addr.add] using this
      · rw [List.length_take] at hj
        have := hc j (by omega)
        have hadd : (⟨b, off, none⟩ : Addr).add j = ⟨b, off + j, none⟩ := by unfold Addr.add; split <;> simp_all
        rw [hadd] at this
        rw [this, List.getD_eq_getElem?_getD, List.getD_eq_getElem?_getD, List.getElem?_take, if_pos (by omega)]
    · exact fits_wf (hw n (List.mem_of_mem_take hn))
theorem put_at {l : List Int} {a : Option Addr} (cap : Nat) {w : World} {t : ByteArray} (ht : txt (flat l) = t) (hr : Rd w w.heap.size a l) (hf : ∀ n ∈ l, fits n) (hl : l.length ≤ 1000000) :
    Calls Try.prog 31 #[.slice a l.length cap] w fun e w' => e = .returned (.string t) ∧ Below w.heap.size w w' := by
  subst ht; exact put_any l a cap w hr hf hl
theorem put_one_at {n : Int} {t : ByteArray} (ht : txt (sev (tf n)) = t) (w : World) (hn : fits n) : Calls Try.prog 31 #[.slice (some ⟨w.heap.size, 0, none⟩) 1 1] (w.alloc (.cells #[.int .i64 n] 2)) fun e w' => e = .returned (.string t) ∧ Below w.heap.size w w' := by
  subst ht; exact put_one n w hn

theorem numsO_flat {l : List Int} (h : ∀ n ∈ l, fits n) : numsO (txt (flat l)) = (l, 0) := by
  unfold numsO
  rw [txt_bl, txt_size, nums_flat l _ _ h (Nat.le_refl _), List.nil_append]
theorem numsO_back {s : ByteArray} {l : List Int} (h : numsO s = (l, 0)) : txt (flat l) = s ∧ (∀ n ∈ l, fits n) ∧ l.length ≤ s.size := by
  unfold numsO at h
  obtain ⟨m, h1, h2, h3, h4⟩ := nums_ok s.size [] (bl s) (Nat.le_refl _) (by rw [h])
  rw [h] at h1
  simp only [List.nil_append] at h1
  subst h1
  exact ⟨by rw [h2, bl_txt], h3, h4⟩
theorem text_back {s b : ByteArray} (h : ¬ 65536 < s.size) : ∃ t, putO s = (t, 0) ∧ textO (t ++ b) = (s, t.size, 0) ∧ t.size ≤ s.size + 10 := by
  have hlt := tf_lt (fits_size h).1 (fits_size h).2
  obtain ⟨p, hp⟩ : ∃ p, sev (tf (s.size : Int)) = p := ⟨_, rfl⟩
  have hput : putO s = (txt p ++ s, 0) := by unfold putO; rw [if_neg h, hp]
  have e1 : bl ((txt p ++ s) ++ b) = p ++ (bl s ++ bl b) := by
    unfold bl
    rw [ByteArray.data_append, ByteArray.data_append, Array.toList_append, Array.toList_append, List.append_assoc]
    rfl
  have e2 : (txt p ++ s).size = p.length + s.size := by rw [ByteArray.size_append, txt_size]
  have e3 : ((txt p ++ s) ++ b).size = p.length + s.size + b.size := by rw [ByteArray.size_append, e2]
  have ht : take (bl ((txt p ++ s) ++ b)) = ((s.size : Int), p.length, 0) := by
    rw [e1, ← hp, take_sev _ hlt, fo_tf]
  have hp10 : p.length ≤ 10 := by rw [← hp]; exact sev_ten hlt
  refine ⟨_, hput, ?_, by rw [e2]; omega⟩
  have hx : ((txt p ++ s) ++ b).extract p.length (p.length + s.size) = s := by
    apply WideShapes.bytes_inj
    have := bl_cut ((txt p ++ s) ++ b) p.length (p.length + s.size)
    rw [e1, List.drop_left, Nat.add_sub_cancel_left] at this
    have h2 : (bl s ++ bl b).take s.size = bl s := by rw [← bl_length s, List.take_left]
    rw [h2] at this
    exact this
  unfold textO
  rw [ht]
  simp only [Int.toNat_natCast]
  rw [if_neg (by simp), if_neg (by omega), if_neg (by omega), if_neg (by omega), hx, e2]
end Go.Proofs.Ytamdbfkofdjmlaa.byt
end
