/- Plain facts on numbers and their bytes: the turned form, the bytes by sevens of bits, what bytes begin with. No program in this file. -/
import Derived.RowKit
namespace Go.Proofs.Ytknldabnkaecdaa.byt

/-- A number's turned form. -/
def tf (n : Int) : Nat := if n < 0 then 2 * (-1 - n).toNat + 1 else 2 * n.toNat
/-- The number of a turned form. -/
def fo (u : Nat) : Int := if u % 2 = 1 then -1 - ((u / 2 : Nat) : Int) else ((u / 2 : Nat) : Int)
theorem fo_tf (n : Int) : fo (tf n) = n := by
  unfold fo tf
  by_cases h : n < 0
  · rw [if_pos h, if_pos (by omega)]; omega
  · rw [if_neg h, if_neg (by omega)]; omega
theorem tf_fo (u : Nat) : tf (fo u) = u := by
  unfold fo
  by_cases h : u % 2 = 1
  · rw [if_pos h]; unfold tf; rw [if_pos (by omega)]; omega
  · rw [if_neg h]; unfold tf; rw [if_neg (by omega)]; omega
theorem tf_lt {n : Int} (h1 : -9223372036854775808 ≤ n) (h2 : n ≤ 9223372036854775807) : tf n < 18446744073709551616 := by
  unfold tf
  split <;> omega
theorem fo_in {u : Nat} (h : u < 18446744073709551616) : -9223372036854775808 ≤ fo u ∧ fo u ≤ 9223372036854775807 := by
  unfold fo
  split <;> omega
theorem tf_neg {n : Int} (h : n < 0) : ((tf n : Nat) : Int) = 2 * (-1 - n) + 1 := by unfold tf; rw [if_pos h]; omega
theorem tf_pos {n : Int} (h : ¬ n < 0) : ((tf n : Nat) : Int) = 2 * n := by unfold tf; rw [if_neg h]; omega

/-- The bytes of a turned form, by sevens of bits. -/
def sev (u : Nat) : List UInt8 := if u < 128 then [UInt8.ofNat u] else UInt8.ofNat (u % 128 + 128) :: sev (u / 128)
termination_by u
theorem sev_small {u : Nat} (h : u < 128) : sev u = [UInt8.ofNat u] := by rw [sev, if_pos h]
theorem sev_big {u : Nat} (h : ¬ u < 128) : sev u = UInt8.ofNat (u % 128 + 128) :: sev (u / 128) := by rw [sev, if_neg h]
theorem ofNat_toNat {u : Nat} (h : u < 256) : (UInt8.ofNat u).toNat = u := by simp [UInt8.toNat_ofNat']; omega
theorem ofNat_self (b : UInt8) : UInt8.ofNat b.toNat = b := by simp
theorem byte_lt (b : UInt8) : b.toNat < 256 := b.toNat_lt
theorem sev_pos (u : Nat) : 1 ≤ (sev u).length := by
  by_cases h : u < 128
  · rw [sev_small h]; simp
  · rw [sev_big h]; simp
theorem sev_le (u k : Nat) (h : u < 128 ^ (k + 1)) : (sev u).length ≤ k + 1 := by
  induction k generalizing u with
  | zero => rw [sev_small (by simpa using h)]; simp
  | succ k ih =>
    by_cases hs : u < 128
    · rw [sev_small hs]; simp
    · rw [sev_big hs, List.length_cons]
      have := ih (u / 128) (by rw [Nat.pow_succ] at h; omega)
      omega
theorem sev_ten {u : Nat} (h : u < 18446744073709551616) : (sev u).length ≤ 10 := sev_le u 9 (by omega)
theorem sev_mono (u v : Nat) (h : u / 2 ≤ v / 2) : (sev u).length ≤ (sev v).length := by
  induction u using Nat.strongRecOn generalizing v with
  | ind u ih =>
    by_cases hs : u < 128
    · rw [sev_small hs]; exact sev_pos v
    · rw [sev_big hs, sev_big (show ¬ v < 128 by omega), List.length_cons, List.length_cons]
      have := ih (u / 128) (by omega) (v / 128) (by omega)
      omega

/-- What bytes begin with, once i bytes of the form f are read: the number, how many bytes, the code. -/
def tk (i f : Nat) : List UInt8 → Int × Nat × Int
  | [] => (0, 0, 20)
  | b :: t =>
    if (i = 9 ∧ 1 < b.toNat) ∨ (0 < i ∧ b.toNat = 0) then (0, 0, 21)
    else if b.toNat < 128 then (fo (f + b.toNat * 128 ^ i), i + 1, 0)
    else tk (i + 1) (f + (b.toNat - 128) * 128 ^ i) t

theorem pow_room {i : Nat} (h : i ≤ 8) : 2 ^ (64 - 7 * i) = 128 * 2 ^ (64 - 7 * (i + 1)) := by
  have : 64 - 7 * i = 7 + (64 - 7 * (i + 1)) := by omega
  rw [this, Nat.pow_add]
theorem mul_parts (a b p : Nat) : (a + 128 * b) * p = a * p + b * (p * 128) := by
  rw [Nat.add_mul, Nat.mul_comm 128 b, Nat.mul_assoc, Nat.mul_comm 128 p]

theorem tk_sev (u : Nat) : ∀ (i f : Nat) (t : List UInt8), i ≤ 9 → u < 2 ^ (64 - 7 * i) → (0 < i → 0 < u) → tk i f (sev u ++ t) = (fo (f + u * 128 ^ i), i + (sev u).length, 0) := by
  induction u using Nat.strongRecOn with
  | ind u ih =>
    intro i f t hi hu h0
    by_cases hs : u < 128
    · rw [sev_small hs]
      simp only [List.cons_append, List.nil_append, tk, List.length_cons, List.length_nil]
      rw [ofNat_toNat (by omega), if_neg, if_pos hs]
      rintro (⟨rfl, h⟩ | ⟨h1, h2⟩)
      · have : u < 2 := hu
        omega
      · have := h0 h1; omega
    · have hi8 : i ≤ 8 := by
        rcases Nat.lt_or_ge i 9 with h | h
        · omega
        · obtain rfl : i = 9 := by omega
          have : u < 2 := hu
          omega
      rw [pow_room hi8] at hu
      have key := ih (u / 128) (by omega) (i + 1) (f + u % 128 * 128 ^ i) t (by omega) (by omega) (fun _ => by omega)
      rw [sev_big hs]
      simp only [List.cons_append, tk, List.length_cons]
      rw [ofNat_toNat (by omega), if_neg (by omega), if_neg (by omega), Nat.add_sub_cancel, key]
      have e : u * 128 ^ i = u % 128 * 128 ^ i + u / 128 * 128 ^ (i + 1) := by
        rw [Nat.pow_succ, ← mul_parts, Nat.mod_add_div]
      rw [e, Nat.add_assoc, Nat.add_right_comm, Nat.add_assoc i]

theorem tk_bad (s : List UInt8) : ∀ i f, (tk i f s).2.2 ≠ 0 → tk i f s = (0, 0, 20) ∨ tk i f s = (0, 0, 21) := by
  induction s with
  | nil => intro i f _; exact .inl rfl
  | cons b t ih =>
    intro i f h
    simp only [tk] at h ⊢
    split
    · exact .inr rfl
    · rename_i hn
      rw [if_neg hn] at h
      split
      · rename_i hb
        rw [if_pos hb] at h
        exact absurd rfl h
      · rename_i hb
        rw [if_neg hb] at h
        exact ih _ _ h

theorem tk_ok (s : List UInt8) : ∀ i f, i ≤ 9 → (tk i f s).2.2 = 0 → ∃ u t, s = sev u ++ t ∧ tk i f s = (fo (f + u * 128 ^ i), i + (sev u).length, 0) ∧ u < 2 ^ (64 - 7 * i) ∧ (0 < i → 0 < u) := by
  induction s with
  | nil => intro i f _ h; simp [tk] at h
  | cons b t ih =>
    intro i f hi h
    simp only [tk] at h ⊢
    by_cases hn : (i = 9 ∧ 1 < b.toNat) ∨ (0 < i ∧ b.toNat = 0)
    · rw [if_pos hn] at h; simp at h
    · rw [if_neg hn] at h ⊢
      by_cases hb : b.toNat < 128
      · rw [if_pos hb]
        have hlt : b.toNat < 2 ^ (64 - 7 * i) := by
          rcases Nat.lt_or_ge i 9 with h9 | h9
          · have := pow_room (i := i) (by omega)
            have := Nat.two_pow_pos (64 - 7 * (i + 1))
            omega
          · obtain rfl : i = 9 := by omega
            have : b.toNat ≤ 1 := by omega
            show b.toNat < 2
            omega
        exact ⟨b.toNat, t, by rw [sev_small hb, ofNat_self]; rfl, by rw [sev_small hb]; rfl, hlt, fun h0 => by omega⟩
      · rw [if_neg hb] at h ⊢
        have hi8 : i ≤ 8 := by omega
        obtain ⟨u, t', rfl, he, hu, h0⟩ := ih (i + 1) (f + (b.toNat - 128) * 128 ^ i) (by omega) h
        have hu0 := h0 (by omega)
        have hbl := byte_lt b
        have hsev : sev (b.toNat - 128 + 128 * u) = b :: sev u := by
          rw [sev_big (by omega)]
          have e1 : (b.toNat - 128 + 128 * u) % 128 + 128 = b.toNat := by omega
          have e2 : (b.toNat - 128 + 128 * u) / 128 = u := by omega
          rw [e1, e2, ofNat_self]
        refine ⟨b.toNat - 128 + 128 * u, t', by rw [hsev]; rfl, ?_, by rw [pow_room hi8]; omega, fun _ => by omega⟩
        rw [he, hsev, List.length_cons, mul_parts, ← Nat.pow_succ, Nat.add_assoc, Nat.add_right_comm, Nat.add_assoc i]

/-- What bytes begin with. -/
def take (s : List UInt8) : Int × Nat × Int := tk 0 0 s
theorem take_sev {u : Nat} (t : List UInt8) (h : u < 18446744073709551616) : take (sev u ++ t) = (fo u, (sev u).length, 0) := by
  have := tk_sev u 0 0 t (by omega) h (by omega)
  simpa [take] using this
theorem take_ok {s : List UInt8} (h : (take s).2.2 = 0) : ∃ u t, s = sev u ++ t ∧ take s = (fo u, (sev u).length, 0) ∧ u < 18446744073709551616 := by
  obtain ⟨u, t, h1, h2, h3, _⟩ := tk_ok s 0 0 (by omega) h
  exact ⟨u, t, h1, by simpa [take] using h2, h3⟩
theorem take_bad {s : List UInt8} (h : (take s).2.2 ≠ 0) : take s = (0, 0, 20) ∨ take s = (0, 0, 21) := tk_bad s 0 0 h
/-- What is taken is of s's bytes, ten at most, and fits. -/
theorem take_size {s : List UInt8} (h : (take s).2.2 = 0) : 1 ≤ (take s).2.1 ∧ (take s).2.1 ≤ 10 ∧ (take s).2.1 ≤ s.length ∧ -9223372036854775808 ≤ (take s).1 ∧ (take s).1 ≤ 9223372036854775807 := by
  obtain ⟨u, t, rfl, h2, h3⟩ := take_ok h
  rw [h2]
  have h4 := fo_in h3
  exact ⟨sev_pos u, sev_ten h3, by simp, h4.1, h4.2⟩
theorem sev_one {u v : Nat} {t : List UInt8} (hu : u < 18446744073709551616) (hv : v < 18446744073709551616) (h : sev u ++ t = sev v) : u = v := by
  have h1 := take_sev t hu
  have h2 := take_sev [] hv
  rw [List.append_nil, ← h, h1] at h2
  have h3 : fo u = fo v := congrArg (·.1) h2
  rw [← tf_fo u, ← tf_fo v, h3]

/-- The bytes of numbers, one behind the other. -/
def flat (l : List Int) : List UInt8 := l.flatMap fun n => sev (tf n)
/-- All numbers whose bytes they are, behind those that are had; so many at most. -/
def nums : Nat → List Int → List UInt8 → List Int × Int
  | 0, acc, _ => (acc, 0)
  | f + 1, acc, s =>
    if s = [] then (acc, 0)
    else if (take s).2.2 = 0 then nums f (acc ++ [(take s).1]) (s.drop (take s).2.1)
    else ([], (take s).2.2)
def fits (n : Int) : Prop := -9223372036854775808 ≤ n ∧ n ≤ 9223372036854775807
theorem nums_end (f : Nat) (acc : List Int) : nums f acc [] = (acc, 0) := by cases f <;> simp [nums]
theorem nums_step {f : Nat} {acc : List Int} {s : List UInt8} (hs : s ≠ []) (h : (take s).2.2 = 0) : nums (f + 1) acc s = nums f (acc ++ [(take s).1]) (s.drop (take s).2.1) := by
  rw [nums, if_neg hs, if_pos h]
theorem nums_bad {f : Nat} {acc : List Int} {s : List UInt8} (hs : s ≠ []) (h : (take s).2.2 ≠ 0) : nums (f + 1) acc s = ([], (take s).2.2) := by
  rw [nums, if_neg hs, if_neg h]
theorem nums_flat (l : List Int) : ∀ (f : Nat) (acc : List Int), (∀ n ∈ l, fits n) → (flat l).length ≤ f → nums f acc (flat l) = (acc ++ l, 0) := by
  induction l with
  | nil => intro f acc _ _; rw [show flat [] = [] from rfl, nums_end, List.append_nil]
  | cons n l ih =>
    intro f acc hf hl
    have e : flat (n :: l) = sev (tf n) ++ flat l := rfl
    have hp := sev_pos (tf n)
    rw [e, List.length_append] at hl
    have hn := hf n List.mem_cons_self
    have ht := take_sev (flat l) (tf_lt hn.1 hn.2)
    match f, hl with
    | 0, hl => omega
    | f + 1, hl =>
      have hne : sev (tf n) ++ flat l ≠ [] := by
        intro h0
        have := congrArg List.length h0
        rw [List.length_append, List.length_nil] at this
        omega
      rw [e, nums_step hne (by rw [ht]), ht]
      simp only [List.drop_left]
      rw [ih f _ (fun m hm => hf m (List.mem_cons_of_mem _ hm)) (by omega), fo_tf, List.append_assoc]
      rfl
theorem nums_ok : ∀ (f : Nat) (acc : List Int) (s : List UInt8), s.length ≤ f → (nums f acc s).2 = 0 → ∃ l, (nums f acc s).1 = acc ++ l ∧ flat l = s ∧ (∀ n ∈ l, fits n) ∧ l.length ≤ s.length := by
  intro f
  induction f with
  | zero =>
    intro acc s hl _
    obtain rfl : s = [] := List.eq_nil_of_length_eq_zero (by omega)
    exact ⟨[], by simp [nums], rfl, by simp, by simp⟩
  | succ f ih =>
    intro acc s hl h
    by_cases hs : s = []
    · subst hs
      exact ⟨[], by simp [nums], rfl, by simp, by simp⟩
    · by_cases h0 : (take s).2.2 = 0
      · rw [nums_step hs h0] at h ⊢
        have hsz := take_size h0
        obtain ⟨u, t, rfl, h2, h3⟩ := take_ok h0
        rw [h2] at h hsz ⊢
        simp only [List.drop_left] at h ⊢
        rw [List.length_append] at hl
        simp only at hsz
        obtain ⟨l, e1, e2, e3, e4⟩ := ih _ t (by omega) h
        refine ⟨fo u :: l, by rw [e1, List.append_assoc]; rfl, ?_, ?_, by simp; omega⟩
        · show sev (tf (fo u)) ++ flat l = _
          rw [tf_fo, e2]
        · intro n hn
          rcases List.mem_cons.1 hn with rfl | hn
          · exact fo_in h3
          · exact e3 n hn
      · rw [nums_bad hs h0] at h; exact absurd h h0
theorem flat_size (l : List Int) (h : ∀ n ∈ l, fits n) : (flat l).length ≤ 10 * l.length := by
  induction l with
  | nil => simp [flat]
  | cons n l ih =>
    have hn := h n List.mem_cons_self
    have h1 := sev_ten (tf_lt hn.1 hn.2)
    have h2 := ih (fun m hm => h m (List.mem_cons_of_mem _ hm))
    show (sev (tf n) ++ flat l).length ≤ _
    rw [List.length_append, List.length_cons]
    omega
theorem nums_many : ∀ (f : Nat) (acc : List Int) (s : List UInt8), s.length ≤ f → (nums f acc s).1.length ≤ acc.length + s.length := by
  intro f
  induction f with
  | zero => intro acc s _; simp [nums]
  | succ f ih =>
    intro acc s hl
    by_cases hs : s = []
    · subst hs; simp [nums]
    · by_cases h0 : (take s).2.2 = 0
      · rw [nums_step hs h0]
        have hsz := take_size h0
        have := ih (acc ++ [(take s).1]) (s.drop (take s).2.1) (by rw [List.length_drop]; omega)
        rw [List.length_append, List.length_drop] at this
        simp only [List.length_cons, List.length_nil] at this
        omega
      · rw [nums_bad hs h0]; simp
theorem flat_snoc (l : List Int) (n : Int) : flat (l ++ [n]) = flat l ++ sev (tf n) := by simp [flat]
end Go.Proofs.Ytknldabnkaecdaa.byt
