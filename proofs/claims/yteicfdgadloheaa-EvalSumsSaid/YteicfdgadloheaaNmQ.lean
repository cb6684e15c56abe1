/- Plain facts on names, turned names and words. No program's run in this file. -/
import Derived.Test.YteicfdgadloheaaNmU
namespace Go.Proofs.Yteicfdgadloheaa.nam

/-- The text of runes. -/
def textOf (l : List Nat) : ByteArray := ⟨(l.flatMap enc).toArray⟩
theorem textOf_toList (l : List Nat) : (textOf l).data.toList = l.flatMap enc := by simp [textOf]
theorem textOf_size (l : List Nat) : (textOf l).size = (l.flatMap enc).length := by
  show (textOf l).data.size = _
  rw [← Array.length_toList, textOf_toList]
theorem flat_length (l : List Nat) : l.length ≤ (l.flatMap enc).length ∧ (l.flatMap enc).length ≤ 4 * l.length := by
  induction l with
  | nil => simp
  | cons r t ih =>
    have := enc_length r
    simp only [List.flatMap_cons, List.length_append, List.length_cons]
    omega
theorem byteArray_ext {a b : ByteArray} (h : a.data.toList = b.data.toList) : a = b := by
  obtain ⟨⟨a⟩⟩ := a
  obtain ⟨⟨b⟩⟩ := b
  simp at h
  rw [h]
theorem append_toList (a b : ByteArray) : (a ++ b).data.toList = a.data.toList ++ b.data.toList := by simp
theorem extract_toList (s : ByteArray) (i j : Nat) : (s.extract i j).data.toList = (s.data.toList.take j).drop i := by
  simp [List.drop_take]
theorem extract_toList' (s : ByteArray) (i w : Nat) : (s.extract i (i + w)).data.toList = (s.data.toList.drop i).take w := by
  rw [extract_toList, List.drop_take]
  congr 1; omega

theorem decode_step_ok (s : ByteArray) : ∀ (f pos : Nat), ∀ x ∈ runesFrom s f pos, okR x.2
  | 0, _, x, h => by simp [runesFrom] at h
  | f + 1, pos, x, h => by
    simp only [runesFrom] at h
    split at h
    · rcases List.mem_cons.1 h with rfl | h
      · exact decode_ok s pos
      · exact decode_step_ok s f _ x h
    · simp at h
theorem rn_ok (s : ByteArray) (pos : Nat) : ∀ r ∈ rn s pos, okR r := by
  intro r hr
  obtain ⟨x, hx, rfl⟩ := List.mem_map.1 hr
  exact decode_step_ok s _ _ x hx

/-- A text without U+FFFD is the text of its runes. -/
theorem drop_rn (s : ByteArray) : ∀ (f pos : Nat), s.size ≤ pos + f → pos ≤ s.size → (∀ r ∈ rn s pos, r ≠ 65533) → s.data.toList.drop pos = (rn s pos).flatMap enc
  | 0, pos, h, hp, _ => by
    rw [rn_end s pos (by omega), List.drop_eq_nil_of_le (by simp; omega)]
    rfl
  | f + 1, pos, h, hp, hr => by
    by_cases hlt : pos < s.size
    · rw [rn_step s pos hlt] at hr ⊢
      have hw := width_pos s pos hlt
      obtain ⟨h1, h2⟩ := enc_decode s pos hlt (hr _ (List.mem_cons_self))
      rw [List.flatMap_cons, h2, ← drop_rn s f (pos + (Utf8.decode s pos).2) (by omega) h1 (fun r hm => hr r (List.mem_cons_of_mem _ hm)), ← List.drop_drop, List.take_append_drop]
    · rw [rn_end s pos hlt, List.drop_eq_nil_of_le (by simp; omega)]
      rfl
theorem textOf_rn (s : ByteArray) (h : ∀ r ∈ rn s 0, r ≠ 65533) : textOf (rn s 0) = s := by
  apply byteArray_ext
  rw [textOf_toList, ← drop_rn s s.size 0 (by omega) (by omega) h, List.drop_zero]
/-- The runes of a text of runes. -/
theorem rn_flat (a : List UInt8) (l : List Nat) (h : ∀ r ∈ l, okR r) : rn ⟨(a ++ l.flatMap enc).toArray⟩ a.length = l := by
  induction l generalizing a with
  | nil =>
    rw [rn_end]
    show ¬ a.length < (a ++ []).toArray.size
    simp
  | cons r t ih =>
    have hr := h r (List.mem_cons_self)
    have hl := enc_length r
    have hsz : a.length < (⟨(a ++ (r :: t).flatMap enc).toArray⟩ : ByteArray).size := by
      show a.length < (a ++ (r :: t).flatMap enc).toArray.size
      simp only [List.flatMap_cons, List.size_toArray, List.length_append]; omega
    have hd := decode_enc a (t.flatMap enc) r hr
    have e : a ++ (r :: t).flatMap enc = (a ++ enc r) ++ t.flatMap enc := by simp
    rw [rn_step _ _ hsz]
    rw [e, hd]
    simp only
    have := ih (a ++ enc r) (fun x hx => h x (List.mem_cons_of_mem _ hx))
    rw [List.length_append] at this
    rw [this]
theorem rn_textOf (l : List Nat) (h : ∀ r ∈ l, okR r) : rn (textOf l) 0 = l := by
  have := rn_flat [] l h
  simpa [textOf] using this
theorem nameB_textOf (l : List Nat) (h : ∀ r ∈ l, okR r) : nameB (textOf l) = nameFrom 0 l := by unfold nameB; rw [rn_textOf l h]

/-- Whether a rune may stand in a name. -/
def nruneB (r : Nat) : Bool := letB r || digB r || decide (r = 45)
def nameL (l : List Nat) : Bool := decide (1 ≤ l.length ∧ l.length ≤ 24) && (letB (l.headD 0) && l.all nruneB)
theorem nameFrom_on (l : List Nat) : ∀ m, 0 < m → m ≤ 24 → nameFrom m l = (decide (m + l.length ≤ 24) && l.all nruneB) := by
  induction l with
  | nil => intro m h0 h1; simp [nameFrom, h0, h1]
  | cons r t ih =>
    intro m h0 h1
    simp only [nameFrom]
    by_cases hb : letB r = false ∧ (m = 0 ∨ digB r = false ∧ r ≠ 45)
    · rw [if_pos hb]
      have : nruneB r = false := by
        obtain ⟨h2, h3⟩ := hb
        rcases h3 with h3 | ⟨h3, h4⟩
        · omega
        · simp [nruneB, h2, h3, h4]
      simp [this]
    · rw [if_neg hb]
      have hn : nruneB r = true := by
        unfold nruneB
        by_cases a1 : letB r = true
        · simp [a1]
        · by_cases a2 : digB r = true
          · simp [a2]
          · by_cases a3 : r = 45
            · simp [a3]
            · exact absurd ⟨by simpa using a1, Or.inr ⟨by simpa using a2, a3⟩⟩ hb
      by_cases h24 : 24 < m + 1
      · rw [if_pos h24, decide_eq_false (by simp only [List.length_cons]; omega)]
        rfl
      · rw [if_neg h24, ih (m + 1) (by omega) (by omega)]
        simp only [List.all_cons, hn, Bool.true_and, List.length_cons]
        congr 1
        rw [Bool.eq_iff_iff]; simp; omega
theorem nameFrom_eq (l : List Nat) : nameFrom 0 l = nameL l := by
  cases l with
  | nil => rfl
  | cons r t =>
    unfold nameL
    simp only [nameFrom]
    by_cases hl : letB r = true
    · rw [if_neg (by simp [hl]), if_neg (by omega), nameFrom_on t 1 (by omega) (by omega)]
      have hn : nruneB r = true := by simp [nruneB, hl]
      simp only [List.headD_cons, hl, Bool.true_and, List.all_cons, hn, List.length_cons]
      congr 1
      rw [Bool.eq_iff_iff]; simp; omega
    · rw [if_pos ⟨by simpa using hl, by simp⟩]
      simp only [List.headD_cons, Bool.not_eq_true] at hl ⊢
      simp [hl]
theorem nameB_eq (s : ByteArray) : nameB s = nameL (rn s 0) := nameFrom_eq _
theorem nrune_facts {r : Nat} (h : nruneB r = true) : r ≠ 65533 ∧ mayB r = true ∧ blkB r = false := by
  unfold nruneB letB digB at h
  unfold mayB blkB
  simp only [Bool.or_eq_true, decide_eq_true_eq] at h
  refine ⟨by omega, by simp; omega, by simp; omega⟩
theorem name_facts {s : ByteArray} (h : nameB s = true) : 1 ≤ (rn s 0).length ∧ (rn s 0).length ≤ 24 ∧ (∀ r ∈ rn s 0, nruneB r = true) ∧ textOf (rn s 0) = s ∧ s.size ≤ 96 := by
  rw [nameB_eq] at h
  unfold nameL at h
  simp only [Bool.and_eq_true, decide_eq_true_eq, List.all_eq_true] at h
  obtain ⟨⟨h1, h2⟩, _, h3⟩ := h
  have ht : textOf (rn s 0) = s := textOf_rn s (fun r hr => (nrune_facts (h3 r hr)).1)
  refine ⟨h1, h2, h3, ht, ?_⟩
  have := flat_length (rn s 0)
  rw [← textOf_size, ht] at this
  omega

/-- What Turned answers. -/
def turnedO (s : ByteArray) : ByteArray × Int :=
  if nameB s then (if nameB (textOf (rn s 0).reverse) then (textOf (rn s 0).reverse, 0) else (s, 0)) else (⟨#[]⟩, 2)
theorem turned_bad {s : ByteArray} (h : nameB s = false) : turnedO s = (⟨#[]⟩, 2) := by unfold turnedO; rw [h]; rfl
theorem turned_self {s : ByteArray} (h : nameB s = true) (h2 : nameB (textOf (rn s 0).reverse) = false) : turnedO s = (s, 0) := by unfold turnedO; rw [h, h2]; rfl
theorem turned_other {s : ByteArray} (h : nameB s = true) (h2 : nameB (textOf (rn s 0).reverse) = true) : turnedO s = (textOf (rn s 0).reverse, 0) := by unfold turnedO; rw [h, h2]; rfl
theorem rn_turned (s : ByteArray) : rn (textOf (rn s 0).reverse) 0 = (rn s 0).reverse := rn_textOf _ (fun r hr => rn_ok s 0 r (List.mem_reverse.1 hr))
/-- Turned twice a name is itself again; it has as many runes. -/
theorem turned_twice {s : ByteArray} (h : nameB s = true) : (turnedO s).2 = 0 ∧ nameB (turnedO s).1 = true ∧ turnedO (turnedO s).1 = (s, 0) ∧ (rn (turnedO s).1 0).length = (rn s 0).length := by
  obtain ⟨_, _, _, ht, _⟩ := name_facts h
  cases h2 : nameB (textOf (rn s 0).reverse) with
  | false => rw [turned_self h h2]; exact ⟨rfl, h, turned_self h h2, rfl⟩
  | true =>
    rw [turned_other h h2]
    refine ⟨rfl, h2, ?_, by rw [rn_turned]; simp⟩
    have hr : textOf (rn (textOf (rn s 0).reverse) 0).reverse = s := by rw [rn_turned, List.reverse_reverse, ht]
    rw [turned_other h2 (by rw [hr]; exact h), hr]
end Go.Proofs.Yteicfdgadloheaa.nam
