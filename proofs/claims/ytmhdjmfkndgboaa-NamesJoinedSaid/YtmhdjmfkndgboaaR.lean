/- Words told byte by byte are words told rune by rune. No program's run in this file. -/
import Derived.Test.YtmhdjmfkndgboaaQ
import Derived.Test.YtmhdjmfkndgboaaD
namespace Go.Proofs.Ytmhdjmfkndgboaa

/-- Is a byte a blank or a tab? -/
def blkC (c : UInt8) : Bool := decide (c.toNat = 32 ∨ c.toNat = 9)
/-- The words of the bytes that are left, behind those that are had and the one that is begun. -/
def refGo : List UInt8 → List ByteArray → List UInt8 → List ByteArray
  | word, acc, [] => if word = [] then acc else acc ++ [⟨word.toArray⟩]
  | word, acc, c :: t => if blkC c then (if word = [] then refGo [] acc t else refGo [] (acc ++ [⟨word.toArray⟩]) t) else refGo (word ++ [c]) acc t

theorem refGo_on (bs : List UInt8) : ∀ (word : List UInt8) (acc : List ByteArray) (rest : List UInt8), (∀ c ∈ bs, blkC c = false) → refGo word acc (bs ++ rest) = refGo (word ++ bs) acc rest := by
  induction bs with
  | nil => intro word acc rest _; simp
  | cons c t ih =>
    intro word acc rest h
    have hc := h c List.mem_cons_self
    rw [List.cons_append]
    simp only [refGo, hc, Bool.false_eq_true, if_false]
    rw [ih _ _ _ (fun x hx => h x (List.mem_cons_of_mem _ hx))]
    simp
theorem enc_blank {r : Nat} (h : blkB r = true) : ∃ c, enc r = [c] ∧ blkC c = true := by
  unfold blkB at h
  simp only [decide_eq_true_eq] at h
  refine ⟨UInt8.ofNat r, by unfold enc; rw [if_pos (by omega)], ?_⟩
  unfold blkC
  rw [toNat_ofNat r (by omega)]
  simpa using h
theorem enc_plain {r : Nat} (h : blkB r = false) (ho : okR r) : ∀ c ∈ enc r, blkC c = false := by
  unfold blkB at h
  unfold okR at ho
  simp only [decide_eq_false_iff_not] at h
  have key : ∀ n, n < 256 → (n = r ∨ 128 ≤ n) → blkC (UInt8.ofNat n) = false := fun n h1 h2 => by
    unfold blkC
    rw [toNat_ofNat n h1]
    simp; omega
  intro c hc
  unfold enc at hc
  split at hc
  · simp only [List.mem_singleton] at hc; subst hc; exact key _ (by omega) (Or.inl rfl)
  · split at hc
    · simp only [List.mem_cons, List.not_mem_nil, or_false] at hc
      rcases hc with rfl | rfl
      · exact key _ (by omega) (Or.inr (by omega))
      · exact key _ (by omega) (Or.inr (by omega))
    · split at hc
      · simp only [List.mem_cons, List.not_mem_nil, or_false] at hc
        rcases hc with rfl | rfl | rfl
        · exact key _ (by omega) (Or.inr (by omega))
        · exact key _ (by omega) (Or.inr (by omega))
        · exact key _ (by omega) (Or.inr (by omega))
      · simp only [List.mem_cons, List.not_mem_nil, or_false] at hc
        rcases hc with rfl | rfl | rfl | rfl
        · exact key _ (by omega) (Or.inr (by omega))
        · exact key _ (by omega) (Or.inr (by omega))
        · exact key _ (by omega) (Or.inr (by omega))
        · exact key _ (by omega) (Or.inr (by omega))

theorem wordsGo_bad (s : ByteArray) (l : List (Nat × Nat)) : ∀ (within : Bool) (b : Nat) (acc : List ByteArray), (∃ x ∈ l, mayB x.2 = false) → wordsGo s within b acc l = none := by
  induction l with
  | nil => intro _ _ _ h; obtain ⟨x, hx, _⟩ := h; simp at hx
  | cons x t ih =>
    intro within b acc h
    obtain ⟨p, r⟩ := x
    simp only [wordsGo]
    cases hm : mayB r with
    | false => rfl
    | true =>
      have ht : ∃ y ∈ t, mayB y.2 = false := by
        obtain ⟨y, hy, hb⟩ := h
        rcases List.mem_cons.1 hy with rfl | hy
        · simp only at hb; rw [hm] at hb; cases hb
        · exact ⟨y, hy, hb⟩
      simp only [if_true]
      cases blkB r <;> cases within <;> simp only [Bool.false_eq_true, if_false, if_true] <;> exact ih _ _ _ ht

def wordIn (s : ByteArray) (within : Bool) (b pos : Nat) : List UInt8 := if within then (s.data.toList.take pos).drop b else []
theorem wordIn_ne (s : ByteArray) {b pos : Nat} (h : b < pos) (hp : pos ≤ s.size) : wordIn s true b pos ≠ [] := by
  intro e
  have := congrArg List.length e
  have hs : s.size = s.data.toList.length := by simp
  simp only [wordIn, if_true, List.length_drop, List.length_take, List.length_nil] at this
  omega
theorem wordIn_ba (s : ByteArray) (b pos : Nat) : (⟨(wordIn s true b pos).toArray⟩ : ByteArray) = s.extract b pos := by
  apply byteArray_ext
  rw [extract_toList]; simp [wordIn]

theorem words_eq (s : ByteArray) : ∀ (f pos : Nat) (within : Bool) (b : Nat) (acc : List ByteArray), s.size ≤ pos + f → pos ≤ s.size → (within = true → b < pos) → (∀ x ∈ runesAt s pos, mayB x.2 = true) →
    wordsGo s within b acc (runesAt s pos) = some (refGo (wordIn s within b pos) acc (s.data.toList.drop pos)) := by
  intro f
  induction f with
  | zero =>
    intro pos within b acc h1 h2 h3 h4
    have hps : pos = s.size := by omega
    subst hps
    rw [runesAt_end s _ (by omega), List.drop_eq_nil_of_le (by simp)]
    simp only [wordsGo, refGo]
    cases within with
    | false => simp [wordIn]
    | true => rw [if_neg (wordIn_ne s (h3 rfl) h2), wordIn_ba]; rfl
  | succ f ih =>
    intro pos within b acc h1 h2 h3 h4
    by_cases hp : pos < s.size
    · have hw := width_pos s pos hp
      rw [runesAt_step s pos hp] at h4 ⊢
      have hm := h4 _ List.mem_cons_self
      simp only at hm
      have hne : (Utf8.decode s pos).1 ≠ 65533 := by
        intro e; rw [e] at hm; revert hm; decide
      obtain ⟨k1, k2⟩ := enc_decode s pos hp hne
      have ht : ∀ x ∈ runesAt s (pos + (Utf8.decode s pos).2), mayB x.2 = true := fun x hx => h4 x (List.mem_cons_of_mem _ hx)
      have hsplit : s.data.toList.drop pos = enc (Utf8.decode s pos).1 ++ s.data.toList.drop (pos + (Utf8.decode s pos).2) := by
        rw [k2, ← List.drop_drop, List.take_append_drop]
      rw [hsplit]
      simp only [wordsGo, hm, if_true]
      cases hk : blkB (Utf8.decode s pos).1 with
      | true =>
        obtain ⟨c, hc1, hc2⟩ := enc_blank hk
        rw [hc1, List.singleton_append]
        simp only [refGo, hc2, if_true]
        cases within with
        | true =>
          rw [if_neg (wordIn_ne s (h3 rfl) h2), wordIn_ba]
          simp only [if_true]
          exact ih _ false b _ (by omega) k1 (fun e => by cases e) ht
        | false =>
          simp only [wordIn, Bool.false_eq_true, if_false, if_true]
          exact ih _ false b _ (by omega) k1 (fun e => by cases e) ht
      | false =>
        rw [refGo_on _ _ _ _ (enc_plain hk (decode_ok s pos))]
        simp only [Bool.false_eq_true, if_false]
        cases within with
        | true =>
          have e : wordIn s true b pos ++ enc (Utf8.decode s pos).1 = wordIn s true b (pos + (Utf8.decode s pos).2) := by
            have hb := h3 rfl
            simp only [wordIn, if_true]
            rw [k2, List.take_add, List.drop_append_of_le_length (by simp; omega)]
          rw [e]
          simp only [if_true]
          exact ih _ true b _ (by omega) k1 (fun _ => by have := h3 rfl; omega) ht
        | false =>
          have e : wordIn s false b pos ++ enc (Utf8.decode s pos).1 = wordIn s true pos (pos + (Utf8.decode s pos).2) := by
            simp only [wordIn, Bool.false_eq_true, if_false, if_true, List.nil_append]
            rw [k2, List.drop_take]
            congr 1; omega
          rw [e]
          simp only [Bool.false_eq_true, if_false]
          exact ih _ true pos _ (by omega) k1 (fun _ => by omega) ht
    · have hps : pos = s.size := by omega
      subst hps
      rw [runesAt_end s _ (by omega), List.drop_eq_nil_of_le (by simp)]
      simp only [wordsGo, refGo]
      cases within with
      | false => simp [wordIn]
      | true => rw [if_neg (wordIn_ne s (h3 rfl) h2), wordIn_ba]; rfl

theorem wordsO_long {s : ByteArray} (h : 400 < s.size) : wordsO s = ([], 3) := by unfold wordsO; rw [if_pos h]
theorem wordsO_bad {s : ByteArray} (h : ¬ 400 < s.size) {x : Nat × Nat} (hx : x ∈ runesAt s 0) (hm : mayB x.2 = false) : wordsO s = ([], 10) := by
  unfold wordsO; rw [if_neg h, wordsGo_bad s _ false 0 [] ⟨x, hx, hm⟩]
theorem wordsO_good {s : ByteArray} (h : ¬ 400 < s.size) (hm : ∀ x ∈ runesAt s 0, mayB x.2 = true) : wordsO s = (refGo [] [] s.data.toList, 0) := by
  unfold wordsO
  rw [if_neg h, words_eq s s.size 0 false 0 [] (by omega) (by omega) (fun e => by cases e) hm]
  rfl
end Go.Proofs.Ytmhdjmfkndgboaa
