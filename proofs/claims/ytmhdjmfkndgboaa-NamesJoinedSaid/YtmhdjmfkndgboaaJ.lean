/- Words put together with blanks are the words again. No program's run in this file. -/
import Derived.Test.YtmhdjmfkndgboaaR
import Derived.Lib.Join
import Derived.Lib.Repeat
namespace Go.Proofs.Ytmhdjmfkndgboaa

def goodR (r : Nat) : Prop := okR r ∧ mayB r = true ∧ blkB r = false
/-- A word: runes that may stand, one at least, none a blank; no longer than the text. -/
def Good (n : Nat) (x : ByteArray) : Prop := x.size ≤ n ∧ ∃ ws, x = textOf ws ∧ ws ≠ [] ∧ ∀ r ∈ ws, goodR r
theorem extract_size (s : ByteArray) (i j : Nat) : (s.extract i j).size ≤ s.size := by rw [ByteArray.size_extract]; omega

theorem words_good (s : ByteArray) (l : List ByteArray) : ∀ (f pos : Nat) (within : Bool) (b : Nat) (acc : List ByteArray), s.size ≤ pos + f → pos ≤ s.size →
    (within = true → b ≤ pos ∧ ∃ ws, s.extract b pos = textOf ws ∧ ws ≠ [] ∧ ∀ r ∈ ws, goodR r) → (∀ x ∈ acc, Good s.size x) → wordsGo s within b acc (runesAt s pos) = some l → (∀ x ∈ l, Good s.size x) ∧ l.length ≤ acc.length + (s.size - pos) + 1 := by
  intro f
  induction f with
  | zero =>
    intro pos within b acc h1 h2 h3 h4 h5
    have hps : pos = s.size := by omega
    subst hps
    rw [runesAt_end s _ (by omega)] at h5
    simp only [wordsGo, Option.some.injEq] at h5
    subst h5
    cases within with
    | false => exact ⟨h4, by simp⟩
    | true =>
      obtain ⟨_, ws, e, e2, e3⟩ := h3 rfl
      refine ⟨fun x hx => ?_, by simp⟩
      rcases List.mem_append.1 hx with hx | hx
      · exact h4 x hx
      · rw [List.mem_singleton] at hx; subst hx
        exact ⟨extract_size _ _ _, ws, e, e2, e3⟩
  | succ f ih =>
    intro pos within b acc h1 h2 h3 h4 h5
    by_cases hp : pos < s.size
    · have hw := width_pos s pos hp
      rw [runesAt_step s pos hp] at h5
      simp only [wordsGo] at h5
      cases hm : mayB (Utf8.decode s pos).1 with
      | false => rw [hm] at h5; simp at h5
      | true =>
        rw [hm] at h5
        simp only [if_true] at h5
        have hne : (Utf8.decode s pos).1 ≠ 65533 := by
          intro e; rw [e] at hm; revert hm; decide
        obtain ⟨k1, k2⟩ := enc_decode s pos hp hne
        cases hk : blkB (Utf8.decode s pos).1 with
        | true =>
          rw [hk] at h5
          simp only [if_true] at h5
          cases within with
          | true =>
            simp only [if_true] at h5
            obtain ⟨_, ws, e, e2, e3⟩ := h3 rfl
            have h6 := ih _ false b _ (by omega) k1 (fun e => by cases e) (fun x hx => by
              rcases List.mem_append.1 hx with hx | hx
              · exact h4 x hx
              · rw [List.mem_singleton] at hx; subst hx
                exact ⟨extract_size _ _ _, ws, e, e2, e3⟩) h5
            refine ⟨h6.1, ?_⟩
            have := h6.2
            simp only [List.length_append, List.length_cons, List.length_nil] at this
            omega
          | false =>
            simp only [Bool.false_eq_true, if_false] at h5
            have h6 := ih _ false b _ (by omega) k1 (fun e => by cases e) h4 h5
            exact ⟨h6.1, by have := h6.2; omega⟩
        | false =>
          rw [hk] at h5
          simp only [Bool.false_eq_true, if_false] at h5
          cases within with
          | true =>
            simp only [if_true] at h5
            obtain ⟨hb, ws, e, e2, e3⟩ := h3 rfl
            have h6 := ih _ true b _ (by omega) k1 (fun _ => ⟨by omega, ws ++ [(Utf8.decode s pos).1], by
              apply byteArray_ext
              have e4 := congrArg (fun x : ByteArray => x.data.toList) e
              simp only [extract_toList, textOf_toList] at e4
              rw [extract_toList, textOf_toList, List.flatMap_append, ← e4, List.take_add, List.drop_append_of_le_length (by simp; omega), ← k2]
              simp, by simp, fun r hr => by
                rcases List.mem_append.1 hr with hr | hr
                · exact e3 r hr
                · rw [List.mem_singleton] at hr; subst hr
                  exact ⟨decode_ok s pos, hm, hk⟩⟩) h4 h5
            exact ⟨h6.1, by have := h6.2; omega⟩
          | false =>
            simp only [Bool.false_eq_true, if_false] at h5
            have h6 := ih _ true pos _ (by omega) k1 (fun _ => ⟨by omega, [(Utf8.decode s pos).1], by
              apply byteArray_ext
              rw [extract_toList', textOf_toList, ← k2]
              simp, by simp, fun r hr => by
                rw [List.mem_singleton] at hr; subst hr
                exact ⟨decode_ok s pos, hm, hk⟩⟩) h4 h5
            exact ⟨h6.1, by have := h6.2; omega⟩
    · have hps : pos = s.size := by omega
      subst hps
      exact ih _ within b acc (by omega) h2 h3 h4 h5

theorem wordsO_fine {s : ByteArray} (h : (wordsO s).2 = 0) : ¬ 400 < s.size ∧ wordsGo s false 0 [] (runesAt s 0) = some (wordsO s).1 := by
  unfold wordsO at h ⊢
  by_cases h4 : 400 < s.size
  · rw [if_pos h4] at h; simp at h
  · rw [if_neg h4] at h ⊢
    refine ⟨h4, ?_⟩
    cases hg : wordsGo s false 0 [] (runesAt s 0) with
    | none => rw [hg] at h; simp at h
    | some l => rfl
theorem wordsO_facts {s : ByteArray} (h : (wordsO s).2 = 0) : s.size ≤ 400 ∧ (∀ x ∈ (wordsO s).1, Good 400 x) ∧ (wordsO s).1.length ≤ 401 := by
  obtain ⟨h1, h2⟩ := wordsO_fine h
  obtain ⟨h3, h4⟩ := words_good s _ s.size 0 false 0 [] (by omega) (by omega) (fun e => by cases e) (fun x hx => by simp at hx) h2
  refine ⟨by omega, fun x hx => ?_, by simp only [List.length_nil] at h4; omega⟩
  obtain ⟨h5, h6⟩ := h3 x hx
  exact ⟨by omega, h6⟩

/-! Put together. -/
def joinB (l : List ByteArray) (sep : ByteArray) : ByteArray := ⟨(Lib.join (l.map (·.data.toList)) sep.data.toList).toArray⟩
def blanks (n : Nat) : ByteArray := ⟨(List.replicate n (32 : UInt8)).toArray⟩
theorem refGo_blanks (n : Nat) (acc : List ByteArray) (rest : List UInt8) : refGo [] acc (List.replicate n 32 ++ rest) = refGo [] acc rest := by
  induction n with
  | zero => rfl
  | succ n ih =>
    rw [List.replicate_succ, List.cons_append]
    simp only [refGo]
    rw [if_pos (by decide)]
    simpa using ih
theorem refGo_tail (n : Nat) (ys : List (List UInt8)) : ∀ (x : List UInt8) (acc : List ByteArray), x ≠ [] → (∀ y ∈ ys, y ≠ [] ∧ ∀ c ∈ y, blkC c = false) →
    refGo x acc (Lib.joinTail (List.replicate (n + 1) 32) ys) = acc ++ (⟨x.toArray⟩ :: ys.map fun y => ⟨y.toArray⟩) := by
  induction ys with
  | nil => intro x acc hx _; simp [Lib.joinTail, refGo, hx]
  | cons y t ih =>
    intro x acc hx hy
    obtain ⟨h1, h2⟩ := hy y List.mem_cons_self
    have e : Lib.joinTail (List.replicate (n + 1) 32) (y :: t) = 32 :: (List.replicate n 32 ++ (y ++ Lib.joinTail (List.replicate (n + 1) 32) t)) := by
      simp [Lib.joinTail, List.replicate_succ]
    rw [e]
    simp only [refGo]
    rw [if_pos (by decide), if_neg hx, refGo_blanks, refGo_on y _ _ _ h2, List.nil_append, ih y _ h1 (fun z hz => hy z (List.mem_cons_of_mem _ hz))]
    simp
theorem good_bytes {n : Nat} {x : ByteArray} (h : Good n x) : x.data.toList ≠ [] ∧ ∀ c ∈ x.data.toList, blkC c = false := by
  obtain ⟨_, ws, rfl, h1, h2⟩ := h
  rw [textOf_toList]
  constructor
  · intro e
    cases ws with
    | nil => exact h1 rfl
    | cons r t =>
      have := enc_length r
      have := congrArg List.length e
      simp only [List.flatMap_cons, List.length_append, List.length_nil] at this
      omega
  · intro c hc
    obtain ⟨r, hr, hc⟩ := List.mem_flatMap.1 hc
    obtain ⟨a, _, b⟩ := h2 r hr
    exact enc_plain b a c hc
theorem refGo_join (n m : Nat) (l : List ByteArray) (h : ∀ x ∈ l, Good m x) : refGo [] [] (joinB l (blanks (n + 1))).data.toList = l := by
  cases l with
  | nil => rfl
  | cons x t =>
    have e : (joinB (x :: t) (blanks (n + 1))).data.toList = x.data.toList ++ Lib.joinTail (List.replicate (n + 1) 32) (t.map (·.data.toList)) := by
      simp only [joinB, blanks, List.map_cons]
      rw [Lib.join_cons]
    obtain ⟨h1, h2⟩ := good_bytes (h x List.mem_cons_self)
    rw [e, refGo_on _ _ _ _ h2, List.nil_append, refGo_tail n _ _ _ h1 (fun y hy => by
      obtain ⟨z, hz, rfl⟩ := List.mem_map.1 hy
      exact good_bytes (h z (List.mem_cons_of_mem _ hz)))]
    have e2 : ∀ u : List ByteArray, (u.map (·.data.toList)).map (fun y => (⟨y.toArray⟩ : ByteArray)) = u := fun u => by
      rw [List.map_map]
      induction u with
      | nil => rfl
      | cons z u ih => rw [List.map_cons, ih]; rfl
    rw [e2]
    rfl
theorem join_runes (n m : Nat) (l : List ByteArray) (h : ∀ x ∈ l, Good m x) : ∃ rs, joinB l (blanks n) = textOf rs ∧ ∀ r ∈ rs, okR r ∧ mayB r = true := by
  have tail : ∀ t : List ByteArray, (∀ x ∈ t, Good m x) → ∃ rs : List Nat, Lib.joinTail (List.replicate n 32) (t.map (·.data.toList)) = rs.flatMap enc ∧ ∀ r ∈ rs, okR r ∧ mayB r = true := by
    intro t
    induction t with
    | nil => intro _; exact ⟨[], rfl, fun r hr => by simp at hr⟩
    | cons y t ih =>
      intro ht
      obtain ⟨rs, h1, h2⟩ := ih (fun x hx => ht x (List.mem_cons_of_mem _ hx))
      obtain ⟨_, ws, rfl, _, h4⟩ := ht _ List.mem_cons_self
      refine ⟨List.replicate n 32 ++ ws ++ rs, ?_, fun r hr => ?_⟩
      · have e : (List.replicate n 32).flatMap enc = List.replicate n (32 : UInt8) := by
          clear h1 h2 ih ht
          induction n with
          | zero => rfl
          | succ n ih => rw [List.replicate_succ, List.flatMap_cons, ih]; rfl
        rw [List.flatMap_append, List.flatMap_append, e, ← h1]
        simp [Lib.joinTail, textOf_toList]
      · rcases List.mem_append.1 hr with hr | hr
        · rcases List.mem_append.1 hr with hr | hr
          · obtain ⟨_, rfl⟩ := List.mem_replicate.1 hr
            exact ⟨Or.inl (by omega), by decide⟩
          · exact ⟨(h4 r hr).1, (h4 r hr).2.1⟩
        · exact h2 r hr
  cases l with
  | nil => exact ⟨[], rfl, fun r hr => by simp at hr⟩
  | cons x t =>
    obtain ⟨rs, h1, h2⟩ := tail t (fun y hy => h y (List.mem_cons_of_mem _ hy))
    obtain ⟨_, ws, rfl, _, h4⟩ := h _ List.mem_cons_self
    refine ⟨ws ++ rs, ?_, fun r hr => ?_⟩
    · apply byteArray_ext
      rw [textOf_toList, List.flatMap_append, ← h1]
      simp only [joinB, blanks, List.map_cons]
      rw [Lib.join_cons, textOf_toList]
    · rcases List.mem_append.1 hr with hr | hr
      · exact ⟨(h4 r hr).1, (h4 r hr).2.1⟩
      · exact h2 r hr
/-- The words of words put together are these words. -/
theorem words_joined {m : Nat} (n : Nat) (l : List ByteArray) (h : ∀ x ∈ l, Good m x) (hs : ¬ 400 < (joinB l (blanks (n + 1))).size) : wordsO (joinB l (blanks (n + 1))) = (l, 0) := by
  obtain ⟨rs, e, hr⟩ := join_runes (n + 1) m l h
  rw [wordsO_good hs (fun x hx => by
    have hx2 : x.2 ∈ rn (joinB l (blanks (n + 1))) 0 := List.mem_map.2 ⟨x, hx, rfl⟩
    rw [e, rn_textOf rs (fun r hr' => (hr r hr').1)] at hx2
    exact (hr _ hx2).2), refGo_join n m l h]
theorem joinTail_length (sep : List UInt8) (k : Nat) (ys : List (List UInt8)) (h : ∀ y ∈ ys, y.length ≤ k) : (Lib.joinTail sep ys).length ≤ ys.length * (sep.length + k) := by
  induction ys with
  | nil => simp [Lib.joinTail]
  | cons y t ih =>
    have h1 := h y List.mem_cons_self
    have h2 := ih (fun z hz => h z (List.mem_cons_of_mem _ hz))
    have e : (Lib.joinTail sep (y :: t)).length = sep.length + y.length + (Lib.joinTail sep t).length := by simp [Lib.joinTail]; omega
    rw [e, List.length_cons, Nat.add_mul, Nat.one_mul]
    omega
theorem join_length (l : List ByteArray) (sep : ByteArray) (h : ∀ x ∈ l, Good 400 x) (hl : l.length ≤ 401) (hs : sep.size ≤ 100) : (Lib.join (l.map (·.data.toList)) sep.data.toList).length ≤ 1000000 := by
  cases l with
  | nil => simp [Lib.join]
  | cons x t =>
    rw [List.map_cons, Lib.join_cons, List.length_append]
    have h1 := (h x List.mem_cons_self).1
    have h2 := joinTail_length sep.data.toList 400 (t.map (·.data.toList)) (fun y hy => by
      obtain ⟨z, hz, rfl⟩ := List.mem_map.1 hy
      have := (h z (List.mem_cons_of_mem _ hz)).1
      simpa using this)
    rw [List.length_map] at h2
    have h3 : sep.data.toList.length = sep.size := by simp
    have h4 : x.data.toList.length = x.size := by simp
    rw [h3] at h2
    rw [h4]
    simp only [List.length_cons] at hl
    have h5 : t.length * (sep.size + 400) ≤ 400 * (sep.size + 400) := Nat.mul_le_mul_right _ (by omega)
    omega
end Go.Proofs.Ytmhdjmfkndgboaa
