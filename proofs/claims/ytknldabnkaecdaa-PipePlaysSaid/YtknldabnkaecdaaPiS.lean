/- Plain: the message that numbers tell; whose bytes a text is. -/
import Derived.Test.YtknldabnkaecdaaPiU
namespace Go.Proofs.Ytknldabnkaecdaa.pip
set_option linter.unusedSimpArgs false
set_option linter.unusedVariables false
open Go.RowKit
open Go.Proofs.Ytknldabnkaecdaa.byt (fits intV txt flat bl numsO nums)
def triples : List Int → List Rc
  | a :: b :: c :: l => (a, b, c) :: triples l
  | _ => []
theorem triples_len : ∀ l : List Int, (triples l).length = l.length / 3
  | [] => by simp [triples]
  | [_] => by simp [triples]
  | [_, _] => by simp [triples]
  | a :: b :: c :: l => by
    have := triples_len l
    simp only [triples, List.length_cons, this]
    omega
theorem triples_get : ∀ (l : List Int) (j : Nat), j < l.length / 3 → ∃ a b c, l[3 * j]? = some a ∧ l[3 * j + 1]? = some b ∧ l[3 * j + 2]? = some c ∧ (triples l)[j]? = some (a, b, c)
  | [], j, h => by simp at h
  | [_], j, h => by simp at h
  | [_, _], j, h => by simp at h
  | a :: b :: c :: l, 0, _ => ⟨a, b, c, rfl, rfl, rfl, rfl⟩
  | a :: b :: c :: l, j + 1, h => by
    obtain ⟨x, y, z, h1, h2, h3, h4⟩ := triples_get l j (by simp only [List.length_cons] at h; omega)
    refine ⟨x, y, z, ?_, ?_, ?_, ?_⟩
    · rw [show 3 * (j + 1) = 3 * j + 1 + 1 + 1 by omega]; simpa using h1
    · rw [show 3 * (j + 1) + 1 = 3 * j + 1 + 1 + 1 + 1 by omega]; simpa using h2
    · rw [show 3 * (j + 1) + 2 = 3 * j + 2 + 1 + 1 + 1 by omega]; simpa using h3
    · simpa [triples] using h4
theorem triples_flat : ∀ l : List Int, l.length % 3 = 0 → (triples l).flatMap numR = l
  | [], _ => rfl
  | [_], h => by simp at h
  | [_, _], h => by simp at h
  | a :: b :: c :: l, h => by
    have := triples_flat l (by simp only [List.length_cons] at h; omega)
    simp only [triples, List.flatMap_cons, this, numR, List.cons_append, List.nil_append]
theorem triples_of : ∀ rs : List Rc, triples (rs.flatMap numR) = rs
  | [] => rfl
  | (a, b, c) :: rs => by
    simp only [List.flatMap_cons, numR, List.cons_append, List.nil_append, triples, triples_of rs]
theorem triples_fits : ∀ l : List Int, (∀ n ∈ l, fits n) → ∀ r ∈ triples l, fits r.1 ∧ fits r.2.1 ∧ fits r.2.2
  | [], _, r, hr => by simp [triples] at hr
  | [_], _, r, hr => by simp [triples] at hr
  | [_, _], _, r, hr => by simp [triples] at hr
  | a :: b :: c :: l, h, r, hr => by
    simp only [triples, List.mem_cons] at hr
    rcases hr with rfl | hr
    · exact ⟨h a (by simp), h b (by simp), h c (by simp)⟩
    · exact triples_fits l (fun n hn => h n (by simp [hn])) r hr
/-- The message that numbers tell, as far as they go. -/
def readM (l : List Int) : Ms := (l.getD 0 0, l.getD 1 0, triples (l.drop 3))
def ReadOk (l : List Int) : Prop := 3 ≤ l.length ∧ (l.length - 3) % 3 = 0 ∧ l.getD 2 0 = ((l.length - 3) / 3 : Nat) ∧ MayP (readM l)
open Classical in
noncomputable def readO (s : ByteArray) : Ms × Int := if (numsO s).2 = 0 ∧ ReadOk (numsO s).1 then (readM (numsO s).1, 0) else (zeroM, 21)
theorem read_yes {s : ByteArray} {l : List Int} (h : numsO s = (l, 0)) (hr : ReadOk l) : readO s = (readM l, 0) := by
  classical
  unfold readO; rw [h]; exact if_pos ⟨rfl, hr⟩
theorem read_no {s : ByteArray} {l : List Int} {c : Int} (h : numsO s = (l, c)) (hr : c = 0 → ¬ ReadOk l) : readO s = (zeroM, 21) := by
  classical
  unfold readO; rw [h]; exact if_neg (fun hh => hr hh.1 hh.2)
theorem nums_text {s : ByteArray} {l : List Int} (h : numsO s = (l, 0)) : txt (flat l) = s ∧ (∀ n ∈ l, fits n) ∧ l.length ≤ s.size := by
  have h2 : (nums s.size [] (bl s)).2 = 0 := by
    have : numsO s = nums s.size [] (bl s) := rfl
    rw [← this, h]
  obtain ⟨l', h3, h4, h5, h6⟩ := byt.nums_ok s.size [] (bl s) (by rw [byt.bl_length]; exact Nat.le_refl _) h2
  have : (numsO s).1 = [] ++ l' := h3
  rw [h, List.nil_append] at this
  dsimp only at this
  subst this
  exact ⟨by rw [h4]; rfl, h5, by rw [byt.bl_length] at h6; exact h6⟩
theorem text_nums {l : List Int} (hf : ∀ n ∈ l, fits n) : numsO (txt (flat l)) = (l, 0) := by
  have := byt.nums_flat l (flat l).length [] hf (Nat.le_refl _)
  unfold numsO
  rw [byt.txt_size]
  change nums (flat l).length [] (flat l) = (l, 0)
  rw [this, List.nil_append]
/-- Numbers are a message's just if they are as many as it says. -/
theorem nums_of {l : List Int} (hl : 3 ≤ l.length) : numsM (readM l) = l ↔ ((l.length - 3) % 3 = 0 ∧ l.getD 2 0 = ((l.length - 3) / 3 : Nat)) := by
  match l, hl with
  | x :: y :: z :: t, _ =>
    have hlen : (x :: y :: z :: t).length - 3 = t.length := by simp
    rw [hlen]
    show [x, y, ((triples t).length : Int)] ++ (triples t).flatMap numR = x :: y :: z :: t ↔ _
    rw [triples_len]
    constructor
    · intro h
      simp only [List.cons_append, List.nil_append, List.cons.injEq, true_and] at h
      have h2 := congrArg List.length h.2
      rw [flatR_len, triples_len] at h2
      refine ⟨by omega, ?_⟩
      rw [List.getD_eq_getElem?_getD]
      show z = _
      exact h.1.symm
    · rintro ⟨h1, h2⟩
      rw [List.getD_eq_getElem?_getD] at h2
      have h2 : z = ((t.length / 3 : Nat) : Int) := h2
      rw [triples_flat t h1, h2]; rfl
theorem readM_of (m : Ms) : readM (numsM m) = m := by
  obtain ⟨x, y, rs⟩ := m
  show (x, y, triples (rs.flatMap numR)) = (x, y, rs)
  rw [triples_of]
theorem readM_fits {l : List Int} (h : ∀ n ∈ l, fits n) (hl : 3 ≤ l.length) : fitM (readM l) := by
  match l, hl with
  | x :: y :: z :: t, _ => exact ⟨h x (by simp), h y (by simp), triples_fits t (fun n hn => h n (by simp [hn]))⟩
/-- A message that may be is read back of its bytes. -/
theorem read_back {m : Ms} (hf : fitM m) (hl : m.2.2.length ≤ 1000000) (hm : MayP m) : readO (txt (flat (numsM m))) = (m, 0) := by
  have h := text_nums (numsM_fits hf hl)
  have hlen := numsM_len m
  have h3 : 3 ≤ (numsM m).length := by omega
  have := (nums_of h3).1 (by rw [readM_of])
  rw [read_yes h ⟨h3, this.1, this.2, by rw [readM_of]; exact hm⟩, readM_of]
/-- What is read has these bytes, and may be. -/
theorem read_forth {s : ByteArray} {m : Ms} (h : readO s = (m, 0)) : MayP m ∧ txt (flat (numsM m)) = s ∧ fitM m ∧ m.2.2.length ≤ s.size := by
  classical
  unfold readO at h
  split at h
  · rename_i hh
    obtain ⟨h1, h2⟩ := hh
    injection h with h _
    have e : numsO s = ((numsO s).1, 0) := by rw [← h1]
    have ht := nums_text e
    rw [← h]
    refine ⟨h2.2.2.2, ?_, readM_fits ht.2.1 h2.1, ?_⟩
    · rw [(nums_of h2.1).2 ⟨h2.2.1, h2.2.2.1⟩]; exact ht.1
    · have h3 := ht.2.2
      show (triples ((numsO s).1.drop 3)).length ≤ _
      rw [triples_len, List.length_drop]; omega
  · injection h with _ h; cases h
theorem read_err {s : ByteArray} {m : Ms} {c : Int} (h : readO s = (m, c)) (hc : c ≠ 0) : m = zeroM ∧ c = 21 := by
  classical
  unfold readO at h
  split at h
  · injection h with _ h; exact absurd h.symm hc
  · injection h with h1 h2; exact ⟨h1.symm, h2.symm⟩
/-- As the reference tells it: read, told again, and the same. -/
theorem read_ref {s : ByteArray} {l : List Int} (h : numsO s = (l, 0)) (hl : 3 ≤ l.length) (hs : s.size ≤ 1000000) : (MayP (readM l) ∧ txt (flat (numsM (readM l))) = s) ↔ ReadOk l := by
  have ht := nums_text h
  constructor
  · rintro ⟨h1, h2⟩
    have hf := readM_fits ht.2.1 hl
    have h3 : numsM (readM l) = l := by
      have e1 := text_nums (numsM_fits hf (by show (triples (l.drop 3)).length ≤ _; rw [triples_len, List.length_drop]; have := ht.2.2; omega))
      rw [h2, h] at e1
      injection e1 with e1 _
      exact e1.symm
    have := (nums_of hl).1 h3
    exact ⟨hl, this.1, this.2, h1⟩
  · rintro ⟨_, h1, h2, h3⟩
    exact ⟨h3, by rw [(nums_of hl).2 ⟨h1, h2⟩]; exact ht.1⟩
end Go.Proofs.Ytknldabnkaecdaa.pip
