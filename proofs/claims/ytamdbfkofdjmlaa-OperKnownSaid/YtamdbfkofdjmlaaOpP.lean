/- Plain facts on rows of records: put in the order of their places, those of one place in the order in which they came. No program in this text. -/
import Init
namespace Go.Proofs.Ytamdbfkofdjmlaa.opr
set_option linter.unusedSimpArgs false
set_option linter.unusedVariables false
/-- A record: place, key, number. -/
abbrev Rc := Int × Int × Int
def Up (l : List Rc) : Prop := l.Pairwise (fun a b => a.1 ≤ b.1)
/-- The records of a place. -/
def fil (p : Int) (l : List Rc) : List Rc := l.filter (fun r => decide (r.1 = p))
theorem fil_nil (p : Int) : fil p [] = [] := rfl
theorem fil_append (p : Int) (a b : List Rc) : fil p (a ++ b) = fil p a ++ fil p b := by simp [fil]
theorem fil_cons (p : Int) (r : Rc) (l : List Rc) : fil p (r :: l) = (if r.1 = p then r :: fil p l else fil p l) := by
  unfold fil; by_cases h : r.1 = p <;> simp [h]
theorem fil_mem {p : Int} {r : Rc} {l : List Rc} : r ∈ fil p l ↔ r ∈ l ∧ r.1 = p := by simp [fil]
def Same (l r : List Rc) : Prop := ∀ p, fil p l = fil p r
theorem Same.refl (l : List Rc) : Same l l := fun _ => rfl
theorem Same.trans {a b c : List Rc} (h : Same a b) (k : Same b c) : Same a c := fun p => (h p).trans (k p)
theorem Same.symm {a b : List Rc} (h : Same a b) : Same b a := fun p => (h p).symm
theorem Same.mem {a b : List Rc} (h : Same a b) {r : Rc} (hr : r ∈ a) : r ∈ b := by
  have h1 : r ∈ fil r.1 a := fil_mem.2 ⟨hr, rfl⟩
  rw [h r.1] at h1
  exact (fil_mem.1 h1).1
/-- Two rows in order that have the same of each place are the same. -/
theorem same_up : ∀ {a b : List Rc}, Same a b → Up a → Up b → a = b
  | [], [], _, _, _ => rfl
  | [], r :: b, h, _, _ => by have := h.symm.mem (List.mem_cons_self (a := r) (l := b)); cases this
  | r :: a, [], h, _, _ => by have := h.mem (List.mem_cons_self (a := r) (l := a)); cases this
  | r :: a, s :: b, h, ha, hb => by
    obtain ⟨a1, a2⟩ := List.pairwise_cons.1 ha
    obtain ⟨b1, b2⟩ := List.pairwise_cons.1 hb
    have e1 : r.1 ≤ s.1 := by
      rcases List.mem_cons.1 (h.symm.mem (List.mem_cons_self (a := s) (l := b))) with e | e
      · rw [e]; exact Int.le_refl _
      · exact a1 s e
    have e2 : s.1 ≤ r.1 := by
      rcases List.mem_cons.1 (h.mem (List.mem_cons_self (a := r) (l := a))) with e | e
      · rw [e]; exact Int.le_refl _
      · exact b1 r e
    have hp := h r.1
    rw [fil_cons, fil_cons, if_pos rfl, if_pos (by omega)] at hp
    injection hp with e3 e4
    subst e3
    congr 1
    refine same_up (fun p => ?_) a2 b2
    have := h p
    rw [fil_cons, fil_cons] at this
    split at this
    · injection this
    · exact this
/-- A record is put in ahead of those that stand no lower. -/
def ins (r : Rc) : List Rc → List Rc
  | [] => [r]
  | s :: t => if r.1 ≤ s.1 then r :: s :: t else s :: ins r t
def srt : List Rc → List Rc
  | [] => []
  | r :: t => ins r (srt t)
theorem ins_same (r : Rc) (l : List Rc) : Same (ins r l) (r :: l) := by
  induction l with
  | nil => exact .refl _
  | cons s t ih =>
    unfold ins
    by_cases h : r.1 ≤ s.1
    · rw [if_pos h]; exact .refl _
    · rw [if_neg h]
      intro p
      rw [fil_cons, ih p, fil_cons, fil_cons, fil_cons]
      by_cases h1 : r.1 = p
      · by_cases h2 : s.1 = p
        · omega
        · simp [h1, h2]
      · simp [h1]
theorem ins_up {r : Rc} {l : List Rc} (h : Up l) : Up (ins r l) := by
  induction l with
  | nil => exact List.pairwise_singleton _ _
  | cons s t ih =>
    obtain ⟨h1, h2⟩ := List.pairwise_cons.1 h
    unfold ins
    by_cases hr : r.1 ≤ s.1
    · rw [if_pos hr]
      refine List.pairwise_cons.2 ⟨fun x hx => ?_, h⟩
      rcases List.mem_cons.1 hx with rfl | hx
      · exact hr
      · exact Int.le_trans hr (h1 x hx)
    · rw [if_neg hr]
      refine List.pairwise_cons.2 ⟨fun x hx => ?_, ih h2⟩
      rcases List.mem_cons.1 ((ins_same r t).mem hx) with rfl | hx
      · omega
      · exact h1 x hx
theorem srt_up (l : List Rc) : Up (srt l) := by
  induction l with
  | nil => exact List.Pairwise.nil
  | cons r t ih => exact ins_up ih
theorem srt_same (l : List Rc) : Same (srt l) l := by
  induction l with
  | nil => exact .refl _
  | cons r t ih =>
    refine (ins_same r _).trans (fun p => ?_)
    rw [fil_cons, fil_cons, ih p]
theorem srt_of {l r : List Rc} (h : Same r l) (hu : Up r) : r = srt l := same_up (h.trans (srt_same l).symm) hu (srt_up l)
theorem ins_len (r : Rc) (l : List Rc) : (ins r l).length = l.length + 1 := by
  induction l with
  | nil => rfl
  | cons s t ih => unfold ins; split <;> simp [ih]
theorem srt_len (l : List Rc) : (srt l).length = l.length := by
  induction l with
  | nil => rfl
  | cons r t ih => unfold srt; rw [ins_len, ih]; rfl
/-! Pieces of a row. -/
/-- In order between two places. -/
def UpR (a b : Nat) (l : List Rc) : Prop := ∀ i j x y, a ≤ i → i < j → j < b → l[i]? = some x → l[j]? = some y → x.1 ≤ y.1
theorem UpR.mono {a b c d : Nat} {l : List Rc} (h : UpR a b l) (h1 : a ≤ c) (h2 : d ≤ b) : UpR c d l := fun i j x y e1 e2 e3 => h i j x y (by omega) e2 (by omega)
theorem UpR.le {a b : Nat} {l : List Rc} (h : UpR a b l) {i j : Nat} {x y : Rc} (e1 : a ≤ i) (e2 : i ≤ j) (e3 : j < b) (hx : l[i]? = some x) (hy : l[j]? = some y) : x.1 ≤ y.1 := by
  by_cases e : i = j
  · subst e; rw [hx] at hy; injection hy with e; rw [e]; exact Int.le_refl _
  · exact h i j x y e1 (by omega) e3 hx hy
theorem UpR.one (a : Nat) (l : List Rc) : UpR a (a + 1) l := fun i j x y e1 e2 e3 => by omega
theorem UpR.none {a b : Nat} (h : b ≤ a + 1) (l : List Rc) : UpR a b l := fun i j x y e1 e2 e3 => by omega
theorem UpR.up {l : List Rc} (h : UpR 0 l.length l) : Up l := by
  unfold Up
  rw [List.pairwise_iff_getElem]
  intro i j hi hj hij
  exact h i j _ _ (Nat.zero_le _) hij hj (List.getElem?_eq_getElem hi) (List.getElem?_eq_getElem hj)
theorem UpR.of_up {l : List Rc} (h : Up l) (a b : Nat) : UpR a b l := by
  intro i j x y _ hij _ hx hy
  obtain ⟨hi, rfl⟩ := List.getElem?_eq_some_iff.1 hx
  obtain ⟨hj, rfl⟩ := List.getElem?_eq_some_iff.1 hy
  exact List.pairwise_iff_getElem.1 h i j hi hj hij
/-- What a turn between two places leaves. -/
structure Seg (a b : Nat) (l r : List Rc) : Prop where
  len : r.length = l.length
  out : ∀ i, (i < a ∨ b ≤ i) → r[i]? = l[i]?
  same : Same r l
  from' : ∀ i, a ≤ i → i < b → ∃ j, a ≤ j ∧ j < b ∧ r[i]? = l[j]?
theorem Seg.refl (a b : Nat) (l : List Rc) : Seg a b l l := ⟨rfl, fun _ _ => rfl, .refl _, fun i h1 h2 => ⟨i, h1, h2, rfl⟩⟩
theorem Seg.trans {a b : Nat} {l r s : List Rc} (h : Seg a b l r) (k : Seg a b r s) : Seg a b l s :=
  ⟨k.len.trans h.len, fun i hi => (k.out i hi).trans (h.out i hi), k.same.trans h.same, fun i h1 h2 => by
    obtain ⟨j, j1, j2, j3⟩ := k.from' i h1 h2
    obtain ⟨q, q1, q2, q3⟩ := h.from' j j1 j2
    exact ⟨q, q1, q2, j3.trans q3⟩⟩
theorem Seg.mono {a b c d : Nat} {l r : List Rc} (h : Seg a b l r) (h1 : c ≤ a) (h2 : b ≤ d) : Seg c d l r :=
  ⟨h.len, fun i hi => h.out i (by omega), h.same, fun i e1 e2 => by
    by_cases e : a ≤ i ∧ i < b
    · obtain ⟨j, j1, j2, j3⟩ := h.from' i e.1 e.2
      exact ⟨j, by omega, by omega, j3⟩
    · exact ⟨i, e1, e2, h.out i (by omega)⟩⟩
theorem UpR.seg {a b c d : Nat} {l r : List Rc} (h : UpR c d l) (k : Seg a b l r) (ho : d ≤ a ∨ b ≤ c) : UpR c d r := fun i j x y e1 e2 e3 hx hy => by
  rw [k.out i (by omega)] at hx
  rw [k.out j (by omega)] at hy
  exact h i j x y e1 e2 e3 hx hy
/-- Two places are exchanged. -/
def swp (l : List Rc) (i j : Nat) : List Rc := (l.set i (l.getD j (0, 0, 0))).set j (l.getD i (0, 0, 0))
theorem swp_len (l : List Rc) (i j : Nat) : (swp l i j).length = l.length := by simp [swp]
theorem swp_get {l : List Rc} {i j : Nat} (hi : i < l.length) (hj : j < l.length) (x : Nat) : (swp l i j)[x]? = if x = j then l[i]? else if x = i then l[j]? else l[x]? := by
  unfold swp
  rw [List.getElem?_set, List.getElem?_set]
  by_cases h : j = x
  · subst h; simp [hj, hi, List.getD_eq_getElem?_getD]
  · rw [if_neg h, if_neg (Ne.symm h)]
    by_cases h2 : i = x
    · subst h2; simp [hj, hi, List.getD_eq_getElem?_getD]
    · rw [if_neg h2, if_neg (Ne.symm h2)]
/-- Two runs, one behind the other, are exchanged. -/
structure Rot (a m b : Nat) (l r : List Rc) : Prop where
  len : r.length = l.length
  out : ∀ i, (i < a ∨ b ≤ i) → r[i]? = l[i]?
  fst : ∀ i, a ≤ i → i < a + (b - m) → r[i]? = l[i + (m - a)]?
  snd : ∀ i, a + (b - m) ≤ i → i < b → r[i]? = l[i - (b - m)]?
theorem Rot.eq {a m b : Nat} {l r : List Rc} (h : Rot a m b l r) (h1 : a ≤ m) (h2 : m ≤ b) (h3 : b ≤ l.length) :
    r = l.take a ++ ((l.drop m).take (b - m) ++ ((l.drop a).take (m - a) ++ l.drop b)) := by
  apply List.ext_getElem?
  intro i
  by_cases c1 : i < a
  · rw [h.out i (.inl c1), List.getElem?_append_left (by rw [List.length_take]; omega), List.getElem?_take_of_lt c1]
  · rw [List.getElem?_append_right (by rw [List.length_take]; omega), List.length_take, show min a l.length = a by omega]
    by_cases c2 : i < a + (b - m)
    · rw [h.fst i (by omega) c2, List.getElem?_append_left (by rw [List.length_take, List.length_drop]; omega), List.getElem?_take_of_lt (by omega), List.getElem?_drop, show i + (m - a) = m + (i - a) by omega]
    · rw [List.getElem?_append_right (by rw [List.length_take, List.length_drop]; omega), List.length_take, List.length_drop, show min (b - m) (l.length - m) = b - m by omega]
      by_cases c3 : i < b
      · rw [h.snd i (by omega) c3, List.getElem?_append_left (by rw [List.length_take, List.length_drop]; omega), List.getElem?_take_of_lt (by omega), List.getElem?_drop, show i - (b - m) = a + (i - a - (b - m)) by omega]
      · rw [h.out i (.inr (by omega)), List.getElem?_append_right (by rw [List.length_take, List.length_drop]; omega), List.length_take, List.length_drop, List.getElem?_drop, show min (m - a) (l.length - a) = m - a by omega, show b + (i - a - (b - m) - (m - a)) = i by omega]
theorem cut4 {a m b : Nat} (l : List Rc) (h1 : a ≤ m) (h2 : m ≤ b) : l = l.take a ++ ((l.drop a).take (m - a) ++ ((l.drop m).take (b - m) ++ l.drop b)) := by
  have e1 : (l.drop m).take (b - m) ++ l.drop b = l.drop m := by
    have := List.take_append_drop (b - m) (l.drop m)
    rwa [List.drop_drop, show m + (b - m) = b by omega] at this
  have e2 : (l.drop a).take (m - a) ++ l.drop m = l.drop a := by
    have := List.take_append_drop (m - a) (l.drop a)
    rwa [List.drop_drop, show a + (m - a) = m by omega] at this
  rw [e1, e2, List.take_append_drop]
theorem mem_piece {l : List Rc} {c n : Nat} {x : Rc} (h : x ∈ (l.drop c).take n) : ∃ i, c ≤ i ∧ i < c + n ∧ l[i]? = some x := by
  obtain ⟨i, hi⟩ := List.mem_iff_getElem?.1 h
  rw [List.getElem?_take] at hi
  split at hi
  · rw [List.getElem?_drop] at hi
    exact ⟨c + i, by omega, by omega, hi⟩
  · cases hi
theorem Rot.same {a m b : Nat} {l r : List Rc} (h : Rot a m b l r) (h1 : a ≤ m) (h2 : m ≤ b) (h3 : b ≤ l.length)
    (hs : ∀ i j x y, a ≤ i → i < m → m ≤ j → j < b → l[i]? = some x → l[j]? = some y → y.1 < x.1) : Same r l := by
  intro p
  rw [h.eq h1 h2 h3]
  conv => rhs; rw [cut4 l h1 h2]
  simp only [fil_append]
  congr 1
  rw [← List.append_assoc, ← List.append_assoc]
  congr 1
  by_cases e1 : fil p ((l.drop a).take (m - a)) = []
  · rw [e1]; simp
  by_cases e2 : fil p ((l.drop m).take (b - m)) = []
  · rw [e2]; simp
  obtain ⟨x, hx⟩ := List.exists_mem_of_ne_nil _ e1
  obtain ⟨y, hy⟩ := List.exists_mem_of_ne_nil _ e2
  obtain ⟨hx1, hx2⟩ := fil_mem.1 hx
  obtain ⟨hy1, hy2⟩ := fil_mem.1 hy
  obtain ⟨i, i1, i2, i3⟩ := mem_piece hx1
  obtain ⟨j, j1, j2, j3⟩ := mem_piece hy1
  have := hs i j x y i1 (by omega) j1 (by omega) i3 j3
  omega
theorem Rot.seg {a m b : Nat} {l r : List Rc} (h : Rot a m b l r) (h1 : a ≤ m) (h2 : m ≤ b) (h3 : b ≤ l.length)
    (hs : ∀ i j x y, a ≤ i → i < m → m ≤ j → j < b → l[i]? = some x → l[j]? = some y → y.1 < x.1) : Seg a b l r := by
  refine ⟨h.len, h.out, h.same h1 h2 h3 hs, fun i e1 e2 => ?_⟩
  by_cases c : i < a + (b - m)
  · exact ⟨_, by omega, by omega, h.fst i e1 c⟩
  · exact ⟨_, by omega, by omega, h.snd i (by omega) e2⟩
/-- Two neighbours that stand the wrong way. -/
theorem swp_seg {l : List Rc} {j : Nat} (hj : j + 1 < l.length) (hs : ∀ x y, l[j]? = some x → l[j + 1]? = some y → y.1 < x.1) : Seg j (j + 2) l (swp l j (j + 1)) := by
  refine Rot.seg (m := j + 1) ⟨swp_len _ _ _, fun i hi => ?_, fun i e1 e2 => ?_, fun i e1 e2 => ?_⟩ (by omega) (by omega) (by omega) (fun i k x y e1 e2 e3 e4 hx hy => ?_)
  · rw [swp_get (by omega) hj, if_neg (by omega), if_neg (by omega)]
  · obtain rfl : i = j := by omega
    rw [swp_get (by omega) hj, if_neg (by omega), if_pos rfl, show i + (i + 1 - i) = i + 1 by omega]
  · obtain rfl : i = j + 1 := by omega
    rw [swp_get (by omega) hj, if_pos rfl, show j + 1 - (j + 2 - (j + 1)) = j by omega]
  · obtain rfl : i = j := by omega
    obtain rfl : k = i + 1 := by omega
    exact hs x y hx hy
theorem swp_comm {l : List Rc} {i j : Nat} (hi : i < l.length) (hj : j < l.length) : swp l i j = swp l j i := by
  apply List.ext_getElem?
  intro x
  rw [swp_get hi hj, swp_get hj hi]
  by_cases h1 : x = j
  · by_cases h2 : x = i
    · subst h1 h2; rfl
    · simp [h1, h2]; intro h; subst h; exact absurd h1 h2
  · by_cases h2 : x = i
    · simp [h1, h2]; intro h; subst h; exact absurd h2 h1
    · simp [h1, h2]
/-- Two runs of so many are exchanged, place by place. -/
def xch (l : List Rc) (a b : Nat) : Nat → List Rc
  | 0 => l
  | k + 1 => swp (xch l a b k) (a + k) (b + k)
theorem xch_len (l : List Rc) (a b k : Nat) : (xch l a b k).length = l.length := by
  induction k with
  | zero => rfl
  | succ k ih => unfold xch; rw [swp_len, ih]
theorem xch_get {l : List Rc} {a b : Nat} : ∀ {k : Nat}, a + k ≤ b → b + k ≤ l.length → ∀ x, (xch l a b k)[x]? = if a ≤ x ∧ x < a + k then l[b + (x - a)]? else if b ≤ x ∧ x < b + k then l[a + (x - b)]? else l[x]?
  | 0, _, _, x => by rw [if_neg (by omega), if_neg (by omega)]; rfl
  | k + 1, h1, h2, x => by
    have ih := fun y => xch_get (l := l) (a := a) (b := b) (k := k) (by omega) (by omega) y
    unfold xch
    rw [swp_get (by rw [xch_len]; omega) (by rw [xch_len]; omega), ih, ih, ih]
    by_cases c1 : x = b + k
    · subst c1
      rw [if_pos rfl, if_neg (by omega), if_neg (by omega), if_neg (by omega), if_pos (by omega)]
      congr 1; omega
    · rw [if_neg c1]
      by_cases c2 : x = a + k
      · subst c2
        rw [if_pos rfl, if_neg (by omega), if_neg (by omega), if_pos (by omega)]
        congr 1; omega
      · rw [if_neg c2]
        by_cases c3 : a ≤ x ∧ x < a + k
        · rw [if_pos c3, if_pos (by omega)]
        · rw [if_neg c3, if_neg (show ¬ (a ≤ x ∧ x < a + (k + 1)) by omega)]
          by_cases c4 : b ≤ x ∧ x < b + k
          · rw [if_pos c4, if_pos (by omega)]
          · rw [if_neg c4, if_neg (by omega)]
/-- One step of the exchange of two runs: what is left. -/
theorem rot_big {m i j : Nat} {c r : List Rc} (hij : j < i) (him : i ≤ m) (hb : m + j ≤ c.length) (h : Rot (m - (i - j)) m (m + j) (xch c (m - i) m j) r) : Rot (m - i) m (m + j) c r := by
  have hx := fun x => xch_get (l := c) (a := m - i) (b := m) (k := j) (by omega) (by omega) x
  refine ⟨h.len.trans (xch_len _ _ _ _), fun x e => ?_, fun x e1 e2 => ?_, fun x e1 e2 => ?_⟩
  · rw [h.out x (by omega), hx, if_neg (by omega), if_neg (by omega)]
  · rw [h.out x (by omega), hx, if_pos (by omega)]
    congr 1; omega
  · by_cases e3 : x < m - (i - j) + j
    · rw [h.fst x (by omega) (by omega), hx, if_neg (by omega), if_pos (by omega)]
      congr 1; omega
    · rw [h.snd x (by omega) (by omega), hx, if_neg (by omega), if_neg (by omega)]
      first | done | (congr 1; omega)
theorem rot_less {m i j : Nat} {c r : List Rc} (hij : i < j) (him : i ≤ m) (hb : m + j ≤ c.length) (h : Rot (m - i) m (m + (j - i)) (xch c (m - i) (m + j - i) i) r) : Rot (m - i) m (m + j) c r := by
  have hx := fun x => xch_get (l := c) (a := m - i) (b := m + j - i) (k := i) (by omega) (by omega) x
  refine ⟨h.len.trans (xch_len _ _ _ _), fun x e => ?_, fun x e1 e2 => ?_, fun x e1 e2 => ?_⟩
  · rw [h.out x (by omega), hx, if_neg (by omega), if_neg (by omega)]
  · by_cases e3 : x < m - i + (j - i)
    · rw [h.fst x (by omega) (by omega), hx, if_neg (by omega), if_neg (by omega)]
      first | done | (congr 1; omega)
    · rw [h.snd x (by omega) (by omega), hx, if_pos (by omega)]
      congr 1; omega
  · rw [h.out x (by omega), hx, if_neg (by omega), if_pos (by omega)]
    congr 1; omega
theorem rot_even {m i : Nat} {c : List Rc} (him : i ≤ m) (hb : m + i ≤ c.length) : Rot (m - i) m (m + i) c (xch c (m - i) m i) := by
  have hx := fun x => xch_get (l := c) (a := m - i) (b := m) (k := i) (by omega) (by omega) x
  refine ⟨xch_len _ _ _ _, fun x e => ?_, fun x e1 e2 => ?_, fun x e1 e2 => ?_⟩
  · rw [hx, if_neg (by omega), if_neg (by omega)]
  · rw [hx, if_pos (by omega)]
    congr 1; omega
  · rw [hx, if_neg (by omega), if_pos (by omega)]
    congr 1; omega
/-! Insertion. -/
/-- A record on its way down: what stands below it and above it is in order. -/
structure InsI (a i j : Nat) (l : List Rc) : Prop where
  lo : UpR a j l
  hi : UpR j (i + 1) l
  mid : ∀ x y u v, a ≤ x → x < j → j < y → y ≤ i → l[x]? = some u → l[y]? = some v → u.1 ≤ v.1
theorem InsI.start {a i : Nat} {l : List Rc} (h : UpR a i l) : InsI a i i l := ⟨h, UpR.one i l, fun x y u v h1 h2 h3 h4 => by omega⟩
theorem InsI.done {a i j : Nat} {l : List Rc} (h : InsI a i j l) (hj : j = a ∨ (a < j ∧ ∀ x y, l[j - 1]? = some x → l[j]? = some y → x.1 ≤ y.1)) (hi : i < l.length) (hji : j ≤ i) : UpR a (i + 1) l := by
  intro x y u v e1 e2 e3 hu hv
  by_cases c1 : y < j
  · exact h.lo x y u v e1 e2 c1 hu hv
  by_cases c2 : j ≤ x
  · exact h.hi x y u v c2 e2 e3 hu hv
  by_cases c3 : j < y
  · exact h.mid x y u v e1 (by omega) c3 (by omega) hu hv
  · obtain rfl : y = j := by omega
    rcases hj with rfl | ⟨h1, h2⟩
    · omega
    · have hl : (y - 1) < l.length := by omega
      have := h2 l[y - 1] v (List.getElem?_eq_getElem hl) hv
      have h3 := h.lo.le (i := x) (j := y - 1) e1 (by omega) (by omega) hu (List.getElem?_eq_getElem hl)
      omega
theorem InsI.step {a i j : Nat} {l : List Rc} (h : InsI a i (j + 1) l) (haj : a ≤ j) (hji : j + 1 ≤ i) (hi : i < l.length) (hs : ∀ x y, l[j]? = some x → l[j + 1]? = some y → y.1 < x.1) : InsI a i j (swp l (j + 1) j) := by
  rw [swp_comm (by omega) (by omega)]
  have g := fun x => swp_get (l := l) (i := j) (j := j + 1) (by omega) (by omega) x
  have hj : l[j]? = some l[j] := List.getElem?_eq_getElem (by omega)
  have hj1 : l[j + 1]? = some l[j + 1] := List.getElem?_eq_getElem (by omega)
  refine ⟨fun x y u v e1 e2 e3 hu hv => ?_, fun x y u v e1 e2 e3 hu hv => ?_, fun x y u v e1 e2 e3 e4 hu hv => ?_⟩
  · rw [g, if_neg (by omega), if_neg (by omega)] at hu hv
    exact h.lo x y u v e1 e2 (by omega) hu hv
  · rw [g] at hu hv
    by_cases c1 : x = j
    · subst c1
      rw [if_neg (by omega), if_pos rfl] at hu
      by_cases c2 : y = x + 1
      · subst c2
        rw [if_pos rfl] at hv
        have := hs v u hv hu
        omega
      · rw [if_neg c2, if_neg (by omega)] at hv
        exact h.hi (x + 1) y u v (by omega) (by omega) (by omega) hu hv
    · by_cases c2 : x = j + 1
      · subst c2
        rw [if_pos rfl] at hu
        rw [if_neg (by omega), if_neg (by omega)] at hv
        exact h.mid j y u v (by omega) (by omega) (by omega) (by omega) hu hv
      · rw [if_neg c2, if_neg c1] at hu
        rw [if_neg (by omega), if_neg (by omega)] at hv
        exact h.hi x y u v (by omega) e2 e3 hu hv
  · rw [g] at hu hv
    rw [if_neg (by omega), if_neg (by omega)] at hu
    by_cases c2 : y = j + 1
    · subst c2
      rw [if_pos rfl] at hv
      exact h.lo x j u v e1 e2 (by omega) hu hv
    · rw [if_neg c2, if_neg (by omega)] at hv
      exact h.mid x y u v e1 (by omega) (by omega) e4 hu hv
/-! The merge of two runs. -/
/-- What the search tells: where the runs are cut. -/
structure CutAt (a m b start fin : Nat) (l : List Rc) : Prop where
  h1 : a ≤ start
  h2 : start ≤ m
  h3 : m ≤ fin
  h4 : fin ≤ b
  low : ∀ x y, a < start → fin < b → l[start - 1]? = some x → l[fin]? = some y → x.1 ≤ y.1
  high : ∀ x y, start < m → m < fin → l[start]? = some x → l[fin - 1]? = some y → y.1 < x.1
theorem cut_strict {a m b s f : Nat} {l : List Rc} (h : CutAt a m b s f l) (h1 : UpR a m l) (h2 : UpR m b l) (hb : b ≤ l.length) :
    ∀ i j x y, s ≤ i → i < m → m ≤ j → j < f → l[i]? = some x → l[j]? = some y → y.1 < x.1 := by
  intro i j x y e1 e2 e3 e4 hx hy
  have g := h.h1; have g2 := h.h4
  have hs : l[s]? = some l[s] := List.getElem?_eq_getElem (by omega)
  have hf : l[f - 1]? = some l[f - 1] := List.getElem?_eq_getElem (by omega)
  have := h.high _ _ (by omega) (by omega) hs hf
  have k1 := h1.le (by omega) e1 e2 hs hx
  have k2 := h2.le e3 (show j ≤ f - 1 by omega) (by omega) hy hf
  omega
/-- The runs' inner pieces have been exchanged: both halves are two runs, and the first one's stand no higher. -/
theorem cut_parts {a m b s f mid : Nat} {l r : List Rc} (h : CutAt a m b s f l) (hm : s + (f - m) = mid) (h1 : UpR a m l) (h2 : UpR m b l) (hb : b ≤ l.length) (hr : Rot s m f l r) :
    UpR a s r ∧ UpR s mid r ∧ UpR mid f r ∧ UpR f b r ∧ ∀ i j x y, a ≤ i → i < mid → mid ≤ j → j < b → r[i]? = some x → r[j]? = some y → x.1 ≤ y.1 := by
  have g1 := h.h1; have g2 := h.h2; have g3 := h.h3; have g4 := h.h4
  refine ⟨fun i j x y e1 e2 e3 hx hy => ?_, fun i j x y e1 e2 e3 hx hy => ?_, fun i j x y e1 e2 e3 hx hy => ?_, fun i j x y e1 e2 e3 hx hy => ?_, fun i j x y e1 e2 e3 e4 hx hy => ?_⟩
  · rw [hr.out i (by omega)] at hx
    rw [hr.out j (by omega)] at hy
    exact h1 i j x y e1 e2 (by omega) hx hy
  · rw [hr.fst i (by omega) (by omega)] at hx
    rw [hr.fst j (by omega) (by omega)] at hy
    exact h2 _ _ x y (by omega) (by omega) (by omega) hx hy
  · rw [hr.snd i (by omega) (by omega)] at hx
    rw [hr.snd j (by omega) (by omega)] at hy
    exact h1 _ _ x y (by omega) (by omega) (by omega) hx hy
  · rw [hr.out i (by omega)] at hx
    rw [hr.out j (by omega)] at hy
    exact h2 i j x y (by omega) e2 (by omega) hx hy
  · by_cases c1 : i < s
    · rw [hr.out i (by omega)] at hx
      by_cases c2 : j < f
      · rw [hr.snd j (by omega) (by omega)] at hy
        exact h1 _ _ x y (by omega) (by omega) (by omega) hx hy
      · rw [hr.out j (by omega)] at hy
        have hs : l[s - 1]? = some l[s - 1] := List.getElem?_eq_getElem (by omega)
        have hf : l[f]? = some l[f] := List.getElem?_eq_getElem (by omega)
        have := h.low _ _ (by omega) (by omega) hs hf
        have k1 := h1.le e1 (show i ≤ s - 1 by omega) (by omega) hx hs
        have k2 := h2.le (show m ≤ f by omega) (show f ≤ j by omega) (by omega) hf hy
        omega
    · rw [hr.fst i (by omega) (by omega)] at hx
      by_cases c2 : j < f
      · rw [hr.snd j (by omega) (by omega)] at hy
        have := cut_strict h h1 h2 hb (j - (f - m)) (i + (m - s)) y x (by omega) (by omega) (by omega) (by omega) hy hx
        omega
      · rw [hr.out j (by omega)] at hy
        exact h2 _ _ x y (by omega) (by omega) (by omega) hx hy
/-- Both halves are in order: all is. -/
theorem halves_up {a mid b : Nat} {r u v : List Rc} (hc : ∀ i j x y, a ≤ i → i < mid → mid ≤ j → j < b → r[i]? = some x → r[j]? = some y → x.1 ≤ y.1) (h1 : Seg a mid r u) (h2 : Seg mid b u v) (k1 : UpR a mid u) (k2 : UpR mid b v) : UpR a b v := by
  intro i j x y e1 e2 e3 hx hy
  by_cases c1 : mid ≤ i
  · exact k2 i j x y c1 e2 e3 hx hy
  by_cases c2 : j < mid
  · rw [h2.out i (by omega)] at hx
    rw [h2.out j (by omega)] at hy
    exact k1 i j x y e1 e2 c2 hx hy
  rw [h2.out i (by omega)] at hx
  obtain ⟨i', i1, i2, i3⟩ := h1.from' i e1 (by omega)
  obtain ⟨j', j1, j2, j3⟩ := h2.from' j (by omega) e3
  rw [i3] at hx
  rw [j3, h1.out j' (by omega)] at hy
  exact hc i' j' x y i1 i2 j1 j2 hx hy
/-- The search's bounds. -/
structure Srch (m p s0 r0 s r : Nat) (l : List Rc) : Prop where
  h1 : s0 ≤ s
  h2 : s ≤ r
  h3 : r ≤ r0
  low : ∀ x y, s0 < s → l[s - 1]? = some x → l[p - (s - 1)]? = some y → x.1 ≤ y.1
  high : ∀ x y, r < r0 → l[r]? = some x → l[p - r]? = some y → y.1 < x.1
theorem Srch.start {m p s0 r0 : Nat} (h : s0 ≤ r0) (l : List Rc) : Srch m p s0 r0 s0 r0 l := ⟨Nat.le_refl _, h, Nat.le_refl _, fun x y h => by omega, fun x y h => by omega⟩
theorem Srch.up {m p s0 r0 s r c : Nat} {l : List Rc} (h : Srch m p s0 r0 s r l) (h1 : s ≤ c) (h2 : c < r) (hc : ∀ x y, l[c]? = some x → l[p - c]? = some y → x.1 ≤ y.1) : Srch m p s0 r0 (c + 1) r l :=
  ⟨by have := h.h1; omega, by omega, h.h3, fun x y _ => by rw [show c + 1 - 1 = c by omega]; exact hc x y, h.high⟩
theorem Srch.down {m p s0 r0 s r c : Nat} {l : List Rc} (h : Srch m p s0 r0 s r l) (h1 : s ≤ c) (h2 : c < r) (hc : ∀ x y, l[c]? = some x → l[p - c]? = some y → y.1 < x.1) : Srch m p s0 r0 s c l :=
  ⟨h.h1, h1, by have := h.h3; omega, h.low, fun x y _ => hc x y⟩
theorem Srch.cut {a m b s0 r0 s : Nat} {l : List Rc} (ham : a < m) (hmb : m < b)
    (hst : (m > (a + b) / 2 ∧ s0 + b = (a + b) / 2 + m ∧ r0 = (a + b) / 2) ∨ (m ≤ (a + b) / 2 ∧ s0 = a ∧ r0 = m)) (h : Srch m ((a + b) / 2 + m - 1) s0 r0 s s l) : CutAt a m b s ((a + b) / 2 + m - s) l ∧ s + ((a + b) / 2 + m - s - m) = (a + b) / 2 := by
  have h1 := h.h1; have h3 := h.h3
  refine ⟨⟨by omega, by omega, by omega, by omega, fun x y e1 e2 hx hy => h.low x y (by omega) hx ?_, fun x y e1 e2 hx hy => h.high x y (by omega) hx ?_⟩, by omega⟩
  · rw [show (a + b) / 2 + m - 1 - (s - 1) = (a + b) / 2 + m - s by omega]; exact hy
  · rw [show (a + b) / 2 + m - 1 - s = (a + b) / 2 + m - s - 1 by omega]; exact hy
end Go.Proofs.Ytamdbfkofdjmlaa.opr
