/- Plain facts on tables: keys in order, each with a cell. No program in this text. -/
import Derived.Test.YtghpbhcnblninaaGrP
import Derived.Test.YtghpbhcnblninaaByP
namespace Go.Proofs.Ytghpbhcnblninaa.tbl
open Go.Proofs.Ytghpbhcnblninaa.grp (gof gof_in fits)
set_option linter.unusedSimpArgs false
set_option linter.unusedVariables false

/-- A cell: its Acc, its row. -/
abbrev Cl := Int × List Int
/-- Keys, each with its cell. -/
abbrev Rows := List (Int × Cl)
/-- Whether a key comes ahead of another one. -/
def lessB (a b : Int) : Bool := decide (gof a < gof b) || (decide (gof a = gof b) && decide (a < b))
theorem less_iff {a b : Int} : lessB a b = true ↔ gof a < gof b ∨ (gof a = gof b ∧ a < b) := by simp [lessB]
theorem less_self (a : Int) : lessB a a = false := by simp [lessB]
theorem less_trans {a b c : Int} (h : lessB a b = true) (k : lessB b c = true) : lessB a c = true := by
  rw [less_iff] at *; omega
theorem less_tri (a b : Int) : lessB a b = true ∨ a = b ∨ lessB b a = true := by
  rw [less_iff, less_iff]
  by_cases h : gof a = gof b
  · rcases Int.lt_trichotomy a b with h1 | h1 | h1
    · exact .inl (.inr ⟨h, h1⟩)
    · exact .inr (.inl h1)
    · exact .inr (.inr (.inr ⟨h.symm, h1⟩))
  · omega
theorem less_ne {a b : Int} (h : lessB a b = true) : a ≠ b := fun e => by rw [e, less_self] at h; cases h
theorem less_asymm {a b : Int} (h : lessB a b = true) : lessB b a = false := by
  cases hb : lessB b a with
  | false => rfl
  | true => have := less_trans h hb; rw [less_self] at this; cases this
theorem less_not {a b : Int} (h : lessB a b = false) (hne : a ≠ b) : lessB b a = true := by
  rcases less_tri a b with h1 | h1 | h1
  · rw [h] at h1; cases h1
  · exact absurd h1 hne
  · exact h1
def Ord (L : Rows) : Prop := L.Pairwise (fun p q => lessB p.1 q.1 = true)
/-- A key's cell. -/
def look (L : Rows) (k : Int) : Option Cl := (L.find? (fun p => decide (p.1 = k))).map Prod.snd
theorem look_nil (k : Int) : look [] k = none := rfl
theorem look_cons (p : Int × Cl) (L : Rows) (k : Int) : look (p :: L) k = if p.1 = k then some p.2 else look L k := by
  unfold look
  by_cases h : p.1 = k
  · simp [List.find?, h]
  · simp [List.find?, h]
theorem mem_look {L : Rows} {k : Int} {c : Cl} (h : look L k = some c) : (k, c) ∈ L := by
  induction L with
  | nil => cases h
  | cons p L ih =>
    rw [look_cons] at h
    split at h
    · rename_i hp
      injection h with h
      rw [← hp, ← h]
      exact List.mem_cons_self ..
    · exact List.mem_cons_of_mem _ (ih h)
theorem look_none {L : Rows} {k : Int} : look L k = none ↔ ∀ p ∈ L, p.1 ≠ k := by
  induction L with
  | nil => simp [look_nil]
  | cons p L ih =>
    rw [look_cons]
    by_cases h : p.1 = k
    · simp [h]
    · rw [if_neg h, ih]; simp [h]
theorem look_mem {L : Rows} (h : Ord L) {p : Int × Cl} (hp : p ∈ L) : look L p.1 = some p.2 := by
  induction L with
  | nil => cases hp
  | cons q L ih =>
    obtain ⟨h1, h2⟩ := List.pairwise_cons.1 h
    rw [look_cons]
    rcases List.mem_cons.1 hp with rfl | hp
    · rw [if_pos rfl]
    · rw [if_neg (less_ne (h1 p hp))]
      exact ih h2 hp
theorem look_head {p : Int × Cl} {L : Rows} (h : Ord (p :: L)) : look L p.1 = none := by
  rw [look_none]
  exact fun q hq e => less_ne ((List.pairwise_cons.1 h).1 q hq) e.symm
theorem ord_ext : ∀ {A B : Rows}, Ord A → Ord B → (∀ k, look A k = look B k) → A = B
  | [], [], _, _, _ => rfl
  | [], q :: B, _, _, h => by have := h q.1; rw [look_cons, if_pos rfl, look_nil] at this; cases this
  | p :: A, [], _, _, h => by have := h p.1; rw [look_cons, if_pos rfl, look_nil] at this; cases this
  | p :: A, q :: B, hA, hB, h => by
    have hpq : p.1 = q.1 := by
      rcases less_tri p.1 q.1 with h1 | h1 | h1
      · have h2 := h p.1
        rw [look_cons, if_pos rfl, look_cons, if_neg (less_ne h1).symm] at h2
        have h3 := mem_look h2.symm
        have h4 := (List.pairwise_cons.1 hB).1 _ h3
        have h5 := less_asymm h1
        simp only at h4
        rw [h4] at h5; cases h5
      · exact h1
      · have h2 := h q.1
        rw [look_cons, look_cons, if_neg (less_ne h1).symm, if_pos rfl] at h2
        have h3 := mem_look h2
        have h4 := (List.pairwise_cons.1 hA).1 _ h3
        have h5 := less_asymm h1
        simp only at h4
        rw [h4] at h5; cases h5
    have h2 : p.2 = q.2 := by
      have := h p.1
      rw [look_cons, if_pos rfl, look_cons, if_pos hpq.symm] at this
      exact Option.some.inj this
    have : p = q := Prod.ext hpq h2
    subst this
    congr 1
    refine ord_ext (List.pairwise_cons.1 hA).2 (List.pairwise_cons.1 hB).2 (fun k => ?_)
    have := h k
    rw [look_cons, look_cons] at this
    by_cases hk : p.1 = k
    · rw [← hk, look_head hA, look_head hB]
    · rwa [if_neg hk, if_neg hk] at this
/-- How many keys of a group there are. -/
def cnt (L : Rows) (g : Int) : Nat := (L.filter (fun p => decide (gof p.1 = g))).length
theorem cnt_nil (g : Int) : cnt [] g = 0 := rfl
theorem cnt_cons (p : Int × Cl) (L : Rows) (g : Int) : cnt (p :: L) g = cnt L g + (if gof p.1 = g then 1 else 0) := by
  unfold cnt
  by_cases h : gof p.1 = g <;> simp [h]
theorem cnt_all (L : Rows) : L.length = cnt L 0 + cnt L 1 + cnt L 2 + cnt L 3 + cnt L 4 + cnt L 5 + cnt L 6 + cnt L 7 := by
  induction L with
  | nil => rfl
  | cons p L ih =>
    simp only [List.length_cons, cnt_cons]
    have := gof_in p.1
    obtain h | h | h | h | h | h | h | h : gof p.1 = 0 ∨ gof p.1 = 1 ∨ gof p.1 = 2 ∨ gof p.1 = 3 ∨ gof p.1 = 4 ∨ gof p.1 = 5 ∨ gof p.1 = 6 ∨ gof p.1 = 7 := by omega
    all_goals (rw [h]; simp; omega)
theorem cnt_le (L : Rows) (g : Int) : cnt L g ≤ L.length := List.length_filter_le _ _
/-- A key is given a cell. -/
def putL : Rows → Int → Cl → Rows
  | [], k, c => [(k, c)]
  | p :: L, k, c => if lessB p.1 k = true then p :: putL L k c else if p.1 = k then (k, c) :: L else (k, c) :: p :: L
theorem look_put (L : Rows) (k : Int) (c : Cl) (x : Int) : look (putL L k c) x = if k = x then some c else look L x := by
  induction L with
  | nil => simp [putL, look_cons, look_nil]
  | cons p L ih =>
    unfold putL
    by_cases h : lessB p.1 k = true
    · rw [if_pos h, look_cons, ih, look_cons]
      by_cases hk : k = x
      · have := less_ne h
        rw [if_pos hk, if_neg (by rw [← hk]; exact this), if_pos hk]
      · rw [if_neg hk, if_neg hk]
    · rw [if_neg h]
      by_cases hp : p.1 = k
      · rw [if_pos hp, look_cons, look_cons]
        by_cases hk : k = x
        · simp [hk]
        · simp [hk, hp]
      · rw [if_neg hp, look_cons]
theorem mem_put {L : Rows} {k : Int} {c : Cl} {p : Int × Cl} (h : p ∈ putL L k c) : p = (k, c) ∨ p ∈ L := by
  induction L with
  | nil => simpa [putL] using h
  | cons q L ih =>
    unfold putL at h
    split at h
    · rcases List.mem_cons.1 h with rfl | h
      · exact .inr (List.mem_cons_self ..)
      · rcases ih h with h | h
        · exact .inl h
        · exact .inr (List.mem_cons_of_mem _ h)
    · split at h
      · rcases List.mem_cons.1 h with h | h
        · exact .inl h
        · exact .inr (List.mem_cons_of_mem _ h)
      · rcases List.mem_cons.1 h with h | h
        · exact .inl h
        · exact .inr h
theorem ord_put {L : Rows} (h : Ord L) (k : Int) (c : Cl) : Ord (putL L k c) := by
  induction L with
  | nil => exact List.pairwise_singleton _ _
  | cons p L ih =>
    obtain ⟨h1, h2⟩ := List.pairwise_cons.1 h
    unfold putL
    by_cases hl : lessB p.1 k = true
    · rw [if_pos hl]
      refine List.pairwise_cons.2 ⟨fun q hq => ?_, ih h2⟩
      rcases mem_put hq with rfl | hq
      · exact hl
      · exact h1 q hq
    · rw [if_neg hl]
      by_cases hp : p.1 = k
      · rw [if_pos hp]
        exact List.pairwise_cons.2 ⟨fun q hq => by rw [← hp]; exact h1 q hq, h2⟩
      · rw [if_neg hp]
        have h3 := less_not (by simpa using hl) hp
        refine List.pairwise_cons.2 ⟨fun q hq => ?_, h⟩
        rcases List.mem_cons.1 hq with rfl | hq
        · exact h3
        · exact less_trans h3 (h1 q hq)
theorem cnt_put {L : Rows} (h : Ord L) (k : Int) (c : Cl) (g : Int) : cnt (putL L k c) g = if look L k = none ∧ gof k = g then cnt L g + 1 else cnt L g := by
  induction L with
  | nil => by_cases hg : gof k = g <;> simp [putL, cnt_cons, cnt_nil, look_nil, hg]
  | cons p L ih =>
    obtain ⟨h1, h2⟩ := List.pairwise_cons.1 h
    unfold putL
    by_cases hl : lessB p.1 k = true
    · rw [if_pos hl, cnt_cons, ih h2, look_cons, if_neg (less_ne hl), cnt_cons]
      split <;> omega
    · rw [if_neg hl]
      by_cases hp : p.1 = k
      · rw [if_pos hp, look_cons, if_pos hp, cnt_cons, cnt_cons, hp]
        simp
      · rw [if_neg hp]
        have h3 := less_not (by simpa using hl) hp
        have h4 : look (p :: L) k = none := look_none.2 (fun q hq e => by
          rcases List.mem_cons.1 hq with rfl | hq
          · exact hp e
          · have := less_trans h3 (h1 q hq)
            rw [e, less_self] at this; cases this)
        rw [h4, cnt_cons]
        by_cases hg : gof k = g <;> simp [hg]
/-- A key is dropped. -/
def delL (L : Rows) (k : Int) : Rows := L.filter (fun p => decide (p.1 ≠ k))
theorem look_del (L : Rows) (k x : Int) : look (delL L k) x = if k = x then none else look L x := by
  induction L with
  | nil => simp [delL, look_nil]
  | cons p L ih =>
    unfold delL at ih ⊢
    rw [List.filter_cons]
    by_cases hp : p.1 = k
    · simp only [hp, ne_eq, not_true_eq_false, decide_false, Bool.false_eq_true, if_false]
      rw [ih, look_cons]
      by_cases hk : k = x <;> simp [hk, hp]
    · simp only [ne_eq, hp, not_false_eq_true, decide_true, if_true]
      rw [look_cons, ih, look_cons]
      by_cases hk : k = x
      · simp [hk, show ¬ p.1 = x from fun e => hp (e.trans hk.symm)]
      · simp [hk]
theorem ord_del {L : Rows} (h : Ord L) (k : Int) : Ord (delL L k) := h.filter _
theorem cnt_del {L : Rows} (h : Ord L) {k : Int} {c : Cl} (hc : look L k = some c) (g : Int) : cnt L g = cnt (delL L k) g + (if gof k = g then 1 else 0) := by
  induction L with
  | nil => cases hc
  | cons p L ih =>
    obtain ⟨h1, h2⟩ := List.pairwise_cons.1 h
    rw [look_cons] at hc
    unfold delL at ih ⊢
    rw [List.filter_cons]
    by_cases hp : p.1 = k
    · simp only [hp, ne_eq, not_true_eq_false, decide_false, Bool.false_eq_true, if_false]
      have : L.filter (fun q => !decide (q.1 = k)) = L := List.filter_eq_self.2 (fun q hq => by
        have := less_ne (h1 q hq)
        rw [hp] at this
        simp [Ne.symm this])
      simp only [decide_not]
      rw [this, cnt_cons, hp]
    · rw [if_neg hp] at hc
      simp only [ne_eq, hp, not_false_eq_true, decide_true, if_true]
      rw [cnt_cons, cnt_cons, ih h2 hc]
      simp only [ne_eq]
      omega
theorem del_none {L : Rows} {k : Int} (h : look L k = none) : delL L k = L :=
  List.filter_eq_self.2 (fun p hp => by simpa using look_none.1 h p hp)
/-- The keys of some groups. -/
def ofL (L : Rows) (gs : List Int) : Rows := L.filter (fun p => decide (gof p.1 ∈ gs))
theorem look_of (L : Rows) (gs : List Int) (x : Int) : look (ofL L gs) x = if gof x ∈ gs then look L x else none := by
  induction L with
  | nil => simp [ofL, look_nil]
  | cons p L ih =>
    unfold ofL at ih ⊢
    rw [List.filter_cons]
    by_cases hp : gof p.1 ∈ gs
    · simp only [hp, decide_true, if_true]
      rw [look_cons, ih, look_cons]
      by_cases hx : p.1 = x
      · rw [if_pos hx, if_pos hx, if_pos (by rw [← hx]; exact hp)]
      · rw [if_neg hx, if_neg hx]
    · simp only [hp, decide_false, Bool.false_eq_true, if_false]
      rw [ih, look_cons]
      by_cases hx : p.1 = x
      · rw [if_neg (by rw [← hx]; exact hp), if_neg (by rw [← hx]; exact hp)]
      · rw [if_neg hx]
theorem ord_of {L : Rows} (h : Ord L) (gs : List Int) : Ord (ofL L gs) := h.filter _
theorem cnt_of (L : Rows) (gs : List Int) (g : Int) : cnt (ofL L gs) g ≤ cnt L g := by
  unfold cnt ofL
  rw [List.filter_filter, ← List.countP_eq_length_filter, ← List.countP_eq_length_filter]
  refine List.countP_mono_left (fun p _ h => ?_)
  simp at h ⊢
  exact h.1
theorem cnt_of_yes {L : Rows} {gs : List Int} {g : Int} (hg : g ∈ gs) : cnt (ofL L gs) g = cnt L g := by
  unfold cnt ofL
  rw [List.filter_filter]
  congr 1
  refine List.filter_congr (fun p _ => ?_)
  by_cases h : gof p.1 = g
  · simp [h, hg]
  · simp [h]
theorem cnt_of_no {L : Rows} {gs : List Int} {g : Int} (hg : g ∉ gs) : cnt (ofL L gs) g = 0 := by
  unfold cnt ofL
  rw [List.filter_filter, List.length_eq_zero_iff, List.filter_eq_nil_iff]
  intro p _ h
  simp at h
  exact hg (h.1 ▸ h.2)
/-- Another table's keys come, too. -/
def joinL (L U : Rows) : Rows := U.foldl (fun A p => putL A p.1 p.2) L
theorem look_join {U : Rows} (hU : Ord U) : ∀ (L : Rows) (x : Int), look (joinL L U) x = (look U x).or (look L x) := by
  induction U with
  | nil => intro L x; simp [joinL, look_nil]
  | cons p U ih =>
    intro L x
    have h := ih (List.pairwise_cons.1 hU).2 (putL L p.1 p.2) x
    show look (joinL (putL L p.1 p.2) U) x = _
    rw [h, look_put, look_cons]
    by_cases hx : p.1 = x
    · rw [if_pos hx, if_pos hx, ← hx, look_head hU]; simp
    · rw [if_neg hx, if_neg hx]
theorem ord_join {L U : Rows} (hL : Ord L) : Ord (joinL L U) := by
  induction U generalizing L with
  | nil => exact hL
  | cons p U ih => exact ih (ord_put hL _ _)
/-- What a table may hold. -/
structure Fine (c : Cl) : Prop where
  acc : fits c.1
  all : ∀ x ∈ c.2, fits x
  few : c.2.length ≤ 16
structure Good (L : Rows) : Prop where
  ord : Ord L
  key : ∀ p ∈ L, fits p.1
  cell : ∀ p ∈ L, Fine p.2
  full : ∀ g, cnt L g ≤ 40
theorem Good.nil : Good [] := ⟨List.Pairwise.nil, by simp, by simp, by simp [cnt_nil]⟩
theorem Good.len {L : Rows} (h : Good L) : L.length ≤ 320 := by
  have := cnt_all L
  have := h.full 0; have := h.full 1; have := h.full 2; have := h.full 3; have := h.full 4; have := h.full 5; have := h.full 6; have := h.full 7
  omega
theorem Good.fine {L : Rows} (h : Good L) {k : Int} {c : Cl} (hc : look L k = some c) : fits k ∧ Fine c := ⟨h.key _ (mem_look hc), h.cell _ (mem_look hc)⟩
theorem Good.put {L : Rows} (h : Good L) {k : Int} {c : Cl} (hk : fits k) (hc : Fine c) (hr : look L k = none → cnt L (gof k) < 40) : Good (putL L k c) where
  ord := ord_put h.ord k c
  key p hp := by rcases mem_put hp with rfl | hp; exact hk; exact h.key p hp
  cell p hp := by rcases mem_put hp with rfl | hp; exact hc; exact h.cell p hp
  full g := by
    rw [cnt_put h.ord]
    split
    · rename_i hg; have := hr hg.1; rw [hg.2] at this; omega
    · exact h.full g
theorem Good.sub {L U : Rows} (h : Good L) (hs : U.Sublist L) : Good U where
  ord := h.ord.sublist hs
  key p hp := h.key p (hs.subset hp)
  cell p hp := h.cell p (hs.subset hp)
  full g := Nat.le_trans (hs.filter _).length_le (h.full g)
theorem Good.del {L : Rows} (h : Good L) (k : Int) : Good (delL L k) := h.sub List.filter_sublist
theorem Good.of {L : Rows} (h : Good L) (gs : List Int) : Good (ofL L gs) := h.sub List.filter_sublist
/-- What Put answers, and what it leaves. -/
def putO (L : Rows) (k : Int) (c : Cl) : Int × Rows := if 16 < c.2.length then (2, L) else if look L k = none ∧ 40 ≤ cnt L (gof k) then (7, L) else (0, putL L k c)
/-- What Join answers, and what it leaves. -/
def joinO (L U : Rows) : Int × Rows := if U.any (fun p => (look L p.1).isSome) = true then (2, L) else if (List.range 8).any (fun g => decide (40 < cnt L (g : Nat) + cnt U (g : Nat))) = true then (7, L) else (0, joinL L U)
/-- A table's numbers. -/
def numsL (L : Rows) : List Int := (L.length : Int) :: L.flatMap (fun p => p.1 :: p.2.1 :: (p.2.2.length : Int) :: p.2.2)
end Go.Proofs.Ytghpbhcnblninaa.tbl
