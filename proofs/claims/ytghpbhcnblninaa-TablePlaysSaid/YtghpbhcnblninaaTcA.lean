/- The reference's table in memory: a struct of one slice, whose rows are key, number and slice of numbers. -/
import Derived.Test.YtghpbhcnblninaaTbV
import Derived.Laws.OwnMore
namespace Go.Proofs.Ytghpbhcnblninaa.tbl
set_option linter.unusedSimpArgs false
set_option linter.unusedVariables false
open Go.RowKit
attribute [local go_sem ↓] Go.wp_at_zero Go.wp_at_succ
open Go.Proofs.Ytghpbhcnblninaa.grp (gof gof_in fits fits_wf IRow intV below_on' below_made ret_bool own_below own_cases)
/-- A row: its key, its number, its slice of numbers. -/
structure Rw where
  key : Int
  acc : Int
  a : Option Addr
  ns : List Int
  cap : Nat
def Rw.cells (r : Rw) : List Value := [.int .i64 r.key, .int .i64 r.acc, .slice r.a r.ns.length r.cap]
def Rw.p (r : Rw) : Int × Cl := (r.key, (r.acc, r.ns))
def cells3 (rs : List Rw) : List Value := rs.flatMap Rw.cells
theorem cells3_nil : cells3 [] = [] := rfl
theorem cells3_cons (r : Rw) (rs : List Rw) : cells3 (r :: rs) = r.cells ++ cells3 rs := rfl
theorem cells3_append (rs qs : List Rw) : cells3 (rs ++ qs) = cells3 rs ++ cells3 qs := by simp [cells3]
theorem cells3_len (rs : List Rw) : (cells3 rs).length = rs.length * 3 := by
  induction rs with
  | nil => rfl
  | cons r rs ih => rw [cells3_cons, List.length_append, ih]; simp [Rw.cells]; omega
theorem cells3_get {rs : List Rw} {k j : Nat} (hk : k < rs.length) (hj : j < 3) : (cells3 rs)[k * 3 + j]? = rs[k].cells[j]? := by
  induction rs generalizing k with
  | nil => simp at hk
  | cons r rs ih =>
    rw [cells3_cons]
    cases k with
    | zero => rw [List.getElem?_append_left (by simp [Rw.cells]; omega)]; simp
    | succ k =>
      rw [List.getElem?_append_right (by simp [Rw.cells]; omega)]
      have h3 : r.cells.length = 3 := rfl
      rw [h3, show (k + 1) * 3 + j - 3 = k * 3 + j by omega, ih (by simpa using hk)]
      rfl
theorem cells3_one (rs : List Rw) : ∀ u ∈ cells3 rs, u.oneCell' = true := by
  intro u hu
  obtain ⟨r, -, hu⟩ := List.mem_flatMap.1 hu
  simp [Rw.cells] at hu
  rcases hu with rfl | rfl | rfl <;> rfl
/-- A slice that reads rows. -/
def Sr (w : World) (v : Value) (rs : List Rw) : Prop :=
  ∃ a c, v = .slice a rs.length c ∧ (a = none → c = 0) ∧ rs.length ≤ c ∧ c ≤ maxLen ∧
    (0 < rs.length → ∃ g o cur fr, a = some ⟨g, o, none⟩ ∧ w.heap[g]? = some (.cells cur 89 fr) ∧ ∀ j u, (cells3 rs)[j]? = some u → w.cell? ⟨g, o + j, none⟩ = some u)
/-- Rows of rows stay. -/
def Rows3 (w w' : World) : Prop := ∀ (g : Nat) (cur : Array Value) (fr : Nat × Nat), w.heap[g]? = some (.cells cur 89 fr) → w'.heap[g]? = some (.cells cur 89 fr)
theorem Rows3.of_below {w w' : World} (h : Below w.heap.size w w') : Rows3 w w' := fun g cur fr hg => (h.block g (lt_of_get hg)).trans hg
theorem Rows3.of_only {F : Nat → Prop} {w w' : World} (h : Only F w w') (hF : ∀ g cur fr, F g → w.heap[g]? ≠ some (.cells cur 89 fr)) : Rows3 w w' :=
  fun g cur fr hg => (h.block g (lt_of_get hg) fun hf => hF g cur fr hf hg).trans hg
theorem Sr.keep {w w' : World} {v : Value} {rs : List Rw} (h : Sr w v rs) (hr : Rows3 w w') : Sr w' v rs := by
  obtain ⟨a, c, h1, h2, h3, h4, h5⟩ := h
  refine ⟨a, c, h1, h2, h3, h4, fun hl => ?_⟩
  obtain ⟨g, o, cur, fr, e1, e2, e3⟩ := h5 hl
  refine ⟨g, o, cur, fr, e1, hr g cur fr e2, fun j u hu => ?_⟩
  rw [World.cell?_of_block (w := w) (a := ⟨g, o + j, none⟩) ((hr g cur fr e2).trans e2.symm)]
  exact e3 j u hu
theorem Sr.nil (w : World) : Sr w (.slice none 0 0) [] := ⟨none, 0, rfl, fun _ => rfl, Nat.le_refl _, by decide, fun h => by simp at h⟩
/-- What a slice's row reads. -/
theorem Sr.at {w : World} {v : Value} {rs : List Rw} (h : Sr w v rs) {k : Nat} (hk : k < rs.length) :
    ∃ g o c, v = .slice (some ⟨g, o, none⟩) rs.length c ∧ w.cell? ⟨g, o + k * 3, none⟩ = some (.int .i64 rs[k].key) ∧ w.cell? ⟨g, o + k * 3 + 1, none⟩ = some (.int .i64 rs[k].acc) ∧ w.cell? ⟨g, o + k * 3 + 2, none⟩ = some (.slice rs[k].a rs[k].ns.length rs[k].cap) := by
  obtain ⟨a, c, h1, h2, h3, h4, h5⟩ := h
  obtain ⟨g, o, cur, fr, rfl, e2, e3⟩ := h5 (by omega)
  refine ⟨g, o, c, h1, ?_, ?_, ?_⟩
  · exact e3 (k * 3) _ (by rw [show k * 3 = k * 3 + 0 by omega, cells3_get hk (by omega)]; rfl)
  · have := e3 (k * 3 + 1) _ (by rw [cells3_get hk (by omega)]; rfl)
    rwa [← Nat.add_assoc] at this
  · have := e3 (k * 3 + 2) _ (by rw [cells3_get hk (by omega)]; rfl)
    rwa [← Nat.add_assoc] at this
theorem Sr.len {w : World} {v : Value} {rs : List Rw} (h : Sr w v rs) : ∃ a c, v = .slice a rs.length c := by
  obtain ⟨a, c, h1, _⟩ := h; exact ⟨a, c, h1⟩
theorem Sr.own {w : World} {B n : Nat} {v : Value} {rs : List Rw} (h : w.ownsRow B 89 3 v n (cells3 rs)) : n = rs.length ∧ Sr w v rs := by
  have hn : n = rs.length := by have := h.1; rw [cells3_len] at this; omega
  subst hn
  refine ⟨rfl, ?_⟩
  rcases h.2 with ⟨rfl, h0⟩ | ⟨g, cap, cur, rfl, hBg, hb, h1, h2, h3, h4⟩
  · exact ⟨none, 0, by rw [h0], fun _ => rfl, by omega, by decide, fun h1 => by omega⟩
  · refine ⟨_, cap, rfl, (fun e => by cases e), by omega, by omega, fun _ => ⟨g, 0, cur, _, rfl, hb, fun j u hu => ?_⟩⟩
    have hj : j < rs.length * 3 := by rw [← cells3_len]; exact (List.getElem?_eq_some_iff.1 hu).1
    have h5 : (cur.toList.take (rs.length * 3))[j]? = (cells3 rs)[j]? := by rw [h4]
    rw [List.getElem?_take_of_lt (by omega)] at h5
    rw [cell_of_row w g (0 + j) _ _ _ hb, Nat.zero_add, ← Array.getElem?_toList, h5, hu]
/-- The reference's table. -/
def IsRs (w : World) (r : Nat) (rs : List Rw) : Prop := ∃ v, w.heap[r]? = some (.cells #[v] 45 (0, 0)) ∧ Sr w v rs ∧ ∀ x ∈ rs, NA w x.a x.cap x.ns
structure IsRef (w : World) (r : Nat) (L : Rows) : Prop where
  good : Good L
  rows : ∃ rs, rs.map Rw.p = L ∧ IsRs w r rs
theorem IsRs.keep {w w' : World} {r : Nat} {rs : List Rw} (h : IsRs w r rs) (hr : w'.heap[r]? = w.heap[r]?) (h3 : Rows3 w w') (h2 : Rows2 w w') : IsRs w' r rs := by
  obtain ⟨v, e1, e2, e3⟩ := h
  exact ⟨v, hr.trans e1, e2.keep h3, fun x hx => (e3 x hx).keep h2⟩
theorem IsRs.lt {w : World} {r : Nat} {rs : List Rw} (h : IsRs w r rs) : r < w.heap.size := by obtain ⟨v, e1, _⟩ := h; exact lt_of_get e1
theorem IsRs.below {w w' : World} {r : Nat} {rs : List Rw} (h : IsRs w r rs) (hb : Below w.heap.size w w') : IsRs w' r rs := h.keep (hb.block r h.lt) (.of_below hb) (.of_below hb)
theorem IsRef.lt {w : World} {r : Nat} {L : Rows} (h : IsRef w r L) : r < w.heap.size := by obtain ⟨rs, _, h1⟩ := h.rows; exact h1.lt
theorem IsRef.below {w w' : World} {r : Nat} {L : Rows} (h : IsRef w r L) (hb : Below w.heap.size w w') : IsRef w' r L := by
  obtain ⟨rs, e, h1⟩ := h.rows
  exact ⟨h.good, rs, e, h1.below hb⟩
/-- Another table, of whichever kind, stays. -/
theorem IsRef.other {w w' : World} {r q : Nat} {L U : Rows} (h : IsRef w r L) (h' : IsRef w q U) (ho : Only (· = r) w w') (hne : q ≠ r) : IsRef w' q U := by
  obtain ⟨rs, e, v, h1, h2⟩ := h.rows
  obtain ⟨qs, e', h3⟩ := h'.rows
  exact ⟨h'.good, qs, e', h3.keep (ho.block q h3.lt hne) (.of_only ho (fun g cur fr hg he => by rw [hg, h1] at he; cases he)) (.of_only ho (fun g cur fr hg he => by rw [hg, h1] at he; cases he))⟩
theorem IsRef.tab {w w' : World} {r t b : Nat} {L U : Rows} (h : IsRef w r L) (h' : IsTab w t b U) (ho : Only (· = r) w w') : IsTab w' t b U := by
  obtain ⟨rs, e, v, h1, h2⟩ := h.rows
  have h3 := h'.obj
  unfold TabO at h3
  obtain ⟨es, ck, h4⟩ := h'.map.isMap
  exact h'.keep (ho.block t h'.lt.1 (fun e => by rw [e, h1] at h3; cases h3)) (ho.block b h'.lt.2.1 (fun e => by rw [e, h1] at h4; cases h4)) (.of_only ho (fun g cur fr hg he => by rw [hg, h1] at he; cases he))
theorem IsTab.ref {w w' : World} {r t b : Nat} {L U : Rows} (h : IsTab w t b U) (h' : IsRef w r L) (ho : Only (Two t b) w w') : IsRef w' r L := by
  obtain ⟨rs, e, hh⟩ := h'.rows
  obtain ⟨v, h1, h2⟩ := id hh
  have h3 := h.obj
  unfold TabO at h3
  obtain ⟨es, ck, h4⟩ := h.map.isMap
  have hn : ¬ Two t b r := fun hg => by
    rcases hg with e | e
    · rw [← e, h1] at h3; cases h3
    · rw [← e, h1] at h4; cases h4
  refine ⟨h'.good, rs, e, hh.keep (ho.block r hh.lt hn) (.of_only ho (fun g cur fr hg he => ?_)) (h.rows ho)⟩
  rcases hg with e | e
  · rw [e, h3] at he; cases he
  · rw [e, h4] at he; cases he
/-! Where a key stands. -/
def fnd (rs : List Rw) (k : Int) : Nat := (rs.takeWhile (fun x => lessB x.key k)).length
theorem fnd_le (rs : List Rw) (k : Int) : fnd rs k ≤ rs.length := (List.takeWhile_prefix _).length_le
theorem fnd_less {rs : List Rw} {k : Int} {j : Nat} (h : j < fnd rs k) (hl : j < rs.length) : lessB rs[j].key k = true := by
  induction rs generalizing j with
  | nil => simp at hl
  | cons r rs ih =>
    unfold fnd at h
    by_cases hr : lessB r.key k = true
    · cases j with
      | zero => exact hr
      | succ j =>
        simp only [List.takeWhile_cons, hr, if_true, List.length_cons] at h
        exact ih (by unfold fnd; omega) (by simpa using hl)
    · simp [List.takeWhile_cons, hr] at h
theorem fnd_not {rs : List Rw} {k : Int} (hl : fnd rs k < rs.length) : lessB rs[fnd rs k].key k = false := by
  induction rs with
  | nil => simp at hl
  | cons r rs ih =>
    unfold fnd at hl ⊢
    by_cases h : lessB r.key k = true
    · simp only [List.takeWhile_cons, h, if_true, List.length_cons] at hl ⊢
      have := ih (by unfold fnd; omega)
      unfold fnd at this
      simpa using this
    · simp only [List.takeWhile_cons, h] at hl ⊢
      simpa using h
theorem fnd_put (rs : List Rw) (k : Int) (c : Cl) (hO : Ord (rs.map Rw.p)) : putL (rs.map Rw.p) k c = (rs.take (fnd rs k)).map Rw.p ++ (k, c) :: (rs.drop (fnd rs k + if look (rs.map Rw.p) k = none then 0 else 1)).map Rw.p := by
  induction rs with
  | nil => simp [putL, fnd, look]
  | cons r rs ih =>
    have hO' : Ord (rs.map Rw.p) := (List.pairwise_cons.1 hO).2
    rw [List.map_cons]
    unfold putL
    by_cases h : lessB r.key k = true
    · have hk : r.key ≠ k := less_ne h
      have hf : fnd (r :: rs) k = fnd rs k + 1 := by unfold fnd; simp [List.takeWhile_cons, h]
      rw [if_pos (show lessB r.p.1 k = true from h), ih hO', hf, look_cons, if_neg (show r.p.1 ≠ k from hk)]
      obtain ⟨d, hd⟩ : ∃ d : Nat, (if look (rs.map Rw.p) k = none then 0 else 1) = d := ⟨_, rfl⟩
      rw [hd, show fnd rs k + 1 + d = fnd rs k + d + 1 by omega, List.take_succ_cons, List.drop_succ_cons]
      rfl
    · have hf : fnd (r :: rs) k = 0 := by unfold fnd; simp [List.takeWhile_cons, h]
      rw [if_neg (show ¬ lessB r.p.1 k = true from h), hf, look_cons]
      by_cases hk : r.p.1 = k
      · rw [if_pos hk, if_pos hk]; simp
      · rw [if_neg hk, if_neg hk]
        have hn : look (rs.map Rw.p) k = none := look_none.2 (fun q hq e => by
          have h1 := (List.pairwise_cons.1 hO).1 q hq
          rw [e] at h1
          exact h h1)
        rw [if_pos hn]; simp
theorem fnd_look (rs : List Rw) (k : Int) (hO : Ord (rs.map Rw.p)) : look (rs.map Rw.p) k = if h : fnd rs k < rs.length then (if rs[fnd rs k].key = k then some (rs[fnd rs k].acc, rs[fnd rs k].ns) else none) else none := by
  induction rs with
  | nil => simp [look]
  | cons r rs ih =>
    have hO' : Ord (rs.map Rw.p) := (List.pairwise_cons.1 hO).2
    rw [List.map_cons, look_cons]
    by_cases h : lessB r.key k = true
    · have hk : r.key ≠ k := less_ne h
      have hf : fnd (r :: rs) k = fnd rs k + 1 := by unfold fnd; simp [List.takeWhile_cons, h]
      rw [if_neg (show r.p.1 ≠ k from hk), ih hO']
      simp only [hf, List.length_cons, Nat.add_lt_add_iff_right, List.getElem_cons_succ]
    · have hf : fnd (r :: rs) k = 0 := by unfold fnd; simp [List.takeWhile_cons, h]
      simp only [hf, List.length_cons, Nat.zero_lt_succ, dite_true, List.getElem_cons_zero]
      by_cases hk : r.key = k
      · rw [if_pos (show r.p.1 = k from hk), if_pos hk]; rfl
      · rw [if_neg (show r.p.1 ≠ k from hk), if_neg hk]
        exact look_none.2 (fun q hq e => by
          have h1 := (List.pairwise_cons.1 hO).1 q hq
          rw [e] at h1
          exact h h1)
theorem fnd_del (rs : List Rw) (k : Int) (hO : Ord (rs.map Rw.p)) {c : Cl} (hc : look (rs.map Rw.p) k = some c) : delL (rs.map Rw.p) k = (rs.take (fnd rs k)).map Rw.p ++ (rs.drop (fnd rs k + 1)).map Rw.p := by
  induction rs with
  | nil => simp [look] at hc
  | cons r rs ih =>
    have hO' : Ord (rs.map Rw.p) := (List.pairwise_cons.1 hO).2
    rw [List.map_cons] at hc ⊢
    rw [look_cons] at hc
    unfold delL
    by_cases h : lessB r.key k = true
    · have hk : r.key ≠ k := less_ne h
      have hf : fnd (r :: rs) k = fnd rs k + 1 := by unfold fnd; simp [List.takeWhile_cons, h]
      rw [if_neg (show r.p.1 ≠ k from hk)] at hc
      have := ih hO' hc
      unfold delL at this
      rw [List.filter_cons, if_pos (decide_eq_true (show r.p.1 ≠ k from hk)), this, hf]
      simp
    · have hf : fnd (r :: rs) k = 0 := by unfold fnd; simp [List.takeWhile_cons, h]
      have hk : r.p.1 = k := by
        by_cases hk : r.p.1 = k
        · exact hk
        · rw [if_neg hk] at hc
          have h1 := (List.pairwise_cons.1 hO).1 _ (mem_look hc)
          exact absurd h1 h
      rw [List.filter_cons, if_neg (by simpa using hk), hf]
      simp only [List.take_zero, List.map_nil, List.nil_append, Nat.zero_add, List.drop_succ_cons, List.drop_zero]
      rw [List.filter_eq_self]
      intro q hq
      have h1 := (List.pairwise_cons.1 hO).1 q hq
      rw [hk] at h1
      simpa using (less_ne h1).symm
end Go.Proofs.Ytghpbhcnblninaa.tbl
