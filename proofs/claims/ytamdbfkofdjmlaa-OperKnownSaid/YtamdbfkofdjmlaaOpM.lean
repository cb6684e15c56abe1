/- Records in memory: slices that read them, a block that holds them, what a store of one leaves; appends. -/
import Derived.Test.YtamdbfkofdjmlaaOpP
import Derived.Test.YtamdbfkofdjmlaaMTb
import Derived.Laws.OwnMore
namespace Go.Proofs.Ytamdbfkofdjmlaa.opr
set_option linter.unusedSimpArgs false
set_option linter.unusedVariables false
open Go.RowKit
open Go.Proofs.Ytamdbfkofdjmlaa.tbl (Only lt_of_get)
def rcC (r : Rc) : List Value := [.int .i64 r.1, .int .i64 r.2.1, .int .i64 r.2.2]
def cellsR (l : List Rc) : List Value := l.flatMap rcC
theorem cellsR_nil : cellsR [] = [] := rfl
theorem cellsR_cons (r : Rc) (rs : List Rc) : cellsR (r :: rs) = rcC r ++ cellsR rs := rfl
theorem cellsR_append (rs qs : List Rc) : cellsR (rs ++ qs) = cellsR rs ++ cellsR qs := by simp [cellsR]
theorem cellsR_len (rs : List Rc) : (cellsR rs).length = rs.length * 3 := by
  induction rs with
  | nil => rfl
  | cons r rs ih => rw [cellsR_cons, List.length_append, ih]; simp [rcC]; omega
theorem cellsR_get {rs : List Rc} {k j : Nat} (hk : k < rs.length) (hj : j < 3) : (cellsR rs)[k * 3 + j]? = (rcC rs[k])[j]? := by
  induction rs generalizing k with
  | nil => simp at hk
  | cons r rs ih =>
    rw [cellsR_cons]
    cases k with
    | zero => rw [List.getElem?_append_left (by simp [rcC]; omega)]; simp
    | succ k =>
      rw [List.getElem?_append_right (by simp [rcC]; omega)]
      have h3 : (rcC r).length = 3 := rfl
      rw [h3, show (k + 1) * 3 + j - 3 = k * 3 + j by omega, ih (by simpa using hk)]
      rfl
theorem cellsR_one (rs : List Rc) : ∀ u ∈ cellsR rs, u.oneCell' = true := by
  intro u hu
  obtain ⟨r, -, hu⟩ := List.mem_flatMap.1 hu
  simp [rcC] at hu
  rcases hu with rfl | rfl | rfl <;> rfl
theorem cellsR_take (rs : List Rc) (k : Nat) : cellsR (rs.take k) = (cellsR rs).take (k * 3) := by
  induction rs generalizing k with
  | nil => simp [cellsR_nil]
  | cons r rs ih =>
    cases k with
    | zero => simp [cellsR_nil]
    | succ k =>
      have h3 : (rcC r).length = 3 := rfl
      rw [List.take_succ_cons, cellsR_cons, cellsR_cons, ih, List.take_append, h3, List.take_of_length_le (l := rcC r) (by rw [h3]; omega), show (k + 1) * 3 - 3 = k * 3 by omega]
theorem cellsR_drop (rs : List Rc) (k : Nat) : cellsR (rs.drop k) = (cellsR rs).drop (k * 3) := by
  induction rs generalizing k with
  | nil => simp [cellsR_nil]
  | cons r rs ih =>
    cases k with
    | zero => simp
    | succ k =>
      have h3 : (rcC r).length = 3 := rfl
      rw [List.drop_succ_cons, cellsR_cons, ih, List.drop_append, h3, List.drop_of_length_le (l := rcC r) (by rw [h3]; omega), show (k + 1) * 3 - 3 = k * 3 by omega, List.nil_append]
/-- Two rows of the same cells. -/
theorem cellsR_inj {a b : List Rc} (h : cellsR a = cellsR b) : a = b := by
  induction a generalizing b with
  | nil =>
    cases b with
    | nil => rfl
    | cons s b => cases h
  | cons r a ih =>
    cases b with
    | nil => cases h
    | cons s b =>
      obtain ⟨r1, r2, r3⟩ := r
      obtain ⟨s1, s2, s3⟩ := s
      simp only [cellsR_cons, rcC, List.cons_append, List.nil_append, List.cons.injEq, Value.int.injEq, true_and] at h
      obtain ⟨rfl, rfl, rfl, h⟩ := h
      rw [ih h]
/-- A slice that reads records. -/
def Sr (w : World) (v : Value) (rs : List Rc) : Prop :=
  ∃ a c, v = .slice a rs.length c ∧ (a = none → c = 0) ∧ rs.length ≤ c ∧ c ≤ maxLen ∧
    (0 < rs.length → ∃ g o, a = some ⟨g, o, none⟩ ∧ g < w.heap.size ∧ ∀ j u, (cellsR rs)[j]? = some u → w.cell? ⟨g, o + j, none⟩ = some u)
/-- What was there stays. -/
def RowsR (w w' : World) : Prop := w.heap.size ≤ w'.heap.size ∧ ∀ (g : Nat), g < w.heap.size → w'.heap[g]? = w.heap[g]?
theorem RowsR.of_below {w w' : World} (h : Below w.heap.size w w') : RowsR w w' := ⟨h.size, fun g hg => h.block g hg⟩
theorem Sr.keep {w w' : World} {v : Value} {rs : List Rc} (h : Sr w v rs) (hr : RowsR w w') : Sr w' v rs := by
  obtain ⟨a, c, h1, h2, h3, h4, h5⟩ := h
  refine ⟨a, c, h1, h2, h3, h4, fun hl => ?_⟩
  obtain ⟨g, o, e1, e2, e3⟩ := h5 hl
  refine ⟨g, o, e1, Nat.lt_of_lt_of_le e2 hr.1, fun j u hu => ?_⟩
  rw [World.cell?_of_block (w := w) (a := ⟨g, o + j, none⟩) (hr.2 g e2)]
  exact e3 j u hu
theorem Sr.below {w w' : World} {v : Value} {rs : List Rc} (h : Sr w v rs) (hb : Below w.heap.size w w') : Sr w' v rs := h.keep (.of_below hb)
theorem Sr.only {F : Nat → Prop} {w w' : World} {v : Value} {rs : List Rc} (h : Sr w v rs) (ho : Only F w w') (hF : ∀ a n c, v = .slice (some a) n c → ¬ F a.block) : Sr w' v rs := by
  obtain ⟨a, c, h1, h2, h3, h4, h5⟩ := h
  refine ⟨a, c, h1, h2, h3, h4, fun hl => ?_⟩
  obtain ⟨g, o, e1, e2, e3⟩ := h5 hl
  have hg : w'.heap[g]? = w.heap[g]? := ho.block g e2 (by have := hF ⟨g, o, none⟩ rs.length c (by rw [h1, e1]); exact this)
  refine ⟨g, o, e1, Nat.lt_of_lt_of_le e2 ho.size, fun j u hu => ?_⟩
  rw [World.cell?_of_block (w := w) (a := ⟨g, o + j, none⟩) hg]
  exact e3 j u hu
theorem Sr.nil (w : World) : Sr w (.slice none 0 0) [] := ⟨none, 0, rfl, fun _ => rfl, Nat.le_refl _, by decide, fun h => by simp at h⟩
theorem Sr.len {w : World} {v : Value} {rs : List Rc} (h : Sr w v rs) : ∃ a c, v = .slice a rs.length c := by
  obtain ⟨a, c, h1, _⟩ := h; exact ⟨a, c, h1⟩
theorem Sr.at {w : World} {v : Value} {rs : List Rc} (h : Sr w v rs) {k : Nat} {r : Rc} (hk : rs[k]? = some r) :
    ∃ g o c, v = .slice (some ⟨g, o, none⟩) rs.length c ∧ g < w.heap.size ∧ w.cell? ⟨g, o + k * 3, none⟩ = some (.int .i64 r.1) ∧ w.cell? ⟨g, o + k * 3 + 1, none⟩ = some (.int .i64 r.2.1) ∧ w.cell? ⟨g, o + k * 3 + 2, none⟩ = some (.int .i64 r.2.2) := by
  obtain ⟨hk', rfl⟩ := List.getElem?_eq_some_iff.1 hk
  obtain ⟨a, c, h1, h2, h3, h4, h5⟩ := h
  obtain ⟨g, o, rfl, e2, e3⟩ := h5 (by omega)
  refine ⟨g, o, c, h1, e2, ?_, ?_, ?_⟩
  · exact e3 (k * 3) _ (by rw [show k * 3 = k * 3 + 0 by omega, cellsR_get hk' (by omega)]; rfl)
  · have := e3 (k * 3 + 1) _ (by rw [cellsR_get hk' (by omega)]; rfl)
    rwa [← Nat.add_assoc] at this
  · have := e3 (k * 3 + 2) _ (by rw [cellsR_get hk' (by omega)]; rfl)
    rwa [← Nat.add_assoc] at this
theorem Sr.own {w : World} {B n : Nat} {v : Value} {rs : List Rc} (h : w.ownsRow B 32 3 v n (cellsR rs)) : n = rs.length ∧ Sr w v rs := by
  have hn : n = rs.length := by have := h.1; rw [cellsR_len] at this; omega
  subst hn
  refine ⟨rfl, ?_⟩
  rcases h.2 with ⟨rfl, h0⟩ | ⟨g, cap, cur, rfl, hBg, hb, h1, h2, h3, h4⟩
  · exact ⟨none, 0, by rw [h0], fun _ => rfl, by omega, by decide, fun h1 => by omega⟩
  · refine ⟨_, cap, rfl, (fun e => by cases e), by omega, by omega, fun _ => ⟨g, 0, rfl, lt_of_get hb, fun j u hu => ?_⟩⟩
    have hj : j < rs.length * 3 := by rw [← cellsR_len]; exact (List.getElem?_eq_some_iff.1 hu).1
    have h5 : (cur.toList.take (rs.length * 3))[j]? = (cellsR rs)[j]? := by rw [h4]
    rw [List.getElem?_take_of_lt (by omega)] at h5
    rw [cell_of_row w g (0 + j) _ _ _ hb, Nat.zero_add, ← Array.getElem?_toList, h5, hu]
/-- Two slices that read the same cells of the same length read the same. -/
theorem Sr.caps {w : World} {a : Option Addr} {n c : Nat} {rs : List Rc} (h : Sr w (.slice a n c) rs) : n = rs.length ∧ rs.length ≤ c ∧ c ≤ maxLen ∧ (a = none → c = 0) := by
  obtain ⟨a', c', h1, h2, h3, h4, h5⟩ := h
  injection h1 with e1 e2 e3
  subst e1 e3
  exact ⟨e2, h3, h4, h2⟩
/-- A block of one's own that holds records from a place on. -/
def Blk (w : World) (g o S : Nat) (l : List Rc) : Prop :=
  ∃ cur, w.heap[g]? = some (.cells cur 32 (0, 0)) ∧ cur.size = S ∧ o + l.length * 3 ≤ S ∧ ∀ j u, (cellsR l)[j]? = some u → cur[o + j]? = some u
theorem Blk.lt {w : World} {g o S : Nat} {l : List Rc} (h : Blk w g o S l) : g < w.heap.size := by obtain ⟨cur, h1, _⟩ := h; exact lt_of_get h1
theorem Blk.frozen {w : World} {g o S : Nat} {l : List Rc} (h : Blk w g o S l) (p : Nat) : w.frozen? ⟨g, p, none⟩ = false := by obtain ⟨cur, h1, _⟩ := h; exact frozen_of_row w g p _ _ h1
theorem Blk.at {w : World} {g o S : Nat} {l : List Rc} (h : Blk w g o S l) {k : Nat} {r : Rc} (hk : l[k]? = some r) :
    w.cell? ⟨g, o + k * 3, none⟩ = some (.int .i64 r.1) ∧ w.cell? ⟨g, o + k * 3 + 1, none⟩ = some (.int .i64 r.2.1) ∧ w.cell? ⟨g, o + k * 3 + 2, none⟩ = some (.int .i64 r.2.2) := by
  obtain ⟨hk', rfl⟩ := List.getElem?_eq_some_iff.1 hk
  obtain ⟨cur, h1, h2, h3, h4⟩ := h
  refine ⟨?_, ?_, ?_⟩
  · rw [cell_of_row w g _ _ _ _ h1]
    exact h4 (k * 3) _ (by rw [show k * 3 = k * 3 + 0 by omega, cellsR_get hk' (by omega)]; rfl)
  · rw [cell_of_row w g _ _ _ _ h1, Nat.add_assoc]
    exact h4 (k * 3 + 1) _ (by rw [cellsR_get hk' (by omega)]; rfl)
  · rw [cell_of_row w g _ _ _ _ h1, Nat.add_assoc]
    exact h4 (k * 3 + 2) _ (by rw [cellsR_get hk' (by omega)]; rfl)
theorem Blk.keep {w w' : World} {g o S : Nat} {l : List Rc} (h : Blk w g o S l) (hg : w'.heap[g]? = w.heap[g]?) : Blk w' g o S l := by
  obtain ⟨cur, h1, h2⟩ := h
  exact ⟨cur, hg.trans h1, h2⟩
theorem Blk.below {w w' : World} {g o S : Nat} {l : List Rc} (h : Blk w g o S l) (hb : Below w.heap.size w w') : Blk w' g o S l := h.keep (hb.block g h.lt)
/-- A record is stored. -/
def set3 (w : World) (g p : Nat) (r : Rc) : World := ((w.setCell ⟨g, p, none⟩ (.int .i64 r.1)).setCell ⟨g, p + 1, none⟩ (.int .i64 r.2.1)).setCell ⟨g, p + 2, none⟩ (.int .i64 r.2.2)
theorem only_set3 (w : World) (g p : Nat) (r : Rc) : Only (· = g) w (set3 w g p r) := ((Only.setCell w g p _).then (Only.setCell _ g (p + 1) _)).then (Only.setCell _ g (p + 2) _)
theorem heap_set3 {w : World} {g p : Nat} {cur : Array Value} {t : TypeId} (r : Rc) (h : w.heap[g]? = some (.cells cur t (0, 0))) :
    (set3 w g p r).heap[g]? = some (.cells (((cur.setIfInBounds p (.int .i64 r.1)).setIfInBounds (p + 1) (.int .i64 r.2.1)).setIfInBounds (p + 2) (.int .i64 r.2.2)) t (0, 0)) := by
  unfold set3
  have h1 := heap_setCell_same w g p _ _ (.int .i64 r.1) h
  have h2 := heap_setCell_same _ g (p + 1) _ _ (.int .i64 r.2.1) h1
  exact heap_setCell_same _ g (p + 2) _ _ (.int .i64 r.2.2) h2
theorem cells_at {l : List Rc} {j : Nat} {u : Value} (h : (cellsR l)[j]? = some u) : ∃ k i r, j = k * 3 + i ∧ i < 3 ∧ l[k]? = some r ∧ (rcC r)[i]? = some u := by
  have hj : j < l.length * 3 := by rw [← cellsR_len]; exact (List.getElem?_eq_some_iff.1 h).1
  have hk : j / 3 < l.length := by omega
  refine ⟨j / 3, j % 3, l[j / 3], by omega, by omega, List.getElem?_eq_getElem hk, ?_⟩
  rw [← cellsR_get hk (by omega), show j / 3 * 3 + j % 3 = j by omega]
  exact h
theorem at_cells {l : List Rc} {k i : Nat} {r : Rc} {u : Value} (hk : l[k]? = some r) (hi : i < 3) (h : (rcC r)[i]? = some u) : (cellsR l)[k * 3 + i]? = some u := by
  obtain ⟨hk', rfl⟩ := List.getElem?_eq_some_iff.1 hk
  rw [cellsR_get hk' hi]; exact h
theorem Blk.set {w : World} {g o S : Nat} {l : List Rc} (h : Blk w g o S l) {k : Nat} (hk : k < l.length) (r : Rc) : Blk (set3 w g (o + k * 3) r) g o S (l.set k r) := by
  obtain ⟨cur, h1, h2, h3, h4⟩ := h
  refine ⟨_, heap_set3 r h1, by simp [h2], by rw [List.length_set]; exact h3, fun j u hu => ?_⟩
  obtain ⟨q, i, s, rfl, hi, hq, hs⟩ := cells_at hu
  rw [List.getElem?_set] at hq
  have hsz : o + k * 3 + 2 < cur.size := by omega
  simp only [Array.getElem?_setIfInBounds, Array.size_setIfInBounds]
  by_cases e : k = q
  · subst e
    rw [if_pos rfl, if_pos hk] at hq
    injection hq with hq
    subst hq
    obtain rfl | rfl | rfl : i = 0 ∨ i = 1 ∨ i = 2 := by omega
    · rw [if_neg (by omega), if_neg (by omega), if_pos (by omega), if_pos (by omega)]
      exact hs
    · rw [if_neg (by omega), if_pos (by omega), if_pos (by omega)]
      exact hs
    · rw [if_pos (by omega), if_pos (by omega)]
      exact hs
  · rw [if_neg e] at hq
    rw [if_neg (by omega), if_neg (by omega), if_neg (by omega)]
    exact h4 _ u (at_cells hq hi hs)
theorem Blk.swp {w : World} {g o S : Nat} {l : List Rc} (h : Blk w g o S l) {i j : Nat} {x y : Rc} (hi : l[i]? = some x) (hj : l[j]? = some y) :
    Blk (set3 (set3 w g (o + i * 3) y) g (o + j * 3) x) g o S (swp l i j) := by
  obtain ⟨hi', rfl⟩ := List.getElem?_eq_some_iff.1 hi
  obtain ⟨hj', rfl⟩ := List.getElem?_eq_some_iff.1 hj
  have := (h.set hi' l[j]).set (k := j) (by rw [List.length_set]; exact hj') l[i]
  unfold opr.swp
  rw [List.getD_eq_getElem?_getD, List.getD_eq_getElem?_getD, hi, hj]
  exact this
theorem Blk.own {w : World} {B n : Nat} {v : Value} {l : List Rc} (h : w.ownsRow B 32 3 v n (cellsR l)) (h0 : 0 < l.length) :
    ∃ g cap S, v = .slice (some ⟨g, 0, none⟩) l.length cap ∧ l.length ≤ cap ∧ cap ≤ maxLen ∧ B ≤ g ∧ Blk w g 0 S l ∧
      ∀ w' l', l'.length = l.length → Blk w' g 0 S l' → w'.ownsRow B 32 3 v l.length (cellsR l') := by
  have hn : n = l.length := by have := h.1; rw [cellsR_len] at this; omega
  subst hn
  rcases h.2 with ⟨rfl, h1⟩ | ⟨g, cap, cur, rfl, hBg, hb, h1, h2, h3, h4⟩
  · omega
  · refine ⟨g, cap, cur.size, rfl, by omega, by omega, hBg, ⟨cur, hb, rfl, by omega, fun j u hu => ?_⟩, fun w' l' hl hB => ?_⟩
    · have hj : j < l.length * 3 := by rw [← cellsR_len]; exact (List.getElem?_eq_some_iff.1 hu).1
      have h5 : (cur.toList.take (l.length * 3))[j]? = (cellsR l)[j]? := by rw [h4]
      rw [List.getElem?_take_of_lt (by omega)] at h5
      rw [Nat.zero_add, ← Array.getElem?_toList, h5, hu]
    · obtain ⟨cur', k1, k2, k3, k4⟩ := hB
      refine ⟨by rw [cellsR_len, hl], .inr ⟨g, cap, cur', rfl, hBg, k1, h1, h2, k2.trans h3, ?_⟩⟩
      apply List.ext_getElem?
      intro j
      by_cases hj : j < l.length * 3
      · rw [List.getElem?_take_of_lt hj, Array.getElem?_toList]
        have hj2 : j < (cellsR l').length := by rw [cellsR_len, hl]; exact hj
        have := k4 j _ (List.getElem?_eq_getElem hj2)
        rw [Nat.zero_add] at this
        rw [this, List.getElem?_eq_getElem hj2]
      · rw [List.getElem?_eq_none (by rw [List.length_take]; omega), List.getElem?_eq_none (by rw [cellsR_len, hl]; omega)]
theorem infoR : (Try.prog.info? 32).map (fun i => (i.zero.map (·.cells.size), i.size, i.bytes)) = some (some 3, 3, 24) := by kernel_rfl
/-- append of records to a row of one's own. -/
theorem appR_run {W : World} {B n : Nat} {v u : Value} {xs : List Value} {qs : List Rc} (ho : W.ownsRow B 32 3 v n xs) (h : Sr W u qs) (hl : n + qs.length ≤ 1000000) (hB : B ≤ W.heap.size) (ty : TypeId) :
    ∃ v' w', (Builtin.append_ #[22, 22] ty #[v, u]).run Try.prog W = .ok v' w' ∧ w'.ownsRow B 32 3 v' (n + qs.length) (xs ++ cellsR qs) ∧ W.grownBy w' v.ownBlock := by
  obtain ⟨i0, hi, hz0, hz1, hz2⟩ : ∃ i0, Try.prog.info? 32 = some i0 ∧ (∃ z, i0.zero = some z ∧ z.cells.size = 3) ∧ i0.size = 3 ∧ i0.bytes = 24 := by
    have := infoR
    cases hi : Try.prog.info? 32 with
    | none => rw [hi] at this; cases this
    | some i0 =>
      rw [hi] at this
      simp only [Option.map_some, Option.some.injEq, Prod.mk.injEq, Option.map_eq_some_iff] at this
      exact ⟨i0, rfl, this.1, this.2.1, this.2.2⟩
  obtain ⟨z, hz, hz3⟩ := hz0
  obtain ⟨a, c, rfl, h1, h2, h3, h4⟩ := h
  cases a with
  | none =>
    obtain rfl := h1 rfl
    have h0 : qs = [] := by
      cases qs with
      | nil => rfl
      | cons q qs => simp at h2
    subst h0
    refine ⟨v, W, run_append_owned_none W B 22 ty 32 i0 3 Try.underlying22 hi v n _ ho, by simpa [cellsR_nil] using ho, ⟨rfl, rfl, rfl, Nat.le_refl _, fun _ _ _ => rfl⟩⟩
  | some ad =>
    obtain ⟨v', w', e1, e2, e3, _⟩ := run_append_own (P := Try.prog) W B 22 ty 32 i0 z 3 24 Try.underlying22 hi hz hz1 hz2 hz3 (by decide) v n xs ho ad qs.length c (cellsR qs) (cellsR_len qs)
      (fun j u hu => by
        have hj : 0 < qs.length := by
          cases qs with
          | nil => simp [cellsR_nil] at hu
          | cons => simp
        obtain ⟨g, o, h5, h6, h7⟩ := h4 hj
        obtain rfl := Option.some.inj h5
        have hadd : (⟨g, o, none⟩ : Addr).add j = ⟨g, o + j, none⟩ := by unfold Addr.add; split <;> simp_all
        rw [hadd]
        exact h7 j u hu) (cellsR_one qs) (by unfold maxLen; omega) (by omega) hB
    exact ⟨v', w', e1, e2, e3⟩
theorem srR_new (W : World) (x : Rc) : Sr (W.alloc (.cells #[.int .i64 x.1, .int .i64 x.2.1, .int .i64 x.2.2] 32)) (.slice (some ⟨W.heap.size, 0, none⟩) 1 1) [x] := by
  refine ⟨_, 1, rfl, (fun e => by cases e), Nat.le_refl _, by decide, fun _ => ⟨W.heap.size, 0, rfl, by simp, fun j u hu => ?_⟩⟩
  rw [cell_of_row _ _ _ _ _ _ (Go.heap_alloc_new W _), Nat.zero_add]
  simp only [cellsR, List.flatMap_cons, List.flatMap_nil, List.append_nil, rcC] at hu
  simpa using hu
end Go.Proofs.Ytamdbfkofdjmlaa.opr
