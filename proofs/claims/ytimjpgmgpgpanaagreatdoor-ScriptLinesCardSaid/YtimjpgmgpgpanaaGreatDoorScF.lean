/- The reader in memory. -/
import Derived.Test.YtimjpgmgpgpanaaGreatDoorScD
namespace Go.Proofs.YtimjpgmgpgpanaaGreatDoor.sc
set_option linter.unusedSimpArgs false
set_option linter.unusedVariables false
open Go.RowKit nam exp jb

/-- A node, the slice of what it reads, the slice of its X. -/
abbrev NRow := Nd × Value × Value
def rowCells (c : NRow) : List Value := [.string c.1.uid, .int .u8 (c.1.kind : Int), c.2.1, .int .u8 (c.1.x.op : Int), .int .i64 c.1.x.n, c.2.2, .int .i64 c.1.n]
def flatR (l : List NRow) : List Value := l.flatMap rowCells
theorem flatR_len (l : List NRow) : (flatR l).length = l.length * 7 := by
  induction l with
  | nil => rfl
  | cons c l ih =>
    have e : flatR (c :: l) = rowCells c ++ flatR l := rfl
    have e7 : (rowCells c).length = 7 := rfl
    rw [e, List.length_append, e7, ih, List.length_cons]; omega
theorem flatR_snoc (l : List NRow) (c : NRow) : flatR (l ++ [c]) = flatR l ++ rowCells c := by simp [flatR]
theorem flatR_get : ∀ (l : List NRow) (i j : Nat) (h : i < l.length), j < 7 → (flatR l)[i * 7 + j]? = (rowCells l[i])[j]?
  | [], i, j, h, hj => by simp at h
  | c :: l, 0, j, h, hj => by
    have e : flatR (c :: l) = rowCells c ++ flatR l := rfl
    have e7 : (rowCells c).length = 7 := rfl
    rw [e, List.getElem?_append_left (by omega)]
    simp
  | c :: l, i + 1, j, h, hj => by
    have e : flatR (c :: l) = rowCells c ++ flatR l := rfl
    have e7 : (rowCells c).length = 7 := rfl
    rw [e, List.getElem?_append_right (by omega), show (i + 1) * 7 + j - (rowCells c).length = i * 7 + j by omega, flatR_get l i j (by simpa using h) hj]
    rfl
def RowOk (w : World) (vs : Value) (c : NRow) : Prop :=
  lg.Row w 3 1 c.2.1 c.1.ins.length (c.1.ins.map intV) ∧ (∀ g, c.2.1.ownBlock = some g → vs.ownBlock ≠ some g) ∧ Lies w Any c.2.2 c.1.x.args
/-- The reader: its block, the nodes' row, the row of lines' numbers; all from block B on. -/
def IsRdr (w : World) (B rb : Nat) (vn vs : Value) (rows : List NRow) (r : Rdr) : Prop :=
  w.heap[rb]? = some (.cells #[.int .i64 r.par, vn, vs] 40 (0, 0)) ∧ B ≤ rb ∧
    lg.Row w 50 7 vn rows.length (flatR rows) ∧ rows.map (·.1) = r.nodes ∧ (∀ c ∈ rows, RowOk w vs c) ∧
    lg.Row w 3 1 vs r.said.length (r.said.map intV) ∧ (∀ g, vs.ownBlock = some g → B ≤ g) ∧ (∀ g, vn.ownBlock = some g → B ≤ g)
/-- What the reader does not write. -/
def Kept (w w' : World) : Prop := w.heap.size ≤ w'.heap.size ∧ ∀ (b : Nat) (c : Array Value) (t : TypeId) (fr : Nat × Nat), w.heap[b]? = some (Obj.cells c t fr) → t ≠ 40 → t ≠ 50 → w'.heap[b]? = some (Obj.cells c t fr)
theorem Kept.refl (w : World) : Kept w w := ⟨Nat.le_refl _, fun _ _ _ _ h _ _ => h⟩
theorem Kept.of_below {w w' : World} (h : Below w.heap.size w w') : Kept w w' := ⟨h.size, fun b c t fr hb _ _ => (h.block b (Array.getElem?_eq_some_iff.1 hb).1).trans hb⟩
theorem Kept.trans {w w1 w2 : World} (h : Kept w w1) (h2 : Kept w1 w2) : Kept w w2 := ⟨Nat.le_trans h.1 h2.1, fun b c t fr hb h3 h4 => h2.2 b c t fr (h.2 b c t fr hb h3 h4) h3 h4⟩
theorem Kept.row {w w' : World} (h : Kept w w') {e : TypeId} {size n : Nat} {v : Value} {xs : List Value} (hr : lg.Row w e size v n xs) (h1 : e ≠ 40) (h2 : e ≠ 50) : lg.Row w' e size v n xs :=
  hr.frame fun g hg => by
    obtain ⟨cur, hc⟩ := hr.kind hg
    rw [hc]; exact h.2 g _ _ _ hc h1 h2
theorem Kept.own {w w' : World} (h : Kept w w') {B : Nat} {e : TypeId} {size n : Nat} {v : Value} {xs : List Value} (hr : w.ownsRow B e size v n xs) (h1 : e ≠ 40) (h2 : e ≠ 50) : w'.ownsRow B e size v n xs := by
  obtain ⟨k1, k2 | ⟨g, cap, cur, a0, a1, a2, a3⟩⟩ := hr
  · exact ⟨k1, .inl k2⟩
  · exact ⟨k1, .inr ⟨g, cap, cur, a0, a1, h.2 g _ _ _ a2 h1 h2, a3⟩⟩
theorem Kept.lies {w w' : World} (h : Kept w w') {B : Nat → Prop} {v : Value} {l : List Ex} (hl : Lies w B v l) : Lies w' B v l :=
  hl.frame fun b c _ hb => by rw [hb]; exact h.2 b _ _ _ hb (by decide) (by decide)
theorem RowOk.kept {w w' : World} {vs : Value} {c : NRow} (h : RowOk w vs c) (hk : Kept w w') : RowOk w' vs c := ⟨hk.row h.1 (by decide) (by decide), h.2.1, hk.lies h.2.2⟩
/-- A row of whole numbers is a slice of them. -/
theorem irow_of {w : World} {v : Value} {l : List Int} (h : lg.Row w 3 1 v l.length (l.map intV)) : IRow w v l := by
  rcases h.2 with ⟨rfl, h0⟩ | ⟨g, cap, cur, rfl, hg, h1, h2, h3, h4⟩
  · exact ⟨none, 0, by rw [h0], fun h => by omega⟩
  · refine ⟨_, cap, rfl, fun _ => ⟨g, 0, rfl, (Array.getElem?_eq_some_iff.1 hg).1, fun i hi => ?_⟩⟩
    rw [Nat.zero_add]
    exact h.cellAt (by rw [List.getElem?_map, List.getElem?_eq_getElem hi]; rfl)
theorem own_cellAt' {w : World} {B e size g cap n : Nat} {xs : List Value} (h : w.ownsRow B e size (.slice (some ⟨g, 0, none⟩) n cap) n xs) {j : Nat} {u : Value} (hu : xs[j]? = some u) : w.cell? ⟨g, j, none⟩ = some u := (lg.Row.own h).cellAt hu
section
variable {w w' : World} {B rb : Nat} {vn vs : Value} {rows : List NRow} {r : Rdr}
theorem IsRdr.rlt (h : IsRdr w B rb vn vs rows r) : rb < w.heap.size := (Array.getElem?_eq_some_iff.1 h.1).1
theorem IsRdr.cells (h : IsRdr w B rb vn vs rows r) : w.cell? ⟨rb, 0, none⟩ = some (.int .i64 r.par) ∧ w.cell? ⟨rb, 1, none⟩ = some vn ∧ w.cell? ⟨rb, 2, none⟩ = some vs ∧ (∀ j, w.frozen? ⟨rb, j, none⟩ = false) :=
  ⟨cell_of h.1 rfl, cell_of h.1 rfl, cell_of h.1 rfl, fun j => by simp [World.frozen?, h.1]⟩
theorem IsRdr.len (h : IsRdr w B rb vn vs rows r) : rows.length = r.nodes.length := by rw [← h.2.2.2.1, List.length_map]
theorem IsRdr.nodes (h : IsRdr w B rb vn vs rows r) : Nodes w vn r.nodes := by
  have hlen := h.len
  obtain ⟨_, _, hown, hmap, hok, _, _, _⟩ := h
  have hget : ∀ i (hi : i < r.nodes.length), ∃ c ∈ rows, c.1 = r.nodes[i] ∧ rows[i]? = some c := fun i hi => by
    have hi2 : i < rows.length := by omega
    refine ⟨rows[i], List.getElem_mem hi2, ?_, List.getElem?_eq_getElem hi2⟩
    have : (rows.map (·.1))[i]? = r.nodes[i]? := by rw [hmap]
    rw [List.getElem?_map, List.getElem?_eq_getElem hi2, List.getElem?_eq_getElem hi] at this
    exact Option.some.inj this
  rcases hown.2 with ⟨rfl, h0⟩ | ⟨g, cap, cur, rfl, hg, h1, h2, h3, h4⟩
  · exact ⟨none, 0, by rw [← hlen, h0], by omega, fun h => by omega⟩
  · refine ⟨_, cap, by rw [← hlen], by omega, fun _ => ⟨g, rfl, fun i hi => ?_⟩⟩
    obtain ⟨c, hc, e, hci⟩ := hget i hi
    obtain ⟨k1, k2, k3⟩ := hok c hc
    have hi2 : i < rows.length := by omega
    have hci2 : rows[i] = c := by rw [List.getElem?_eq_getElem hi2] at hci; exact Option.some.inj hci
    have hcell : ∀ j u, j < 7 → (rowCells c)[j]? = some u → w.cell? ⟨g, i * 7 + j, none⟩ = some u := fun j u hj hu => hown.cellAt (by rw [flatR_get rows i j hi2 hj, hci2]; exact hu)
    rw [← e]
    exact ⟨(Array.getElem?_eq_some_iff.1 hg).1, c.2.1, c.2.2, hcell 0 _ (by omega) rfl, hcell 1 _ (by omega) rfl, hcell 2 _ (by omega) rfl, hcell 3 _ (by omega) rfl, hcell 4 _ (by omega) rfl, hcell 5 _ (by omega) rfl, hcell 6 _ (by omega) rfl, irow_of k1, k3⟩
theorem own_ty {w : World} {B e size n : Nat} {v : Value} {xs : List Value} (h : w.ownsRow B e size v n xs) {b : Nat} {c : Array Value} {t : TypeId} {fr : Nat × Nat} (hb : w.heap[b]? = some (.cells c t fr)) (hne : t ≠ e) : v.ownBlock ≠ some b := by
  intro e1
  rcases h.2 with ⟨rfl, _⟩ | ⟨g, cap, cur, rfl, _, hg, _⟩
  · simp [Value.ownBlock] at e1
  · simp [Value.ownBlock] at e1
    subst e1
    rw [hb] at hg
    simp only [Option.some.injEq, Obj.cells.injEq] at hg
    exact hne hg.2.1
theorem row_ty {w : World} {e size n : Nat} {v : Value} {xs : List Value} (h : lg.Row w e size v n xs) {b : Nat} {c : Array Value} {t : TypeId} {fr : Nat × Nat} (hb : w.heap[b]? = some (.cells c t fr)) (hne : t ≠ e) : v.ownBlock ≠ some b := by
  intro e1
  obtain ⟨cur, hc⟩ := h.kind e1
  rw [hb] at hc
  simp only [Option.some.injEq, Obj.cells.injEq] at hc
  exact hne hc.2.1
theorem IsRdr.under (h : IsRdr w B rb vn vs rows r) (hb : Below w.heap.size w w') : IsRdr w' B rb vn vs rows r := by
  obtain ⟨h1, h2, h3, h4, h5, h6, h7, h8⟩ := h
  have hk := Kept.of_below hb
  exact ⟨(hb.block rb (Array.getElem?_eq_some_iff.1 h1).1).trans h1, h2, h3.below hb, h4, fun c hc => (h5 c hc).kept hk, hk.row h6 (by decide) (by decide), h7, h8⟩
theorem Kept.setCell {b j : Nat} {z : Value} {c : Array Value} {t : TypeId} {fr : Nat × Nat} (hb : w.heap[b]? = some (.cells c t fr)) (ht : t = 40 ∨ t = 50) : Kept w (w.setCell ⟨b, j, none⟩ z) := by
  refine ⟨by simp, fun b' c' t' fr' h h1 h2 => ?_⟩
  have hne : b' ≠ b := by
    intro e
    subst e
    rw [hb] at h
    simp only [Option.some.injEq, Obj.cells.injEq] at h
    rcases ht with rfl | rfl
    · exact h1 h.2.1.symm
    · exact h2 h.2.1.symm
  rw [Below.heap_setCell _ _ _ _ hne]
  exact h
theorem Kept.grown {o : Obj} {w5 : World} {e size n : Nat} {v : Value} {xs : List Value} (hr : lg.Row w e size v n xs) (he : e = 40 ∨ e = 50) (hg : (w.alloc o).grownBy w5 v.ownBlock) : Kept w w5 := by
  refine ⟨by have := hg.size; rw [World.size_alloc] at this; omega, fun b c t fr h h1 h2 => ?_⟩
  have hlt := (Array.getElem?_eq_some_iff.1 h).1
  have hne : v.ownBlock ≠ some b := row_ty hr h (by
    rcases he with rfl | rfl
    · exact h1
    · exact h2)
  rw [hg.block b (by rw [World.size_alloc]; omega) (fun e => hne e.symm), Below.heap_alloc _ _ _ hlt]
  exact h
/-- A node is put behind the others. -/
theorem IsRdr.push {o : Obj} {w5 : World} {g cap : Nat} {c : NRow} (h : IsRdr w B rb vn vs rows r) (hc : RowOk w vs c) (hg : (w.drew.alloc o).grownBy w5 vn.ownBlock)
    (hown : lg.Row w5 50 7 (.slice (some ⟨g, 0, none⟩) (rows.length + 1) cap) (rows.length + 1) (flatR rows ++ rowCells c)) (hat : vn.ownBlock = some g ∨ g = (w.drew.alloc o).heap.size) :
    IsRdr (w5.setCell ⟨rb, 1, none⟩ (.slice (some ⟨g, 0, none⟩) (rows.length + 1) cap)) B rb (.slice (some ⟨g, 0, none⟩) (rows.length + 1) cap) vs (rows ++ [c]) ⟨r.par, r.nodes ++ [c.1], r.said⟩ ∧
      Below B w (w5.setCell ⟨rb, 1, none⟩ (.slice (some ⟨g, 0, none⟩) (rows.length + 1) cap)) ∧ Kept w (w5.setCell ⟨rb, 1, none⟩ (.slice (some ⟨g, 0, none⟩) (rows.length + 1) cap)) := by
  obtain ⟨h1, h2, h3, h4, h5, h6, h7, h8⟩ := h
  have hrb := (Array.getElem?_eq_some_iff.1 h1).1
  have hgr : (w.alloc o).grownBy w5 vn.ownBlock := ⟨hg.os, hg.tape, hg.output, hg.size, hg.block⟩
  have hk1 : Kept w w5 := Kept.grown h3 (.inr rfl) hgr
  have hne : vn.ownBlock ≠ some rb := row_ty h3 h1 (by decide)
  have hrb5 : w5.heap[rb]? = some (.cells #[.int .i64 r.par, vn, vs] 40 (0, 0)) := by
    rw [hgr.block rb (by rw [World.size_alloc]; omega) (fun e => hne e.symm), Below.heap_alloc _ _ _ hrb]
    exact h1
  have hk2 : Kept w5 (w5.setCell ⟨rb, 1, none⟩ (.slice (some ⟨g, 0, none⟩) (rows.length + 1) cap)) := Kept.setCell hrb5 (.inl rfl)
  have hgb : B ≤ g := by
    rcases hat with h | h
    · exact h8 g h
    · rw [h, World.size_alloc]
      have : w.drew.heap.size = w.heap.size := rfl
      omega
  have hgne : g ≠ rb := by
    intro e
    subst e
    exact row_ty hown hrb5 (by decide) rfl
  have hB5 : Below B w w5 := by
    have hb : Below B w (w.alloc o) := ((Below.refl w.heap.size w).alloc (Nat.le_refl _) o).mono (by omega)
    exact hb.grown hgr (by rw [World.size_alloc]; omega) (fun j hj => h8 j hj)
  refine ⟨⟨setCell_heap hrb5, h2, ?_, by rw [List.map_append, h4]; rfl, fun d hd => ?_, (hk1.trans hk2).row h6 (by decide) (by decide), h7, fun g' hg' => ?_⟩, hB5.setCell (p := ⟨rb, 1, none⟩) h2 _, hk1.trans hk2⟩
  · rw [flatR_snoc, List.length_append]
    exact hown.frame fun g' hg' => by
      simp only [Value.ownBlock, Option.some.injEq] at hg'
      subst hg'
      exact Below.heap_setCell _ _ _ _ hgne
  · rcases List.mem_append.1 hd with hd | hd
    · exact (h5 d hd).kept (hk1.trans hk2)
    · rw [List.mem_singleton.1 hd]
      exact hc.kept (hk1.trans hk2)
  · simp only [Value.ownBlock, Option.some.injEq] at hg'
    omega
end
end Go.Proofs.YtimjpgmgpgpanaaGreatDoor.sc
