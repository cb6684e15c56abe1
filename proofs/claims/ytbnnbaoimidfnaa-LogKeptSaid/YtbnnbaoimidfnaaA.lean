/- A log in memory: its cells, the rows of its records, what belongs to it; what leaves it one. -/
import Derived.Test.YtbnnbaoimidfnaaP
import Derived.Test.YtbnnbaoimidfnaaW
import Derived.Test.YtbnnbaoimidfnaaDkO
namespace Go.Proofs.Ytbnnbaoimidfnaa.lg
set_option linter.unusedSimpArgs false
set_option linter.unusedVariables false
open Go.RowKit byt frm dsk

/-- The cells of records, the first of which begins at b. -/
def rowsFrom : Nat → List Fr → List Value
  | _, [] => []
  | b, x :: l => .int .u8 (x.1.1 : Nat) :: .string x.1.2 :: .int .i64 (b : Nat) :: rowsFrom (b + fsz x) l
theorem rowsFrom_length (b : Nat) (l : List Fr) : (rowsFrom b l).length = l.length * 3 := by
  induction l generalizing b with
  | nil => rfl
  | cons x l ih => rw [rowsFrom, List.length_cons, List.length_cons, List.length_cons, ih, List.length_cons]; omega
theorem rowsFrom_snoc (b : Nat) (l : List Fr) (x : Fr) : rowsFrom b (l ++ [x]) = rowsFrom b l ++ [.int .u8 (x.1.1 : Nat), .string x.1.2, .int .i64 ((b + whl l : Nat) : Int)] := by
  induction l generalizing b with
  | nil => rfl
  | cons y l ih =>
    rw [List.cons_append, rowsFrom, rowsFrom, ih, whl]
    simp only [List.cons_append]
    rw [show b + fsz y + whl l = b + (fsz y + whl l) from by omega]
theorem rowsFrom_get (b : Nat) (l : List Fr) (k : Nat) (x : Fr) (h : l[k]? = some x) : (rowsFrom b l)[k * 3]? = some (.int .u8 (x.1.1 : Nat)) ∧ (rowsFrom b l)[k * 3 + 1]? = some (.string x.1.2) ∧ (rowsFrom b l)[k * 3 + 2]? = some (.int .i64 ((b + whl (l.take k) : Nat) : Int)) := by
  induction l generalizing b k with
  | nil => simp at h
  | cons y l ih =>
    cases k with
    | zero =>
      simp at h; subst h
      exact ⟨rfl, rfl, rfl⟩
    | succ k =>
      have := ih (b + fsz y) k (by simpa using h)
      rw [rowsFrom, show (k + 1) * 3 = k * 3 + 1 + 1 + 1 from by omega, List.take_succ_cons, whl, show b + (fsz y + whl (l.take k)) = b + fsz y + whl (l.take k) from by omega]
      simpa using this
theorem rowsFrom_take (b : Nat) (l : List Fr) (k : Nat) : (rowsFrom b l).take (k * 3) = rowsFrom b (l.take k) := by
  induction l generalizing b k with
  | nil => simp [rowsFrom]
  | cons y l ih =>
    cases k with
    | zero => rfl
    | succ k =>
      rw [rowsFrom, show (k + 1) * 3 = k * 3 + 1 + 1 + 1 from by omega, List.take_succ_cons, List.take_succ_cons, List.take_succ_cons, ih, List.take_succ_cons, rowsFrom]

/-- A log's cells. -/
def cellsL (d : Nat) (y : Lg) (v : Value) : Nat → Value := fun j =>
  if j = 0 then ptr d 0 else if j = 1 then .int .i64 (y.file : Nat) else if j = 2 then .int .i64 (whl y.recs : Nat) else if j = 3 then v else if j = 4 then .int .i64 (y.sure : Nat) else .bool y.loose
structure LogAt (w : World) (l d : Nat) (y : Lg) (v : Value) : Prop where
  row : w.rowIs l 54 6 (cellsL d y v)
  recs : Row w 62 3 v y.recs.length (rowsFrom 0 y.recs)
section
variable {w w' w1 w2 : World} {l d : Nat} {x x' : D} {y y' : Lg} {v v' : Value} {F G H : Nat → Prop}
theorem LogAt.cell0 (h : LogAt w l d y v) : w.cell? ⟨l, 0, none⟩ = some (ptr d 0) := h.row.cell (i := 0) (by omega)
theorem LogAt.cell1 (h : LogAt w l d y v) : w.cell? ⟨l, 1, none⟩ = some (.int .i64 (y.file : Nat)) := h.row.cell (i := 1) (by omega)
theorem LogAt.cell2 (h : LogAt w l d y v) : w.cell? ⟨l, 2, none⟩ = some (.int .i64 (whl y.recs : Nat)) := h.row.cell (i := 2) (by omega)
theorem LogAt.cell3 (h : LogAt w l d y v) : w.cell? ⟨l, 3, none⟩ = some v := h.row.cell (i := 3) (by omega)
theorem LogAt.cell4 (h : LogAt w l d y v) : w.cell? ⟨l, 4, none⟩ = some (.int .i64 (y.sure : Nat)) := h.row.cell (i := 4) (by omega)
theorem LogAt.cell5 (h : LogAt w l d y v) : w.cell? ⟨l, 5, none⟩ = some (.bool y.loose) := h.row.cell (i := 5) (by omega)
theorem LogAt.lt (h : LogAt w l d y v) : l < w.heap.size := h.row.lt
theorem LogAt.ne (h : LogAt w l d y v) : v.ownBlock ≠ some l := fun e => by
  obtain ⟨cur, hc⟩ := h.recs.kind e
  obtain ⟨c, hl, _⟩ := h.row
  exact absurd rfl (kind_ne hc hl (by decide))
theorem LogAt.frame (h : LogAt w l d y v) (hl : w'.heap[l]? = w.heap[l]?) (hv : ∀ g, v.ownBlock = some g → w'.heap[g]? = w.heap[g]?) : LogAt w' l d y v := ⟨h.row.of_block hl, h.recs.frame hv⟩
theorem LogAt.only (h : LogAt w l d y v) (ho : Only F w w') (hl : ¬ F l) (hv : ∀ g, v.ownBlock = some g → ¬ F g) : LogAt w' l d y v :=
  h.frame (ho.block l h.lt hl) fun g hg => ho.block g (h.recs.lt hg) (hv g hg)
theorem LogAt.below (h : LogAt w l d y v) (hb : Below w.heap.size w w') : LogAt w' l d y v := h.frame (hb.block l h.lt) fun g hg => hb.block g (h.recs.lt hg)
/-- A field but the records is written. -/
theorem LogAt.set (h : LogAt w l d y v) (i : Nat) (u : Value) (e : ∀ j, j < 6 → (if j = i then u else cellsL d y v j) = cellsL d y' v j) (hr : y'.recs = y.recs) : LogAt (w.setCell ⟨l, i, none⟩ u) l d y' v :=
  ⟨(h.row.set i u).congr e, by rw [hr]; exact h.recs.frame fun g hg => heap_setCell_other w _ g u fun e => h.ne (by rw [hg]; exact congrArg some e)⟩

/-- What belongs to a log: its disk's blocks, its own, its records'. -/
structure Parts (w : World) (G F : Nat → Prop) (l d : Nat) (x : D) (y : Lg) (v : Value) : Prop where
  disk : IsDisk w F d x
  log : LogAt w l d y v
  fl : ¬ F l
  fv : ∀ g, v.ownBlock = some g → ¬ F g
  fG : ∀ k, F k → G k
  gl : G l
  gv : ∀ g, v.ownBlock = some g → G g
  lt : ∀ k, G k → k < w.heap.size
def IsLog (w : World) (G : Nat → Prop) (l d : Nat) (x : D) (y : Lg) : Prop := ∃ F v, Parts w G F l d x y v ∧ y.Ok x
/-- What a call leaves. -/
structure PostL (G : Nat → Prop) (l d : Nat) (x' : D) (y' : Lg) (w w' : World) : Prop where
  log : IsLog w' (Grow G w w') l d x' y'
  only : Only G w w'
theorem Post.refl (h : IsDisk w F d x) : Post F d x w w := ⟨h.mono (fun k hk => .inl hk) fun k hk => hk.elim h.lt fun h => h.2, Only.refl _ _⟩
theorem Parts.step (h : Parts w G F l d x y v) (p : Post F d x' w w1) (q : Only (fun k => k = l ∨ v.ownBlock = some k) w1 w2) (hat : LogAt w2 l d y' v')
    (hv : ∀ g, v'.ownBlock = some g → (v.ownBlock = some g ∨ w1.heap.size ≤ g) ∧ g < w2.heap.size) : Parts w2 (Grow G w w2) (Grow F w w1) l d x' y' v' ∧ Only G w w2 := by
  have h1 := p.only.size
  have h2 := q.size
  have hl := h.log.lt
  refine ⟨⟨p.disk.other q fun k hk hq => ?_, hat, ?_, fun g hg => ?_, fun k hk => ?_, .inl h.gl, fun g hg => ?_, fun k hk => ?_⟩, (p.only.mono h.fG).trans q fun k hk _ => ?_⟩
  · rcases hk with hk | ⟨hk, hk'⟩
    · rcases hq with rfl | hq
      · exact h.fl hk
      · exact h.fv k hq hk
    · rcases hq with rfl | hq
      · omega
      · have := h.log.recs.lt hq; omega
  · rintro (hk | ⟨hk, _⟩)
    · exact h.fl hk
    · omega
  · rintro (hk | ⟨hk, hk'⟩)
    · rcases (hv g hg).1 with hq | hq
      · exact h.fv g hq hk
      · have := h.disk.lt hk; omega
    · rcases (hv g hg).1 with hq | hq
      · have := h.log.recs.lt hq; omega
      · omega
  · rcases hk with hk | ⟨hk, hk'⟩
    · exact .inl (h.fG k hk)
    · exact .inr ⟨hk, by omega⟩
  · rcases (hv g hg).1 with hq | hq
    · exact .inl (h.gv g hq)
    · exact .inr ⟨by omega, (hv g hg).2⟩
  · rcases hk with hk | ⟨_, hk⟩
    · have := h.lt k hk; omega
    · exact hk
  · rcases hk with rfl | hk
    · exact h.gl
    · exact h.gv k hk
theorem IsLog.mono (h : IsLog w G l d x y) (hG : ∀ k, G k → H k) (hl : ∀ k, H k → k < w.heap.size) : IsLog w H l d x y := by
  obtain ⟨F, v, hp, hok⟩ := h
  exact ⟨F, v, ⟨hp.disk, hp.log, hp.fl, hp.fv, fun k hk => hG k (hp.fG k hk), hG l hp.gl, fun g hg => hG g (hp.gv g hg), hl⟩, hok⟩
theorem IsLog.lt (h : IsLog w G l d x y) {k : Nat} (hk : G k) : k < w.heap.size := by
  obtain ⟨F, v, hp, hok⟩ := h; exact hp.lt k hk
theorem IsLog.frame (h : IsLog w G l d x y) (hf : ∀ k, G k → w'.heap[k]? = w.heap[k]?) (hs : w.heap.size ≤ w'.heap.size) : IsLog w' G l d x y := by
  obtain ⟨F, v, hp, hok⟩ := h
  exact ⟨F, v, ⟨hp.disk.frame (fun k hk => hf k (hp.fG k hk)) hs, hp.log.frame (hf l hp.gl) fun g hg => hf g (hp.gv g hg), hp.fl, hp.fv, hp.fG, hp.gl, hp.gv, fun k hk => Nat.lt_of_lt_of_le (hp.lt k hk) hs⟩, hok⟩
theorem IsLog.below (h : IsLog w G l d x y) (hb : Below w.heap.size w w') : IsLog w' G l d x y := h.frame (fun k hk => hb.block k (h.lt hk)) hb.size
theorem IsLog.other (h : IsLog w G l d x y) (ho : Only H w w') (hn : ∀ k, G k → ¬ H k) : IsLog w' G l d x y := h.frame (fun k hk => ho.block k (h.lt hk) (hn k hk)) ho.size
theorem IsLog.ok (h : IsLog w G l d x y) : y.Ok x := by obtain ⟨F, v, hp, hok⟩ := h; exact hok
theorem IsLog.xok (h : IsLog w G l d x y) : x.Ok := by obtain ⟨F, v, hp, hok⟩ := h; exact hp.disk.ok
theorem PostL.of_step (h : Parts w2 (Grow G w w2) F l d x' y' v' ∧ Only G w w2) (hok : y'.Ok x') : PostL G l d x' y' w w2 := ⟨⟨F, v', h.1, hok⟩, h.2⟩
theorem PostL.refl (h : IsLog w G l d x y) : PostL G l d x y w w := ⟨h.mono (fun k hk => .inl hk) fun k hk => hk.elim h.lt fun h => h.2, Only.refl _ _⟩
theorem PostL.then (p : PostL G l d x y w w1) (q : PostL (Grow G w w1) l d x' y' w1 w2) : PostL G l d x' y' w w2 := by
  have h1 := p.only.size
  have h2 := q.only.size
  refine ⟨q.log.mono (fun k hk => ?_) fun k hk => ?_, p.only.trans q.only fun k hk hlt => ?_⟩
  · rcases hk with (hk | ⟨hk, hk'⟩) | ⟨hk, hk'⟩
    · exact .inl hk
    · exact .inr ⟨hk, by omega⟩
    · exact .inr ⟨by omega, hk'⟩
  · rcases hk with hk | ⟨_, hk⟩
    · exact q.log.lt (.inl (.inl hk))
    · exact hk
  · rcases hk with hk | ⟨hk, _⟩
    · exact hk
    · omega
end

/-- d's log was made behind w0; of what lay below B nothing has turned. -/
def LogHere (B : Nat) (w0 : World) (l d : Nat) (x : D) (y : Lg) (w : World) : Prop := ∃ G, IsLog w G l d x y ∧ (∀ k, G k → B ≤ k) ∧ Below B w0 w ∧ B ≤ w0.heap.size
section
variable {B l d : Nat} {w0 w w' : World} {x x' : D} {y y' : Lg} {G : Nat → Prop}
theorem LogHere.post (hG : ∀ k, G k → B ≤ k) (hb : Below B w0 w) (hB : B ≤ w0.heap.size) (p : PostL G l d x' y' w w') : LogHere B w0 l d x' y' w' := by
  have hsz := hb.size
  refine ⟨_, p.log, fun k hk => ?_, hb.trans (p.only.below (by omega) hG), hB⟩
  rcases hk with h | ⟨h, _⟩
  · exact hG k h
  · omega
theorem LogHere.on (h : LogHere B w0 l d x y w) (hb : Below w.heap.size w w') : LogHere B w0 l d x y w' := by
  obtain ⟨G, hx, hG, hb0, hB⟩ := h
  have := hb0.size
  exact ⟨G, hx.below hb, hG, hb0.trans (hb.mono (by omega)), hB⟩
theorem LogHere.below (h : LogHere B w0 l d x y w) : Below B w0 w := by
  obtain ⟨G, hx, hG, hb0, hB⟩ := h; exact hb0
theorem LogHere.ok (h : LogHere B w0 l d x y w) : y.Ok x := by
  obtain ⟨G, hx, _⟩ := h; exact hx.ok
theorem LogHere.xok (h : LogHere B w0 l d x y w) : x.Ok := by
  obtain ⟨G, hx, _⟩ := h; exact hx.xok
/-- The disk alone. -/
theorem LogHere.disk (h : LogHere B w0 l d x y w) : Here B w0 d x w := by
  obtain ⟨G, ⟨F, v, hp, _⟩, hG, hb0, hB⟩ := h
  exact ⟨F, hp.disk, fun k hk => hG k (hp.fG k hk), hb0, hB⟩
end
end Go.Proofs.Ytbnnbaoimidfnaa.lg
