/- Nodes in memory. -/
import Derived.Test.YtjmfneljgogohaaDoorJbP
import Derived.Test.YtjmfneljgogohaaDoorExM
import Derived.Test.YtjmfneljgogohaaDoorExQ
import Derived.Test.YtjmfneljgogohaaDoorExUb
import Derived.Test.YtjmfneljgogohaaDoorKdH
import Derived.Deep.LoopGhost
import Derived.Deep.DeepCutAuto
namespace Go.Proofs.YtjmfneljgogohaaDoor.jb
set_option linter.unusedSimpArgs false
set_option linter.unusedVariables false
open Go.RowKit nam exp

/-- A slice of whole numbers. -/
def IRow (w : World) (v : Value) (l : List Int) : Prop :=
  ∃ a c, v = .slice a l.length c ∧ (0 < l.length → ∃ b o, a = some ⟨b, o, none⟩ ∧ b < w.heap.size ∧ ∀ i (h : i < l.length), w.cell? ⟨b, o + i, none⟩ = some (.int .i64 l[i]))
theorem IRow.on {w w' : World} {v : Value} {l : List Int} (h : IRow w v l) (hb : Below w.heap.size w w') : IRow w' v l := by
  obtain ⟨a, c, h1, h2⟩ := h
  refine ⟨a, c, h1, fun hl => ?_⟩
  obtain ⟨b, o, h3, h4, h5⟩ := h2 hl
  exact ⟨b, o, h3, by have := hb.size; omega, fun i hi => (hb.cell (p := ⟨b, o + i, none⟩) h4).trans (h5 i hi)⟩
theorem IRow.none (w : World) : IRow w (.slice none 0 0) [] := ⟨Option.none, 0, rfl, fun h => by simp at h⟩
def nodeV (nd : Nd) (vi va : Value) : Value := .agg #[.string nd.uid, .int .u8 (nd.kind : Int), vi, .int .u8 (nd.x.op : Int), .int .i64 nd.x.n, va, .int .i64 nd.n]
/-- A node as a value. -/
def NodeIs (w : World) (v : Value) (nd : Nd) : Prop := ∃ vi va, v = nodeV nd vi va ∧ IRow w vi nd.ins ∧ Lies w Any va nd.x.args
theorem NodeIs.on {w w' : World} {v : Value} {nd : Nd} (h : NodeIs w v nd) (hb : Below w.heap.size w w') : NodeIs w' v nd := by
  obtain ⟨vi, va, h1, h2, h3⟩ := h
  exact ⟨vi, va, h1, h2.on hb, h3.under hb⟩
/-- A node's seven cells. -/
def NodeAt (w : World) (b o : Nat) (nd : Nd) : Prop := b < w.heap.size ∧ ∃ vi va, w.cell? ⟨b, o, none⟩ = some (.string nd.uid) ∧ w.cell? ⟨b, o + 1, none⟩ = some (.int .u8 (nd.kind : Int)) ∧ w.cell? ⟨b, o + 2, none⟩ = some vi ∧
  w.cell? ⟨b, o + 3, none⟩ = some (.int .u8 (nd.x.op : Int)) ∧ w.cell? ⟨b, o + 4, none⟩ = some (.int .i64 nd.x.n) ∧ w.cell? ⟨b, o + 5, none⟩ = some va ∧ w.cell? ⟨b, o + 6, none⟩ = some (.int .i64 nd.n) ∧ IRow w vi nd.ins ∧ Lies w Any va nd.x.args
theorem NodeAt.on {w w' : World} {b o : Nat} {nd : Nd} (h : NodeAt w b o nd) (hb : Below w.heap.size w w') : NodeAt w' b o nd := by
  obtain ⟨h0, vi, va, h1, h2, h3, h4, h5, h6, h7, h8, h9⟩ := h
  have tc : ∀ {k : Nat} {z : Value}, w.cell? ⟨b, k, none⟩ = some z → w'.cell? ⟨b, k, none⟩ = some z := fun {k z} hz => (hb.cell (p := ⟨b, k, none⟩) h0).trans hz
  exact ⟨by have := hb.size; omega, vi, va, tc h1, tc h2, tc h3, tc h4, tc h5, tc h6, tc h7, h8.on hb, h9.under hb⟩
/-- A slice of nodes. -/
def Nodes (w : World) (v : Value) (l : List Nd) : Prop :=
  ∃ a c, v = .slice a l.length c ∧ l.length ≤ c ∧ (0 < l.length → ∃ b, a = some ⟨b, 0, none⟩ ∧ ∀ i (h : i < l.length), NodeAt w b (i * 7) l[i])
theorem Nodes.on {w w' : World} {v : Value} {l : List Nd} (h : Nodes w v l) (hb : Below w.heap.size w w') : Nodes w' v l := by
  obtain ⟨a, c, h1, h0, h2⟩ := h
  refine ⟨a, c, h1, h0, fun hl => ?_⟩
  obtain ⟨b, h3, h4⟩ := h2 hl
  exact ⟨b, h3, fun i hi => (h4 i hi).on hb⟩
/-- The first ones. -/
theorem Nodes.take {w : World} {a : Option Addr} {n c : Nat} {l : List Nd} (h : Nodes w (.slice a n c) l) {k : Nat} (hk : k ≤ l.length) : Nodes w (.slice a k c) (l.take k) := by
  obtain ⟨a', c', h1, h0, h2⟩ := h
  obtain ⟨rfl, rfl, rfl⟩ : a = a' ∧ n = l.length ∧ c = c' := by simpa using h1
  have hlen : (l.take k).length = k := by rw [List.length_take]; omega
  refine ⟨a, c, by rw [hlen], by omega, fun hl => ?_⟩
  obtain ⟨b, h3, h4⟩ := h2 (by omega)
  exact ⟨b, h3, fun i hi => by
    rw [List.getElem_take]
    exact h4 i (by omega)⟩
/-- What is in the box of a loaded node. -/
theorem box7 {w W : World} {a b c d e f g : Value} {t : TypeId} (hW : w.alloc (.cells #[a, b, c, d, e, f, g] t) = W) : W.cell? ⟨w.heap.size, 0, none⟩ = some a ∧ W.cell? ⟨w.heap.size, 1, none⟩ = some b ∧ W.cell? ⟨w.heap.size, 2, none⟩ = some c ∧
    W.cell? ⟨w.heap.size, 3, none⟩ = some d ∧ W.cell? ⟨w.heap.size, 4, none⟩ = some e ∧ W.cell? ⟨w.heap.size, 5, none⟩ = some f ∧ W.cell? ⟨w.heap.size, 6, none⟩ = some g := by
  subst hW
  have h := heap_last (w := w) (o := .cells #[a, b, c, d, e, f, g] t) rfl
  exact ⟨cell_of h rfl, cell_of h rfl, cell_of h rfl, cell_of h rfl, cell_of h rfl, cell_of h rfl, cell_of h rfl⟩
theorem below_made (w : World) (o : Obj) : Below w.heap.size w (w.alloc o) := (Below.refl _ _).alloc (Nat.le_refl _) _
/-- What kinds ask for: the variable's cells. -/
def Ask.cells (a : Ask) : List Value := [.int .i64 a.few, .int .i64 a.many, .int .u8 (a.ty : Int), .bool a.acc, .int .i64 a.least, .int .i64 a.most, .bool a.keeps]
def askV (a : Ask) : Value := .agg #[.int .i64 a.few, .int .i64 a.many, .int .u8 (a.ty : Int), .bool a.acc, .int .i64 a.least, .int .i64 a.most, .bool a.keeps]
def askCells : List Value := askL.flatMap Ask.cells
/-- The variable stands. -/
def Tab (w : World) : Prop := ∃ t fr, w.heap[0]? = some (.cells askCells.toArray t fr)
theorem Tab.on {w w' : World} (h : Tab w) (hb : Below w.heap.size w w') : Tab w' := by
  obtain ⟨t, fr, h⟩ := h
  exact ⟨t, fr, (hb.block _ (Array.getElem?_eq_some_iff.1 h).1).trans h⟩
theorem Tab.row {w : World} (h : Tab w) {k : Nat} (hk : k < 10) : w.cell? ⟨0, k * 7, none⟩ = some (.int .i64 (askR k).few) ∧ w.cell? ⟨0, k * 7 + 1, none⟩ = some (.int .i64 (askR k).many) ∧ w.cell? ⟨0, k * 7 + 2, none⟩ = some (.int .u8 ((askR k).ty : Int)) ∧
    w.cell? ⟨0, k * 7 + 3, none⟩ = some (.bool (askR k).acc) ∧ w.cell? ⟨0, k * 7 + 4, none⟩ = some (.int .i64 (askR k).least) ∧ w.cell? ⟨0, k * 7 + 5, none⟩ = some (.int .i64 (askR k).most) ∧ w.cell? ⟨0, k * 7 + 6, none⟩ = some (.bool (askR k).keeps) := by
  obtain ⟨t, fr, h⟩ := h
  match k, hk with
  | 0, _ | 1, _ | 2, _ | 3, _ | 4, _ | 5, _ | 6, _ | 7, _ | 8, _ | 9, _ => exact ⟨cell_of h rfl, cell_of h rfl, cell_of h rfl, cell_of h rfl, cell_of h rfl, cell_of h rfl, cell_of h rfl⟩
  | k + 10, hk => exact absurd hk (by omega)
def intV (n : Int) : Value := .int .i64 n
theorem own_below' {W W' : World} {B e size n : Nat} {v : Value} {xs : List Value} (h : W.ownsRow B e size v n xs) (hb : Below W.heap.size W W') : W'.ownsRow B e size v n xs := own_below h hb
end Go.Proofs.YtjmfneljgogohaaDoor.jb
