/- The node that words tell. -/
import Derived.Test.YtimjpgmgpgpanaaGreatDoorScC
namespace Go.Proofs.YtimjpgmgpgpanaaGreatDoor.sc
set_option linter.unusedSimpArgs false
set_option linter.unusedVariables false
open Go.RowKit nam exp jb

def ndCells (uid : ByteArray) (k : Nat) (vi : Value) (n : Int) : Array Value := #[.string uid, .int .u8 (k : Int), vi, .int .u8 0, .int .i64 0, .slice none 0 0, .int .i64 n]
/-- The node under way. -/
def ToldAt (w wr : World) (N : Nat) (uid : ByteArray) (k : Nat) (n : Int) (vi : Value) (done : List Int) : Prop :=
  wr.heap[N]? = some (.cells (ndCells uid k vi n) 50 (0, 0)) ∧ wr.ownsRow w.heap.size 3 1 vi done.length (done.map intV) ∧ Below w.heap.size w wr ∧ w.heap.size ≤ N
section
variable {w wr w1 w2 : World} {N k : Nat} {uid : ByteArray} {n : Int} {vi v' : Value} {done : List Int}
theorem ToldAt.cells (h : ToldAt w wr N uid k n vi done) : wr.cell? ⟨N, 0, none⟩ = some (.string uid) ∧ wr.cell? ⟨N, 1, none⟩ = some (.int .u8 (k : Int)) ∧ wr.cell? ⟨N, 2, none⟩ = some vi ∧ wr.cell? ⟨N, 3, none⟩ = some (.int .u8 0) ∧
    wr.cell? ⟨N, 4, none⟩ = some (.int .i64 0) ∧ wr.cell? ⟨N, 5, none⟩ = some (.slice none 0 0) ∧ wr.cell? ⟨N, 6, none⟩ = some (.int .i64 n) ∧ (∀ j, wr.frozen? ⟨N, j, none⟩ = false) :=
  ⟨cell_of h.1 rfl, cell_of h.1 rfl, cell_of h.1 rfl, cell_of h.1 rfl, cell_of h.1 rfl, cell_of h.1 rfl, cell_of h.1 rfl, fun j => by simp [World.frozen?, h.1]⟩
theorem ToldAt.under (h : ToldAt w wr N uid k n vi done) (hb : Below wr.heap.size wr w1) : ToldAt w w1 N uid k n vi done :=
  ⟨(hb.block N (Array.getElem?_eq_some_iff.1 h.1).1).trans h.1, own_below' h.2.1 hb, h.2.2.1.trans (hb.mono h.2.2.1.size), h.2.2.2⟩
theorem own_setCell {W : World} {B e size m b j : Nat} {v z : Value} {xs : List Value} (h : W.ownsRow B e size v m xs) (hne : v.ownBlock ≠ some b) : (W.setCell ⟨b, j, none⟩ z).ownsRow B e size v m xs := by
  obtain ⟨h1, h2 | ⟨g, cap, cur, rfl, a1, a2, a3⟩⟩ := h
  · exact ⟨h1, .inl h2⟩
  · refine ⟨h1, .inr ⟨g, cap, cur, rfl, a1, ?_, a3⟩⟩
    have hgb : g ≠ b := fun e => hne (by simp [Value.ownBlock, e])
    rw [Below.heap_setCell _ _ _ _ hgb]
    exact a2
theorem setCell_heap {W : World} {b j : Nat} {z : Value} {cur : Array Value} {t : TypeId} {fr : Nat × Nat} (h : W.heap[b]? = some (.cells cur t fr)) : (W.setCell ⟨b, j, none⟩ z).heap[b]? = some (.cells (cur.setIfInBounds j z) t fr) := by
  unfold World.setCell
  simp only [Array.getElem?_modify, h, if_true, Option.map_some]
  rfl
theorem ToldAt.more {o : Obj} {x : Int} (h : ToldAt w wr N uid k n vi done) (hb : Below wr.heap.size wr w1)
    (k4 : w2.ownsRow w.heap.size 3 1 v' (done.length + 1) (done.map intV ++ [.int .i64 x])) (g4 : (w1.alloc o).grownBy w2 vi.ownBlock) : ToldAt w (w2.setCell ⟨N, 2, none⟩ v') N uid k n v' (done ++ [x]) := by
  have h1 := h.under hb
  obtain ⟨a1, a2, a3, a4⟩ := h1
  have hN := (Array.getElem?_eq_some_iff.1 a1).1
  have hne : vi.ownBlock ≠ some N := by
    intro e
    rcases a2.2 with ⟨rfl, _⟩ | ⟨g, cap, cur, rfl, _, hg, _⟩
    · simp [Value.ownBlock] at e
    · simp [Value.ownBlock] at e
      subst e
      rw [a1] at hg
      cases hg
  have hN2 : w2.heap[N]? = some (.cells (ndCells uid k vi n) 50 (0, 0)) := by
    rw [g4.block N (by rw [World.size_alloc]; omega) (fun e => hne e.symm), Below.heap_alloc _ _ _ hN]
    exact a1
  have hb2 : Below w.heap.size w w2 := (a3.alloc a3.size _).grown g4 (by rw [World.size_alloc]; have := a3.size; omega) (fun j hj => (h.2.1.lt j hj).1)
  have hne2 : v'.ownBlock ≠ some N := by
    intro e
    rcases k4.2 with ⟨rfl, _⟩ | ⟨g, cap, cur, rfl, _, hg, _⟩
    · simp [Value.ownBlock] at e
    · simp [Value.ownBlock] at e
      subst e
      rw [hN2] at hg
      cases hg
  exact ⟨setCell_heap hN2, by have := own_setCell (j := 2) (z := v') k4 hne2; simpa [intV] using this, hb2.setCell (p := ⟨N, 2, none⟩) a4 _, a4⟩
end
/-- What told answers. -/
def ToldPost (l : List Nd) (ws : List ByteArray) (w : World) (e : Ending) (w' : World) : Prop :=
  ∃ vi, e = .returned (.tuple #[.agg (ndCells (toldF l ws).1.uid (toldF l ws).1.kind vi (toldF l ws).1.n), .bool (toldF l ws).2]) ∧
    w'.ownsRow w.heap.size 3 1 vi (toldF l ws).1.ins.length ((toldF l ws).1.ins.map intV) ∧ Below w.heap.size w w'
theorem told_short {l : List Nd} {ws : List ByteArray} (h : ws.length < 2) : toldF l ws = (⟨⟨#[]⟩, 0, [], Ex.zero, 0⟩, false) := by unfold toldF; rw [if_pos h]
theorem insO_snoc (l : List Nd) (us : List ByteArray) (k : Nat) (h : k < us.length) : insO l (us.take (k + 1)) = insO l (us.take k) ++ [findI l us[k]] := by
  unfold insO
  rw [List.take_succ_eq_append_getElem h, List.map_append]; rfl
theorem allB_snoc (l : List Nd) (us : List ByteArray) (k : Nat) (h : k < us.length) : allB l (us.take (k + 1)) = (allB l (us.take k) && decide (0 ≤ findI l us[k])) := by
  unfold allB
  rw [List.take_succ_eq_append_getElem h, List.all_append]; simp
end Go.Proofs.YtimjpgmgpgpanaaGreatDoor.sc
