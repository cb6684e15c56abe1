/- What Parse answers: of every text. -/
import Derived.Test.YtimjpgmgpgpanaaGreatDoorScI
namespace Go.Proofs.YtimjpgmgpgpanaaGreatDoor.sc
set_option linter.unusedSimpArgs false
set_option linter.unusedVariables false
open Go.RowKit nam exp jb

/-! How many lines, how long. -/
theorem splitL_len : ∀ (l cur : List UInt8), (splitL cur l).length ≤ l.length + 1
  | [], cur => by simp [splitL]
  | c :: l, cur => by
    rw [splitL]
    split
    · have := splitL_len l []
      simp only [List.length_cons]; omega
    · have := splitL_len l (cur ++ [c])
      simp only [List.length_cons]; omega
theorem splitL_size : ∀ (l cur : List UInt8), ∀ x ∈ splitL cur l, x.length ≤ cur.length + l.length
  | [], cur, x, h => by
    simp only [splitL, List.mem_singleton] at h
    rw [h]; omega
  | c :: l, cur, x, h => by
    rw [splitL] at h
    simp only [List.length_cons]
    split at h
    · rcases List.mem_cons.1 h with h | h
      · rw [h]; omega
      · have := splitL_size l [] x h
        simp only [List.length_nil] at this; omega
    · have := splitL_size l (cur ++ [c]) x h
      rw [List.length_append, List.length_singleton] at this; omega
theorem lines_len (s : ByteArray) : (linesO s).length ≤ s.size + 1 ∧ ∀ l ∈ linesO s, l.size ≤ s.size := by
  have hl : s.data.toList.length = s.size := by rw [Array.length_toList]; rfl
  rw [lines_split]
  refine ⟨by rw [List.length_map]; have := splitL_len s.data.toList []; omega, fun l h => ?_⟩
  obtain ⟨x, hx, rfl⟩ := List.mem_map.1 h
  have := splitL_size s.data.toList [] x hx
  have e : (ba x).size = x.length := by show x.toArray.size = _; simp
  rw [e]; simp only [List.length_nil] at this; omega

/-! A line's number is put behind the others. -/
def Kept2 (w w' : World) : Prop := w.heap.size ≤ w'.heap.size ∧ ∀ (b : Nat) (c : Array Value) (t : TypeId) (fr : Nat × Nat), w.heap[b]? = some (Obj.cells c t fr) → t ≠ 40 → t ≠ 50 → t ≠ 3 → w'.heap[b]? = some (Obj.cells c t fr)
theorem Kept.two {w w' : World} (h : Kept w w') : Kept2 w w' := ⟨h.1, fun b c t fr hb h1 h2 _ => h.2 b c t fr hb h1 h2⟩
theorem Kept2.trans {w w1 w2 : World} (h : Kept2 w w1) (h2 : Kept2 w1 w2) : Kept2 w w2 := ⟨Nat.le_trans h.1 h2.1, fun b c t fr hb h3 h4 h5 => h2.2 b c t fr (h.2 b c t fr hb h3 h4 h5) h3 h4 h5⟩
theorem Kept2.own {w w' : World} (h : Kept2 w w') {B : Nat} {e : TypeId} {size n : Nat} {v : Value} {xs : List Value} (hr : w.ownsRow B e size v n xs) (h1 : e ≠ 40) (h2 : e ≠ 50) (h3 : e ≠ 3) : w'.ownsRow B e size v n xs := by
  obtain ⟨k1, k2 | ⟨g, cap, cur, a0, a1, a2, a3⟩⟩ := hr
  · exact ⟨k1, .inl k2⟩
  · exact ⟨k1, .inr ⟨g, cap, cur, a0, a1, h.2 g _ _ _ a2 h1 h2 h3, a3⟩⟩
theorem IsRdr.say {w w5 : World} {B rb : Nat} {vn vs : Value} {rows : List NRow} {r : Rdr} {o : Obj} {g cap : Nat} {x : Int} (h : IsRdr w B rb vn vs rows r) (hg : (w.alloc o).grownBy w5 vs.ownBlock)
    (hown : lg.Row w5 3 1 (.slice (some ⟨g, 0, none⟩) (r.said.length + 1) cap) (r.said.length + 1) (r.said.map intV ++ [.int .i64 x])) (hat : vs.ownBlock = some g ∨ g = (w.alloc o).heap.size) :
    IsRdr (w5.setCell ⟨rb, 2, none⟩ (.slice (some ⟨g, 0, none⟩) (r.said.length + 1) cap)) B rb vn (.slice (some ⟨g, 0, none⟩) (r.said.length + 1) cap) rows ⟨r.par, r.nodes, r.said ++ [x]⟩ ∧
      Below B w (w5.setCell ⟨rb, 2, none⟩ (.slice (some ⟨g, 0, none⟩) (r.said.length + 1) cap)) ∧ Kept2 w (w5.setCell ⟨rb, 2, none⟩ (.slice (some ⟨g, 0, none⟩) (r.said.length + 1) cap)) := by
  obtain ⟨h1, h2, h3, h4, h5, h6, h7, h8⟩ := h
  have hrb := (Array.getElem?_eq_some_iff.1 h1).1
  -- whatever is not the row itself stands
  have st5 : ∀ (b : Nat) (c : Array Value) (t : TypeId) (fr : Nat × Nat), w.heap[b]? = some (Obj.cells c t fr) → vs.ownBlock ≠ some b → w5.heap[b]? = some (Obj.cells c t fr) := fun b c t fr hb hne => by
    have hlt := (Array.getElem?_eq_some_iff.1 hb).1
    rw [hg.block b (by rw [World.size_alloc]; omega) (fun e => hne e.symm), Below.heap_alloc _ _ _ hlt]
    exact hb
  have hrb5 : w5.heap[rb]? = some (.cells #[.int .i64 r.par, vn, vs] 40 (0, 0)) := st5 rb _ _ _ h1 (row_ty h6 h1 (by decide))
  have st6 : ∀ (b : Nat) (c : Array Value) (t : TypeId) (fr : Nat × Nat), w.heap[b]? = some (Obj.cells c t fr) → vs.ownBlock ≠ some b → b ≠ rb → (w5.setCell ⟨rb, 2, none⟩ (.slice (some ⟨g, 0, none⟩) (r.said.length + 1) cap)).heap[b]? = some (Obj.cells c t fr) := fun b c t fr hb hne hnr => by
    rw [Below.heap_setCell _ _ _ _ hnr]; exact st5 b c t fr hb hne
  have ne_rb : ∀ {b : Nat} {c : Array Value} {t : TypeId} {fr : Nat × Nat}, w.heap[b]? = some (Obj.cells c t fr) → t ≠ 40 → b ≠ rb := fun hb ht e => by
    subst e
    rw [h1] at hb
    simp only [Option.some.injEq, Obj.cells.injEq] at hb
    exact ht hb.2.1.symm
  have hgb : B ≤ g := by
    rcases hat with h | h
    · exact h7 g h
    · rw [h, World.size_alloc]; omega
  have hgne : g ≠ rb := by
    intro e
    subst e
    exact row_ty hown hrb5 (by decide) rfl
  have hB5 : Below B w w5 := by
    have hb : Below B w (w.alloc o) := ((Below.refl w.heap.size w).alloc (Nat.le_refl _) o).mono (by omega)
    exact hb.grown hg (by rw [World.size_alloc]; omega) (fun j hj => h7 j hj)
  have hsz : w.heap.size ≤ (w5.setCell ⟨rb, 2, none⟩ (.slice (some ⟨g, 0, none⟩) (r.said.length + 1) cap)).heap.size := by
    have := hg.size
    rw [World.size_alloc] at this
    simp only [World.size_setCell]
    omega
  refine ⟨⟨setCell_heap hrb5, h2, ?_, h4, fun c hc => ⟨?_, fun g' hg' e => ?_, ?_⟩, ?_, fun g' hg' => ?_, h8⟩, hB5.setCell (p := ⟨rb, 2, none⟩) h2 _, hsz, fun b c t fr hb k1 k2 k3 => st6 b c t fr hb (row_ty h6 hb k3) (ne_rb hb k1)⟩
  · exact h3.frame fun g' hg' => by
      obtain ⟨cur, hc⟩ := h3.kind hg'
      rw [hc]; exact st6 g' _ _ _ hc (row_ty h6 hc (by decide)) (ne_rb hc (by decide))
  · have hk := (h5 c hc).1
    exact hk.frame fun g' hg' => by
      obtain ⟨cur, hc'⟩ := hk.kind hg'
      rw [hc']; exact st6 g' _ _ _ hc' ((h5 c hc).2.1 g' hg') (ne_rb hc' (by decide))
  · simp only [Value.ownBlock, Option.some.injEq] at e
    subst e
    rcases hat with h | h
    · exact (h5 c hc).2.1 _ hg' h
    · have := (h5 c hc).1.lt hg'
      rw [h, World.size_alloc] at this; omega
  · exact (h5 c hc).2.2.frame fun b cc _ hb => by
      rw [hb]; exact st6 b _ _ _ hb (row_ty h6 hb (by decide)) (ne_rb hb (by decide))
  · rw [List.length_append, List.map_append]
    exact hown.frame fun g' hg' => by
      simp only [Value.ownBlock, Option.some.injEq] at hg'
      subst hg'
      exact Below.heap_setCell _ _ _ _ hgne
  · simp only [Value.ownBlock, Option.some.injEq] at hg'
    omega
end Go.Proofs.YtimjpgmgpgpanaaGreatDoor.sc
