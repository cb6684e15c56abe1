/- What DiskKept keeps of a script: the states since the last Sync, and the calls that made them. -/
import Derived.Test.YtdajpaigahhhcaaV
namespace Go.Proofs.Ytdajpaigahhhcaa.dsk
set_option linter.unusedSimpArgs false
set_option linter.unusedVariables false
open Go.RowKit

/-- A row that lies in none of the blocks of F. -/
def Off (F : Nat → Prop) (v : Value) : Prop := ∀ g, v.ownBlock = some g → ¬ F g
theorem own_lt {w : World} {B e size n : Nat} {v : Value} {xs : List Value} (h : w.ownsRow B e size v n xs) {g : Nat} (hg : v.ownBlock = some g) : g < w.heap.size ∧ B ≤ g ∧ ∃ c, w.heap[g]? = some (.cells c e (0, 0)) := by
  rcases h.2 with ⟨rfl, _⟩ | ⟨g', cap, cur, rfl, hb, hk, _⟩
  · cases hg
  · obtain rfl : g' = g := Option.some.inj hg
    exact ⟨(Array.getElem?_eq_some_iff.1 hk).1, hb, _, hk⟩
/-- Rows of different kinds lie in different blocks. -/
theorem own_ne {w : World} {B B' e e' s s' n n' : Nat} {v u : Value} {xs ys : List Value} (h : w.ownsRow B e s v n xs) (k : w.ownsRow B' e' s' u n' ys) (he : e ≠ e') : v.ownBlock = none ∨ v.ownBlock ≠ u.ownBlock := by
  cases hv : v.ownBlock with
  | none => exact .inl rfl
  | some g =>
    refine .inr fun hu => ?_
    obtain ⟨_, _, c, hc⟩ := own_lt h hv
    obtain ⟨_, _, c', hc'⟩ := own_lt k hu.symm
    rw [hc] at hc'
    injection hc' with h1
    injection h1 with h2 h3
    exact he h3
theorem own_only {w w' : World} {F : Nat → Prop} {B e size n : Nat} {v : Value} {xs : List Value} (h : w.ownsRow B e size v n xs) (ho : Only F w w') (hF : Off F v) : w'.ownsRow B e size v n xs := by
  refine ⟨h.1, ?_⟩
  rcases h.2 with h0 | ⟨g, cap, cur, rfl, hb, hk, hr⟩
  · exact .inl h0
  · exact .inr ⟨g, cap, cur, rfl, hb, (ho.block g (Array.getElem?_eq_some_iff.1 hk).1 (hF g rfl)).trans hk, hr⟩
theorem off_grow {w w' : World} {F : Nat → Prop} {B e size n : Nat} {v : Value} {xs : List Value} (h : w.ownsRow B e size v n xs) (hF : Off F v) : Off (Grow F w w') v := fun g hg hk => by
  rcases hk with hk | ⟨hk, _⟩
  · exact hF g hg hk
  · have := (own_lt h hg).1; omega
/-- A row that the call has just made is none of the disk's. -/
theorem off_new {w w' : World} {F : Nat → Prop} {e size n : Nat} {v : Value} {xs : List Value} (h : w'.ownsRow w.heap.size e size v n xs) (hF : ∀ k, F k → k < w.heap.size) : Off F v := fun g hg hk => by
  have := (own_lt h hg).2.1
  have := hF g hk
  omega
theorem own_mono {w : World} {B B' e size n : Nat} {v : Value} {xs : List Value} (h : w.ownsRow B e size v n xs) (hB : B' ≤ B) : w.ownsRow B' e size v n xs := by
  refine ⟨h.1, ?_⟩
  rcases h.2 with h0 | ⟨g, cap, cur, rfl, hb, hr⟩
  · exact .inl h0
  · exact .inr ⟨g, cap, cur, rfl, Nat.le_trans hB hb, hr⟩

/-- All 16 texts of f, a row of the call's own. -/
def Row16 (B : Nat) (F : Nat → Prop) (w : World) (x : Value) (f : Files) : Prop := w.ownsRow B 9 1 x 16 ((firsts f 16).map Value.string) ∧ Off F x
/-- The states sts, the calls ops: as they lie in memory, outside of the disk's blocks. -/
structure Mem (B : Nat) (F : Nat → Prop) (w : World) (u v : Value) (vs : List Value) (sts : List Files) (ops : List Opn) : Prop where
  st : w.ownsRow B 48 1 u sts.length vs
  stF : Off F u
  each : ∀ (j : Nat) (f : Files), sts[j]? = some f → ∃ x : Value, vs[j]? = some x ∧ Row16 B F w x f
  op : w.ownsRow B 41 5 v ops.length (ops.flatMap Opn.cells)
  opF : Off F v
section
variable {B : Nat} {F : Nat → Prop} {w w' : World} {u v : Value} {vs : List Value} {sts : List Files} {ops : List Opn}
theorem Row16.below {x : Value} {f : Files} (h : Row16 B F w x f) (hb : Below w.heap.size w w') : Row16 B F w' x f := ⟨own_below h.1 hb, h.2⟩
theorem Mem.below (h : Mem B F w u v vs sts ops) (hb : Below w.heap.size w w') : Mem B F w' u v vs sts ops :=
  ⟨own_below h.st hb, h.stF, fun j f hj => (h.each j f hj).imp fun x hx => ⟨hx.1, hx.2.below hb⟩, own_below h.op hb, h.opF⟩
theorem Mem.only (h : Mem B F w u v vs sts ops) (ho : Only F w w') : Mem B (Grow F w w') w' u v vs sts ops :=
  ⟨own_only h.st ho h.stF, off_grow h.st h.stF, fun j f hj => (h.each j f hj).imp fun x hx => ⟨hx.1, own_only hx.2.1 ho hx.2.2, off_grow hx.2.1 hx.2.2⟩, own_only h.op ho h.opF, off_grow h.op h.opF⟩
theorem off_appended {row : Option Nat} {u' : Value} {g : Nat} {H : Nat} (hu : u'.ownBlock = some g) (hF : ∀ k, F k → k < H) (h : row = some g ∨ g = H) (hr : ∀ k, row = some k → ¬ F k) : Off F u' := fun k hk hFk => by
  obtain rfl : g = k := by rw [hu] at hk; exact Option.some.inj hk
  rcases h with h | h
  · exact hr g h hFk
  · have := hF g hFk; omega
/-- A state more. -/
theorem Mem.push (h : Mem B F w u v vs sts ops) {x : Value} {f : Files} (hx : Row16 B F w x f) {g cap : Nat} (hF : ∀ k, F k → k < w.heap.size) (ho : w'.ownsRow B 48 1 (.slice (some ⟨g, 0, none⟩) (sts.length + 1) cap) (sts.length + 1) (vs ++ [x]))
    (hg : w.grownBy w' u.ownBlock) (hat : u.ownBlock = some g ∨ g = w.heap.size) : Mem B F w' (.slice (some ⟨g, 0, none⟩) (sts.length + 1) cap) v (vs ++ [x]) (sts ++ [f]) ops := by
  have h9 : ∀ {y : Value} {k : Files}, Row16 B F w y k → Row16 B F w' y k := fun hy => ⟨hy.1.kept hg (own_ne hy.1 h.st (by decide)), hy.2⟩
  refine ⟨by rw [List.length_append]; exact ho, off_appended rfl hF hat h.stF, fun j k hj => ?_, h.op.kept hg (own_ne h.op h.st (by decide)), h.opF⟩
  have hlen : vs.length = sts.length := by have := h.st.1; omega
  rcases Nat.lt_or_ge j sts.length with h5 | h5
  · rw [List.getElem?_append_left h5] at hj
    obtain ⟨y, hy, hr⟩ := h.each j k hj
    exact ⟨y, by rw [List.getElem?_append_left (by omega)]; exact hy, h9 hr⟩
  · rw [List.getElem?_append_right h5] at hj
    obtain ⟨h6, h7⟩ : j - sts.length = 0 ∧ f = k := by
      cases hq : j - sts.length with
      | zero => rw [hq] at hj; simpa using hj
      | succ i => rw [hq] at hj; simp at hj
    subst h7
    exact ⟨x, by rw [List.getElem?_append_right (by omega), show j - vs.length = 0 by omega]; rfl, h9 hx⟩
/-- A call more. -/
theorem Mem.more (h : Mem B F w u v vs sts ops) {p : Opn} {g cap : Nat} (hF : ∀ k, F k → k < w.heap.size) (ho : w'.ownsRow B 41 5 (.slice (some ⟨g, 0, none⟩) (ops.length + 1) cap) (ops.length + 1) (ops.flatMap Opn.cells ++ p.cells))
    (hg : w.grownBy w' v.ownBlock) (hat : v.ownBlock = some g ∨ g = w.heap.size) : Mem B F w' u (.slice (some ⟨g, 0, none⟩) (ops.length + 1) cap) vs sts (ops ++ [p]) := by
  refine ⟨h.st.kept hg (own_ne h.st h.op (by decide)), h.stF, fun j k hj => (h.each j k hj).imp fun y hy => ⟨hy.1, hy.2.1.kept hg (own_ne hy.2.1 h.op (by decide)), hy.2.2⟩, ?_, off_appended rfl hF hat h.opF⟩
  rw [List.length_append, List.flatMap_append, List.flatMap_singleton]
  exact ho
/-- One state, no call. -/
theorem Mem.one {x : Value} {f : Files} (hx : Row16 B F w x f) (hF : ∀ k, F k → k < w.heap.size) (hB : B ≤ w.heap.size) :
    Mem B F (w.alloc (.cells #[x] 48)) (.slice (some ⟨w.heap.size, 0, none⟩) 1 1) (.slice none 0 0) [x] [f] [] := by
  refine ⟨⟨rfl, .inr ⟨_, 1, #[x], rfl, hB, heap_alloc_new w _, Nat.le_refl _, by unfold maxLen; omega, rfl, rfl⟩⟩, fun g hg hk => ?_, fun j k hj => ?_, World.ownsRow_nil _ _ _ _, fun g hg => by cases hg⟩
  · obtain rfl : w.heap.size = g := Option.some.inj hg
    exact absurd (hF _ hk) (Nat.lt_irrefl _)
  · match j, hj with
    | 0, hj =>
      obtain rfl : f = k := by simpa using hj
      exact ⟨x, rfl, hx.below ((Below.refl _ w).alloc (Nat.le_refl _) _)⟩
    | (j + 1), hj => simp at hj
end
end Go.Proofs.Ytdajpaigahhhcaa.dsk
