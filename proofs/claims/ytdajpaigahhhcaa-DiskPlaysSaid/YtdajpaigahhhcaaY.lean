/- DiskKept's round: the disk, the states and the calls, step by step. -/
import Derived.Test.YtdajpaigahhhcaaX
namespace Go.Proofs.Ytdajpaigahhhcaa.dsk
set_option linter.unusedSimpArgs false
set_option linter.unusedVariables false
open Go.RowKit

structure KIn (w : World) (F : Nat → Prop) (d : Nat) (x : D) (vs : List Value) (ops : List Opn) (u v : Value) (wr : World) : Prop where
  disk : IsDisk wr F d x
  lo : ∀ k, F k → w.heap.size ≤ k
  below : Below w.heap.size w wr
  off : x.off = false
  left : x.left = -1
  mem : Mem w.heap.size F wr u v vs (states x) ops
  mats : Mats ops x.loose
def KRel (w : World) (d k : Nat) (u v : Value) (wr : World) : Prop := ∃ F x vs ops, KIn w F d x vs ops u v wr ∧ x.loose.length ≤ k
/-- Behind a call p, whose cells are block b's. -/
structure KMid (w : World) (F : Nat → Prop) (d : Nat) (x2 : D) (b : Nat) (p : Opn) (vs : List Value) (sts : List Files) (ops : List Opn) (u v : Value) (wr : World) : Prop where
  disk : IsDisk wr F d x2
  lo : ∀ k, F k → w.heap.size ≤ k
  below : Below w.heap.size w wr
  mem : Mem w.heap.size F wr u v vs sts ops
  at14 : wr.heap[b]? = some (.cells p.cells.toArray 41 (0, 0))
  vb : v.ownBlock ≠ some b
section
variable {w wr w' : World} {F : Nat → Prop} {d b : Nat} {x x2 : D} {p : Opn} {vs : List Value} {sts : List Files} {ops : List Opn} {u v : Value}
theorem grow_lo (hF : ∀ k, F k → w.heap.size ≤ k) (hs : w.heap.size ≤ wr.heap.size) : ∀ k, Grow F wr w' k → w.heap.size ≤ k := fun k hk => by
  rcases hk with h | ⟨h, _⟩
  · exact hF k h
  · omega
theorem KIn.called (h : KIn w F d x vs ops u v wr) {w3 : World} (hp : Post F d x2 (wr.alloc (.cells p.cells.toArray 41)) w3) :
    KMid w (Grow F (wr.alloc (.cells p.cells.toArray 41)) w3) d x2 wr.heap.size p vs (states x) ops u v w3 := by
  have hb1 : Below wr.heap.size wr (wr.alloc (.cells p.cells.toArray 41)) := (Below.refl _ wr).alloc (Nat.le_refl _) _
  have hsz := h.below.size
  refine ⟨hp.disk, grow_lo h.lo (by rw [World.size_alloc]; omega), (h.below.trans (hb1.mono hsz)).trans (hp.only.below (by rw [World.size_alloc]; omega) h.lo), (h.mem.below hb1).only hp.only, ?_, fun e => ?_⟩
  · rw [hp.only.block wr.heap.size (by rw [World.size_alloc]; omega) (fun hk => by have := h.disk.lt hk; omega)]
    exact heap_alloc_new wr _
  · have := (own_lt h.mem.op e).1
    omega
theorem KMid.on (h : KMid w F d x2 b p vs sts ops u v wr) (hb : Below wr.heap.size wr w') : KMid w F d x2 b p vs sts ops u v w' :=
  ⟨h.disk.below hb, h.lo, h.below.trans (hb.mono h.below.size), h.mem.below hb, (hb.block b (Array.getElem?_eq_some_iff.1 h.at14).1).trans h.at14, h.vb⟩
theorem below_drew (w : World) : Below w.heap.size w w.drew := ⟨rfl, rfl, rfl, Nat.le_refl _, fun _ _ => rfl⟩
theorem below_alloc (w : World) (o : Obj) : Below w.heap.size w (w.alloc o) := (Below.refl _ w).alloc (Nat.le_refl _) o
theorem KMid.row (h : KMid w F d x2 b p vs sts ops u v wr) {y : Value} {f : Files} (hr : w'.ownsRow wr.heap.size 9 1 y 16 ((firsts f 16).map Value.string)) : Row16 w.heap.size F w' y f :=
  ⟨own_mono hr h.below.size, off_new hr fun k hk => h.disk.lt hk⟩
theorem KMid.push (h : KMid w F d x2 b p vs sts ops u v wr) {y : Value} {f : Files} (hy : Row16 w.heap.size F wr y f) {g cap : Nat} (ho : w'.ownsRow w.heap.size 48 1 (.slice (some ⟨g, 0, none⟩) (sts.length + 1) cap) (sts.length + 1) (vs ++ [y]))
    (hg : wr.grownBy w' u.ownBlock) (hat : u.ownBlock = some g ∨ g = wr.heap.size) : KMid w F d x2 b p (vs ++ [y]) (sts ++ [f]) ops (.slice (some ⟨g, 0, none⟩) (sts.length + 1) cap) v w' := by
  refine ⟨h.disk.frame (fun k hk => hg.block k (h.disk.lt hk) fun e => h.mem.stF k e.symm hk) hg.size, h.lo, h.below.grown hg h.below.size fun k hk => (own_lt h.mem.st hk).2.1, h.mem.push hy (fun k hk => h.disk.lt hk) ho hg hat, ?_, h.vb⟩
  rw [hg.block b (Array.getElem?_eq_some_iff.1 h.at14).1 fun e => ?_]
  · exact h.at14
  · obtain ⟨_, _, c, hc⟩ := own_lt h.mem.st e.symm
    rw [h.at14] at hc
    injection hc with h1
    injection h1 with h2 h3
    exact absurd h3 (by decide)
theorem KMid.held (h : KMid w F d x2 b p vs sts ops u v wr) (hg : wr.grownBy w' v.ownBlock) : w'.heap[b]? = some (.cells p.cells.toArray 41 (0, 0)) :=
  (hg.block b (Array.getElem?_eq_some_iff.1 h.at14).1 fun e => h.vb e.symm).trans h.at14
theorem KMid.more (h : KMid w F d x2 b p vs sts ops u v wr) {g cap : Nat} (ho : w'.ownsRow w.heap.size 41 5 (.slice (some ⟨g, 0, none⟩) (ops.length + 1) cap) (ops.length + 1) (ops.flatMap Opn.cells ++ p.cells))
    (hg : wr.grownBy w' v.ownBlock) (hat : v.ownBlock = some g ∨ g = wr.heap.size) (h1 : x2.off = false) (h2 : x2.left = -1) (hst : states x2 = sts) (hm : Mats (ops ++ [p]) x2.loose) :
    KIn w F d x2 vs (ops ++ [p]) u (.slice (some ⟨g, 0, none⟩) (ops.length + 1) cap) w' := by
  subst hst
  exact ⟨h.disk.frame (fun k hk => hg.block k (h.disk.lt hk) fun e => h.mem.opF k e.symm hk) hg.size, h.lo, h.below.grown hg h.below.size fun k hk => (own_lt h.mem.op hk).2.1, h1, h2, h.mem.more (fun k hk => h.disk.lt hk) ho hg hat, hm⟩
theorem KMid.same (h : KMid w F d x b p vs (states x) ops u v wr) (h1 : x.off = false) (h2 : x.left = -1) (hm : Mats ops x.loose) : KIn w F d x vs ops u v wr := ⟨h.disk, h.lo, h.below, h1, h2, h.mem, hm⟩
/-- Behind a Sync: one state. -/
theorem KMid.synced (h : KMid w F d x2 b p vs sts ops u v wr) {y : Value} {f : Files} (hy : Row16 w.heap.size F wr y f) (h1 : x2.off = false) (h2 : x2.left = -1) (hst : states x2 = [f]) (hl : x2.loose = []) :
    KIn w F d x2 [y] [] (.slice (some ⟨wr.heap.size, 0, none⟩) 1 1) (.slice none 0 0) (wr.alloc (.cells #[y] 48)) := by
  refine ⟨h.disk.below (below_alloc _ _), h.lo, h.below.trans ((below_alloc _ _).mono h.below.size), h1, h2, ?_, by rw [hl]; exact Mats.nil⟩
  rw [hst]
  exact Mem.one hy (fun k hk => h.disk.lt hk) h.below.size
theorem own_one {w : World} {B n e : Nat} {y : Value} {xs : List Value} (h : w.ownsRow B e 1 y n xs) : y.oneCell' = true := by
  rcases h.2 with ⟨rfl, _⟩ | ⟨g, cap, cur, rfl, _⟩ <;> rfl
end
theorem info48 : (Try.prog.info? 48).map (fun i => (i.zero, i.size, i.bytes)) = some (some (.slice none 0 0), 1, 24) := by kernel_rfl
theorem info41z : (Try.prog.info? 41).map (fun i => (i.zero, i.size, i.bytes)) = some (some (.agg #[.int .i64 0, .int .i64 0, .int .i64 0, .int .i64 0, .string ⟨#[]⟩]), 5, 48) := by kernel_rfl
end Go.Proofs.Ytdajpaigahhhcaa.dsk
