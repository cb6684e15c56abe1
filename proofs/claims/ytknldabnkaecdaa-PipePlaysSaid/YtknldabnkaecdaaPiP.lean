/- What is taken are the messages that were put, in their order. -/
import Derived.Test.YtknldabnkaecdaaPiO
import Derived.Test.YtknldabnkaecdaaPiQ
import Derived.Maps.AppendAt
namespace Go.Proofs.Ytknldabnkaecdaa.pip
set_option linter.unusedSimpArgs false
set_option linter.unusedVariables false
open Go.RowKit
attribute [local go_sem ↓] Go.wp_at_zero Go.wp_at_succ
open Go.Proofs.Ytknldabnkaecdaa.byt (fits intV txt flat own_below cell_one_new)
theorem MV.bare {w : World} {v : Value} {q : Int} (h : MV w v (bare q)) (w' : World) : MV w' v (bare q) := by
  obtain ⟨u, h1, a, c, h2, h3, h4, h5, _⟩ := h
  exact ⟨u, h1, a, c, h2, h3, h4, h5, fun h => by simp [pip.bare] at h⟩
theorem Msgs.bare {w : World} (w' : World) : ∀ {L : List Value} {qs : List Int}, Msgs w L (qs.map pip.bare) → Msgs w' L (qs.map pip.bare)
  | [], [], _ => trivial
  | _ :: _, _ :: _, h => ⟨h.1.bare w', Msgs.bare w' h.2⟩
  | [], _ :: _, h => h.elim
  | _ :: _, [], h => h.elim
/-- A call's own block. -/
def Ox (w : World) (N : Nat) (o : Opn) : Prop := w.heap[N]? = some (.cells #[.int .i64 o.kind, .int .i64 o.m.1, .int .i64 o.m.2.1, .slice o.a o.m.2.2.length o.cap] 44 (0, 0))
theorem Ox.facts {w : World} {N : Nat} {o : Opn} (h : Ox w N o) : (w.cell? ⟨N, 0, none⟩ = some (.int .i64 o.kind) ∧ w.cell? ⟨N, 1, none⟩ = some (.int .i64 o.m.1) ∧ w.cell? ⟨N, 2, none⟩ = some (.int .i64 o.m.2.1) ∧ w.cell? ⟨N, 3, none⟩ = some (.slice o.a o.m.2.2.length o.cap)) ∧ ∀ k, w.frozen? ⟨N, k, none⟩ = false :=
  ⟨⟨by rw [cell_of_row w N 0 _ _ _ h]; rfl, by rw [cell_of_row w N 1 _ _ _ h]; rfl, by rw [cell_of_row w N 2 _ _ _ h]; rfl, by rw [cell_of_row w N 3 _ _ _ h]; rfl⟩, fun k => frozen_of_row w N k _ _ h⟩
def setO (w : World) (N : Nat) (o : Opn) : World := (((w.setCell ⟨N, 0, none⟩ (.int .i64 o.kind)).setCell ⟨N, 1, none⟩ (.int .i64 o.m.1)).setCell ⟨N, 2, none⟩ (.int .i64 o.m.2.1)).setCell ⟨N, 3, none⟩ (.slice o.a o.m.2.2.length o.cap)
theorem Ox.set {w : World} {N : Nat} {o : Opn} (h : Ox w N o) (q : Opn) : Ox (setO w N q) N q := by
  unfold Ox setO at *
  have h1 := heap_setCell_same w N 0 _ _ (.int .i64 q.kind) h
  have h2 := heap_setCell_same _ N 1 _ _ (.int .i64 q.m.1) h1
  have h3 := heap_setCell_same _ N 2 _ _ (.int .i64 q.m.2.1) h2
  rw [heap_setCell_same _ N 3 _ _ (.slice q.a q.m.2.2.length q.cap) h3]; rfl
theorem below_setO {B : Nat} {w w' : World} (h : Below B w w') {N : Nat} (hN : B ≤ N) (o : Opn) : Below B w (setO w' N o) :=
  (((h.setCell (p := ⟨N, 0, none⟩) hN _).setCell (p := ⟨N, 1, none⟩) hN _).setCell (p := ⟨N, 2, none⟩) hN _).setCell (p := ⟨N, 3, none⟩) hN _
theorem Ox.keep {w w' : World} {N : Nat} {o : Opn} (h : Ox w N o) (hN : w'.heap[N]? = w.heap[N]?) : Ox w' N o := hN.trans h
theorem Ox.below {w w' : World} {N : Nat} {o : Opn} (h : Ox w N o) (hb : Below w.heap.size w w') : Ox w' N o := h.keep (hb.block N (lt_of_get h))
/-- Where the law stands within its run: the pipe, what was put, what was taken. -/
structure St (w0 wr : World) (p c room : Nat) (L : List Value) (qs ins outs : List Int) (v7 v8 : Value) : Prop where
  pipe : IsPipe wr p c room L
  msgs : Msgs wr L (qs.map bare)
  o7 : wr.ownsRow w0.heap.size 2 1 v7 ins.length (ins.map intV)
  o8 : wr.ownsRow w0.heap.size 2 1 v8 outs.length (outs.map intV)
  sep : ∀ b, v7.ownBlock = some b → v8.ownBlock ≠ some b
  below : Below w0.heap.size w0 wr
  base : w0.heap.size ≤ c ∧ w0.heap.size ≤ p
section
variable {w0 wr w' : World} {p c room : Nat} {L : List Value} {qs ins outs : List Int} {v7 v8 : Value}
/-- A row of numbers lies neither in the pipe's block nor in the channel's. -/
theorem IsPipe.off (h : IsPipe wr p c room L) {B n : Nat} {v : Value} {xs : List Value} (ho : wr.ownsRow B 2 1 v n xs) : ∀ b, v.ownBlock = some b → b ≠ p ∧ b ≠ c := by
  intro b hb
  rcases ho.2 with ⟨rfl, _⟩ | ⟨g, cap, cur, rfl, _, hg, _⟩
  · cases hb
  · obtain rfl := Option.some.inj hb
    refine ⟨?_, ?_⟩
    · rintro rfl
      have := h.obj
      rw [hg] at this
      injection this with this
      injection this with _ this
      exact absurd this (by decide)
    · rintro rfl
      obtain ⟨s, r, hc⟩ := h.way
      rw [hg] at hc
      cases hc
theorem own_only {F : Nat → Prop} {B n : Nat} {v : Value} {xs : List Value} (ho : wr.ownsRow B 2 1 v n xs) (h : Only F wr w') (hF : ∀ b, v.ownBlock = some b → ¬ F b) : w'.ownsRow B 2 1 v n xs := by
  refine ⟨ho.1, ?_⟩
  rcases ho.2 with h0 | ⟨g, cap, cur, rfl, h1, hg, h2⟩
  · exact .inl h0
  · exact .inr ⟨g, cap, cur, rfl, h1, (h.block g (lt_of_get hg) (hF g rfl)).trans hg, h2⟩
theorem St.on (h : St w0 wr p c room L qs ins outs v7 v8) (hb : Below wr.heap.size wr w') : St w0 w' p c room L qs ins outs v7 v8 :=
  ⟨h.pipe.below hb, h.msgs.bare w', own_below h.o7 hb, own_below h.o8 hb, h.sep, below_on' h.below hb, h.base⟩
theorem St.put (h : St w0 wr p c room L qs ins outs v7 v8) {v : Value} {q : Int} (hp : IsPipe w' p c room (L ++ [v])) (hv : MV w' v (bare q)) (ho : Only (· = c) wr w') : St w0 w' p c room (L ++ [v]) (qs ++ [q]) ins outs v7 v8 :=
  ⟨hp, by rw [List.map_append]; exact (h.msgs.bare w').snoc hv, own_only h.o7 ho (fun b hb => (h.pipe.off h.o7 b hb).2), own_only h.o8 ho (fun b hb => (h.pipe.off h.o8 b hb).2), h.sep,
    h.below.trans (ho.below h.below.size (fun k hk => by rw [hk]; exact h.base.1)), h.base⟩
theorem St.take {v : Value} {q : Int} (h : St w0 wr p c room (v :: L) (q :: qs) ins outs v7 v8) (hp : IsPipe w' p c room L) (ho : Only (· = c) wr w') : St w0 w' p c room L qs ins outs v7 v8 :=
  ⟨hp, Msgs.bare w' h.msgs.2, own_only h.o7 ho (fun b hb => (h.pipe.off h.o7 b hb).2), own_only h.o8 ho (fun b hb => (h.pipe.off h.o8 b hb).2), h.sep,
    h.below.trans (ho.below h.below.size (fun k hk => by rw [hk]; exact h.base.1)), h.base⟩
theorem only_grown {o : Obj} {v : Value} (hg : (wr.alloc o).grownBy w' v.ownBlock) : Only (fun k => v.ownBlock = some k) wr w' :=
  ⟨hg.os, hg.tape, hg.output, by have := hg.size; rw [World.size_alloc] at this; omega, fun k hk hn => by
    rw [hg.block k (by rw [World.size_alloc]; omega) (fun e => hn e.symm)]
    exact Below.heap_alloc wr o k hk⟩
theorem own_ge' {B n : Nat} {v : Value} {xs : List Value} (h : wr.ownsRow B 2 1 v n xs) : ∀ b, v.ownBlock = some b → B ≤ b ∧ b < wr.heap.size := by
  intro b hb
  rcases h.2 with ⟨rfl, _⟩ | ⟨g, cap, cur, rfl, h1, hg, _⟩
  · cases hb
  · obtain rfl := Option.some.inj hb
    exact ⟨h1, lt_of_get hg⟩
theorem St.app7 (h : St w0 wr p c room L qs ins outs v7 v8) {o : Obj} {x : Int} {v : Value} (hk : w'.ownsRow w0.heap.size 2 1 v (ins.length + 1) (ins.map intV ++ [intV x])) (hg : (wr.alloc o).grownBy w' v7.ownBlock)
    (hat : v.ownBlock = v7.ownBlock ∨ v.ownBlock = some (wr.alloc o).heap.size) : St w0 w' p c room L qs (ins ++ [x]) outs v v8 := by
  have ho := only_grown hg
  have hof := fun k (hk : v7.ownBlock = some k) => h.pipe.off h.o7 k hk
  refine ⟨h.pipe.keep (ho.block p h.pipe.lt.1 (fun e => (hof p e).1 rfl)) (ho.block c h.pipe.lt.2 (fun e => (hof c e).2 rfl)), h.msgs.bare w', by rw [List.length_append, List.map_append]; exact hk,
    own_only h.o8 ho (fun b hb e => h.sep b e hb), fun b hb => ?_, h.below.trans (ho.below h.below.size (fun k hk => (own_ge' h.o7 k hk).1)), h.base⟩
  rcases hat with e | e
  · rw [e] at hb; exact h.sep b hb
  · rw [e] at hb
    obtain rfl := Option.some.inj hb
    intro e8
    have := (own_ge' h.o8 _ e8).2
    rw [World.size_alloc] at this
    omega
theorem St.app8 (h : St w0 wr p c room L qs ins outs v7 v8) {o : Obj} {x : Int} {v : Value} (hk : w'.ownsRow w0.heap.size 2 1 v (outs.length + 1) (outs.map intV ++ [intV x])) (hg : (wr.alloc o).grownBy w' v8.ownBlock)
    (hat : v.ownBlock = v8.ownBlock ∨ v.ownBlock = some (wr.alloc o).heap.size) : St w0 w' p c room L qs ins (outs ++ [x]) v7 v := by
  have ho := only_grown hg
  have hof := fun k (hk : v8.ownBlock = some k) => h.pipe.off h.o8 k hk
  refine ⟨h.pipe.keep (ho.block p h.pipe.lt.1 (fun e => (hof p e).1 rfl)) (ho.block c h.pipe.lt.2 (fun e => (hof c e).2 rfl)), h.msgs.bare w', own_only h.o7 ho (fun b hb e => h.sep b hb e), by rw [List.length_append, List.map_append]; exact hk,
    fun b hb => ?_, h.below.trans (ho.below h.below.size (fun k hk => (own_ge' h.o8 k hk).1)), h.base⟩
  rcases hat with e | e
  · rw [e]; exact h.sep b hb
  · rw [e]
    intro e8
    obtain rfl := Option.some.inj e8
    have := (own_ge' h.o7 _ hb).2
    rw [World.size_alloc] at this
    omega
/-- A call's block stays where a row of numbers grows. -/
theorem Ox.grown {N : Nat} {q : Opn} (h : Ox wr N q) {B n : Nat} {v : Value} {xs : List Value} (ho : wr.ownsRow B 2 1 v n xs) {o : Obj} (hg : (wr.alloc o).grownBy w' v.ownBlock) : Ox w' N q := by
  refine h.keep ((only_grown hg).block N (lt_of_get h) fun e => ?_)
  rcases ho.2 with ⟨rfl, _⟩ | ⟨g, cap, cur, rfl, _, hgg, _⟩
  · cases e
  · obtain rfl := Option.some.inj e
    have h1 : wr.heap[g]? = _ := h
    rw [hgg] at h1
    injection h1 with h1
    injection h1 with _ h1
    exact absurd h1 (by decide)
theorem Ox.chan {N : Nat} {q : Opn} (h : Ox wr N q) (hp : IsPipe wr p c room L) (ho : Only (· = c) wr w') : Ox w' N q := by
  refine h.keep (ho.block N (lt_of_get h) fun e => ?_)
  obtain ⟨s, r, hc⟩ := hp.way
  have h1 : wr.heap[N]? = _ := h
  rw [e, hc] at h1
  cases h1
end
end Go.Proofs.Ytknldabnkaecdaa.pip
