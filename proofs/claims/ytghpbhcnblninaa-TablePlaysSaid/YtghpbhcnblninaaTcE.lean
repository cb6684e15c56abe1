/- What the reference's Take keeps: the reader, the table that it makes, the cell under way. -/
import Derived.Test.YtghpbhcnblninaaTcD
namespace Go.Proofs.Ytghpbhcnblninaa.tbl.ref
set_option linter.unusedSimpArgs false
set_option linter.unusedVariables false
open Go.RowKit
attribute [local go_sem ↓] Go.wp_at_zero Go.wp_at_succ
open Go.Proofs.Ytghpbhcnblninaa.grp (gof gof_in fits fits_wf IRow intV below_on' below_made ret_bool own_below ret_int)
open Go.Proofs.Ytghpbhcnblninaa.byt (txt bl)
/-- The round's relation. -/
def CellRel (w wr : World) (B R N : Nat) (x : Int) (s : St) (k : Nat) : Prop :=
  ∃ v a cap, v = Value.slice a k cap ∧ Box2 wr N (x, a, k, cap) ∧ wr.ownsRow B 2 1 v k ((numsR k s).1.map intV) ∧ RdAt wr R (numsR k s).2 ∧ Only (· = R) w wr
/-- One step. -/
theorem cell_step {w wr W1 w6 : World} {B R N : Nat} {x : Int} {s : St} {k : Nat} {v v5 : Value} {n : Int} {c : Cv} (hw : w.heap.size ≤ N) (hB : w.heap.size ≤ B)
    (hn : n = (numO (numsR k s).2).1) (hv : wr.ownsRow B 2 1 v k ((numsR k s).1.map intV)) (ho : Only (· = R) w wr) (hNR : N ≠ R)
    (h1 : RdAt W1 R (numO (numsR k s).2).2) (h1o : Only (· = R) wr W1) (hbx : Box2 W1 N c) (hc : c.1 = x)
    (h5 : w6.ownsRow B 2 1 v5 (k + 1) (((numsR k s).1 ++ [n]).map intV)) (hg : (W1.alloc (.cells #[.int .i64 n] 2)).grownBy w6 v.ownBlock) (hvo : W1.ownsRow B 2 1 v k ((numsR k s).1.map intV)) :
    Box2 w6 N c ∧ ∀ a cap, v5 = .slice a (k + 1) cap → CellRel w (w6.setCell ⟨N, 1, none⟩ (.slice a (k + 1) cap)) B R N x s (k + 1) := by
  have hb6 : ∀ j o, W1.heap[j]? = some o → (∀ cur : Array Value, o ≠ Obj.cells cur 2 (0, 0)) → w6.heap[j]? = some o := fun j o hj hno => by
    have hlt := lt_of_get hj
    rw [hg.block j (by rw [World.size_alloc]; omega) (fun e => by
      obtain ⟨cur, h2, _⟩ := own_blk hvo e.symm
      rw [hj] at h2
      exact hno cur (Option.some.inj h2)), Below.heap_alloc _ _ _ hlt]
    exact hj
  have hx6 : Box2 w6 N c := hb6 N _ hbx (fun cur e => by cases e)
  have hr6 : RdAt w6 R (numO (numsR k s).2).2 := hb6 R _ h1 (fun cur e => by cases e)
  refine ⟨hx6, fun a cap e => ?_⟩
  subst e
  have hne : ∀ j, (Value.slice a (k + 1) cap).ownBlock = some j → j ≠ N := fun j hj e => by
    obtain ⟨cur, h2, _⟩ := own_blk h5 hj
    rw [e, hx6] at h2; cases h2
  have hr7 : RdAt (w6.setCell ⟨N, 1, none⟩ (.slice a (k + 1) cap)) R (numO (numsR k s).2).2 := (Below.heap_setCell _ _ _ _ (fun e => hNR e.symm)).trans hr6
  have hx7 := hx6.setL a (k + 1) cap
  rw [hc] at hx7
  refine ⟨_, a, cap, rfl, hx7, ?_, ?_, ?_⟩
  · rw [nums_snoc, ← hn]
    exact own_cellset h5 hne _
  · rw [nums_snoc]; exact hr7
  · have h6 : Only (fun i => i = R ∨ B ≤ i) wr w6 :=
      ((h1o.on (below_made _ _)).mono (fun i hi => .inl hi)).then (.of_grown hg (fun j hj => .inr (by obtain ⟨cur, _, h2⟩ := own_blk hvo hj; exact h2)))
    have h7 : Only (· = R) w w6 := ho.trans h6 (fun i hi hlt => by
      rcases hi with hi | hi
      · exact hi
      · omega)
    exact only_box h7 hw _ _
theorem own_blk3 {w : World} {B e sz n : Nat} {v : Value} {xs : List Value} (h : w.ownsRow B e sz v n xs) {j : Nat} (hj : v.ownBlock = some j) : ∃ cur, w.heap[j]? = some (.cells cur e (0, 0)) ∧ B ≤ j := by
  rcases h.2 with ⟨rfl, _⟩ | ⟨g, cap, cur, rfl, h1, h2, _⟩
  · simp [Value.ownBlock] at hj
  · simp [Value.ownBlock] at hj; subst hj; exact ⟨cur, h2, h1⟩
theorem own_only3 {w w' : World} {B e sz n R : Nat} {v : Value} {xs : List Value} (h : w.ownsRow B e sz v n xs) (ho : Only (· = R) w w') (hR : ∀ j, v.ownBlock = some j → j ≠ R) : w'.ownsRow B e sz v n xs :=
  h.kept (row := some R) ⟨ho.os, ho.tape, ho.output, ho.size, fun k hk hne => ho.block k hk (fun e => hne (by rw [e]))⟩ (.inr (fun e => hR R e rfl))
theorem own_below3 {W W' : World} {B e size n : Nat} {v : Value} {xs : List Value} (h : W.ownsRow B e size v n xs) (hb : Below W.heap.size W W') : W'.ownsRow B e size v n xs :=
  h.kept (row := none) ⟨hb.os, hb.tape, hb.output, hb.size, fun k hk _ => hb.block k hk⟩ (by cases hv : v.ownBlock <;> simp)
/-- The table that is made. -/
def Bld (w : World) (r B : Nat) (v : Value) (rs : List Rw) : Prop :=
  w.heap[r]? = some (.cells #[v] 45 (0, 0)) ∧ w.ownsRow B 89 3 v rs.length (cells3 rs) ∧ ∀ x ∈ rs, NA w x.a x.cap x.ns
theorem Bld.isRs {w : World} {r B : Nat} {v : Value} {rs : List Rw} (h : Bld w r B v rs) : IsRs w r rs := ⟨v, h.1, (Sr.own h.2.1).2, h.2.2⟩
theorem Bld.below {w w' : World} {r B : Nat} {v : Value} {rs : List Rw} (h : Bld w r B v rs) (hb : Below w.heap.size w w') : Bld w' r B v rs :=
  ⟨(hb.block r (lt_of_get h.1)).trans h.1, own_below3 h.2.1 hb, fun x hx => (h.2.2 x hx).keep (.of_below hb)⟩
theorem Bld.onlyR {w w' : World} {r B R : Nat} {v : Value} {rs : List Rw} {s : St} (h : Bld w r B v rs) (hr : RdAt w R s) (ho : Only (· = R) w w') : Bld w' r B v rs := by
  refine ⟨(ho.block r (lt_of_get h.1) (fun e => ?_)).trans h.1, own_only3 h.2.1 ho (fun j hj e => ?_), fun x hx => (h.2.2 x hx).keep (rows_R hr ho)⟩
  · have h1 := h.1; rw [e, hr] at h1; cases h1
  · obtain ⟨cur, h2, _⟩ := own_blk3 h.2.1 hj
    rw [e, hr] at h2; cases h2
/-- A row more. -/
theorem Bld.more {w w6 : World} {r B : Nat} {v v6 : Value} {rs : List Rw} {x : Rw} {o : Obj} (h : Bld w r B v rs) (hx : NA w x.a x.cap x.ns)
    (h6 : w6.ownsRow B 89 3 v6 (rs.length + 1) (cells3 rs ++ x.cells)) (hg : (w.alloc o).grownBy w6 v.ownBlock) (hBr : r < B) :
    Bld (w6.setCell ⟨r, 0, none⟩ v6) r B v6 (rs ++ [x]) ∧ Only (fun i => i = r ∨ B ≤ i) w (w6.setCell ⟨r, 0, none⟩ v6) ∧ w6.heap[r]? = some (.cells #[v] 45 (0, 0)) := by
  have hkeep : ∀ j ob, w.heap[j]? = some ob → (∀ cur : Array Value, ob ≠ Obj.cells cur 89 (0, 0)) → w6.heap[j]? = some ob := fun j ob hj hno => by
    have hlt := lt_of_get hj
    rw [hg.block j (by rw [World.size_alloc]; omega) (fun e => by
      obtain ⟨cur, h2, _⟩ := own_blk3 h.2.1 e.symm
      rw [hj] at h2
      exact hno cur (Option.some.inj h2)), Below.heap_alloc _ _ _ hlt]
    exact hj
  have hr6 := hkeep r _ h.1 (fun cur e => by cases e)
  have hr2 : Rows2 w (w6.setCell ⟨r, 0, none⟩ v6) := fun g cur fr hgg => by
    rw [Below.heap_setCell _ _ _ _ (fun e => by have h1 := h.1; have e : g = r := e; rw [← e, hgg] at h1; cases h1)]
    exact hkeep g _ hgg (fun cur e => by cases e)
  refine ⟨⟨?_, ?_, fun y hy => ?_⟩, ?_, hr6⟩
  · rw [heap_setCell_same w6 r 0 _ _ _ hr6]; rfl
  · have e1 : (rs ++ [x]).length = rs.length + 1 := by simp
    have e2 : cells3 (rs ++ [x]) = cells3 rs ++ x.cells := by rw [cells3_append]; simp [cells3]
    rw [e1, e2]
    refine h6.kept (row := some r) ⟨rfl, rfl, rfl, by simp [World.setCell], fun k hk hne => Below.heap_setCell _ _ _ _ (fun e => hne (by rw [e]))⟩ (.inr (fun e => ?_))
    obtain ⟨cur, h2, h3⟩ := own_blk3 h6 e
    omega
  · rcases List.mem_append.1 hy with hy | hy
    · exact (h.2.2 y hy).keep hr2
    · rw [List.mem_singleton.1 hy]; exact hx.keep hr2
  · have h1 : Only (fun i => i = r ∨ B ≤ i) w w6 := ((Only.alloc _ w o)).then (.of_grown hg (fun j hj => .inr (by obtain ⟨cur, _, h2⟩ := own_blk3 h.2.1 hj; exact h2)))
    exact h1.then ((Only.setCell w6 r 0 v6).mono (fun i hi => .inl hi))
theorem Bld.kept {w w6 : World} {r B : Nat} {v : Value} {rs : List Rw} {o : Obj} (h : Bld w r B v rs) (hg : (w.alloc o).grownBy w6 v.ownBlock) (j : Nat) (ob : Obj) (hj : w.heap[j]? = some ob) (hno : ∀ cur : Array Value, ob ≠ Obj.cells cur 89 (0, 0)) : w6.heap[j]? = some ob := by
  have hlt := lt_of_get hj
  rw [hg.block j (by rw [World.size_alloc]; omega) (fun e => by
    obtain ⟨cur, h2, _⟩ := own_blk3 h.2.1 e.symm
    rw [hj] at h2
    exact hno cur (Option.some.inj h2)), Below.heap_alloc _ _ _ hlt]
  exact hj
theorem info89 : (Try.prog.info? 89).map (fun i => (i.zero.map (·.cells.size), i.size, i.bytes)) = some (some 3, 3, 40) := by kernel_rfl
/-- append of rows to a row of one's own. -/
theorem app3_run {W : World} {B n : Nat} {v u : Value} {xs : List Value} {qs : List Rw} (ho : W.ownsRow B 89 3 v n xs) (h : Sr W u qs) (hl : n + qs.length ≤ 1000000) (hB : B ≤ W.heap.size) (ty : TypeId) :
    ∃ v' w', (Builtin.append_ #[43, 43] ty #[v, u]).run Try.prog W = .ok v' w' ∧ w'.ownsRow B 89 3 v' (n + qs.length) (xs ++ cells3 qs) ∧ W.grownBy w' v.ownBlock := by
  obtain ⟨i0, hi, hz0, hz1, hz2⟩ : ∃ i0, Try.prog.info? 89 = some i0 ∧ (∃ z, i0.zero = some z ∧ z.cells.size = 3) ∧ i0.size = 3 ∧ i0.bytes = 40 := by
    have := info89
    cases hi : Try.prog.info? 89 with
    | none => rw [hi] at this; cases this
    | some i0 =>
      rw [hi] at this
      simp only [Option.map_some, Option.some.injEq, Prod.mk.injEq, Option.map_eq_some_iff] at this
      exact ⟨i0, rfl, this.1, this.2.1, this.2.2⟩
  obtain ⟨z, hz, hz3⟩ := hz0
  obtain ⟨a, c, rfl, h1, h2, h3, h4⟩ := h
  cases a with
  | none =>
    obtain rfl := h1 rfl
    have h0 : qs = [] := by
      cases qs with
      | nil => rfl
      | cons q qs => simp at h2
    subst h0
    refine ⟨v, W, run_append_owned_none W B 43 ty 89 i0 3 Try.underlying43 hi v n _ ho, by simpa [cells3_nil] using ho, ⟨rfl, rfl, rfl, Nat.le_refl _, fun _ _ _ => rfl⟩⟩
  | some ad =>
    obtain ⟨v', w', e1, e2, e3, _⟩ := run_append_own (P := Try.prog) W B 43 ty 89 i0 z 3 40 Try.underlying43 hi hz hz1 hz2 hz3 (by decide) v n xs ho ad qs.length c (cells3 qs) (cells3_len qs)
      (fun j u hu => by
        have hj : 0 < qs.length := by
          cases qs with
          | nil => simp [cells3_nil] at hu
          | cons => simp
        obtain ⟨g, o, cur, fr, h5, h6, h7⟩ := h4 hj
        obtain rfl := Option.some.inj h5
        have hadd : (⟨g, o, none⟩ : Addr).add j = ⟨g, o + j, none⟩ := by unfold Addr.add; split <;> simp_all
        rw [hadd]
        exact h7 j u hu) (cells3_one qs) (by unfold maxLen; omega) (by omega) hB
    exact ⟨v', w', e1, e2, e3⟩
theorem sr_new (W : World) (x : Rw) : Sr (W.alloc (.cells #[.int .i64 x.key, .int .i64 x.acc, .slice x.a x.ns.length x.cap] 89)) (.slice (some ⟨W.heap.size, 0, none⟩) 1 1) [x] := by
  refine ⟨_, 1, rfl, (fun e => by cases e), Nat.le_refl _, by decide, fun _ => ⟨W.heap.size, 0, _, _, rfl, Go.heap_alloc_new W _, fun j u hu => ?_⟩⟩
  rw [cell_of_row _ _ _ _ _ _ (Go.heap_alloc_new W _), Nat.zero_add]
  simp only [cells3, List.flatMap_cons, List.flatMap_nil, List.append_nil, Rw.cells] at hu
  simpa using hu
end Go.Proofs.Ytghpbhcnblninaa.tbl.ref
