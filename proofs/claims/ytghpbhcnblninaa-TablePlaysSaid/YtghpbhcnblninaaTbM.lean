/- Tables in memory: a struct of a map and eight counts; the map's cells; what a store and a delete leave. -/
import Derived.Test.YtghpbhcnblninaaTbP
import Derived.Test.YtghpbhcnblninaaGrC
import Derived.Test.YtghpbhcnblninaaByF
import Derived.Maps.RangeWalk
import Derived.Laws.IdiomRangeMap
import Derived.Deep.DrawnRows
namespace Go.Proofs.Ytghpbhcnblninaa.tbl
set_option linter.unusedSimpArgs false
set_option linter.unusedVariables false
open Go.RowKit
open Go.Proofs.Ytghpbhcnblninaa.grp (gof gof_in fits fits_wf IRow intV below_on' below_made)

/-- Of what was there nothing has turned but these blocks. -/
structure Only (F : Nat → Prop) (w w' : World) : Prop where
  os : w'.os = w.os
  tape : w'.tape = w.tape
  output : w'.output = w.output
  size : w.heap.size ≤ w'.heap.size
  block : ∀ k, k < w.heap.size → ¬ F k → w'.heap[k]? = w.heap[k]?
theorem Only.refl (F : Nat → Prop) (w : World) : Only F w w := ⟨rfl, rfl, rfl, Nat.le_refl _, fun _ _ _ => rfl⟩
theorem Only.mono {F G : Nat → Prop} {w w' : World} (h : Only F w w') (hF : ∀ k, F k → G k) : Only G w w' := ⟨h.os, h.tape, h.output, h.size, fun k hk hn => h.block k hk fun hf => hn (hF k hf)⟩
/-- Then others, of which those that were there at first may turn. -/
theorem Only.trans {F G : Nat → Prop} {a b c : World} (h : Only F a b) (k : Only G b c) (hG : ∀ k, G k → k < a.heap.size → F k) : Only F a c :=
  ⟨k.os.trans h.os, k.tape.trans h.tape, k.output.trans h.output, Nat.le_trans h.size k.size, fun i hi hn => (k.block i (Nat.lt_of_lt_of_le hi h.size) fun hg => hn (hG i hg hi)).trans (h.block i hi hn)⟩
theorem Only.then {F : Nat → Prop} {a b c : World} (h : Only F a b) (k : Only F b c) : Only F a c := h.trans k fun _ h _ => h
theorem Only.of_below {F : Nat → Prop} {w w' : World} (h : Below w.heap.size w w') : Only F w w' := ⟨h.os, h.tape, h.output, h.size, fun k hk _ => h.block k hk⟩
theorem Only.on {F : Nat → Prop} {a b c : World} (h : Only F a b) (k : Below b.heap.size b c) : Only F a c := h.then (.of_below k)
theorem Only.below {F : Nat → Prop} {w w' : World} {B : Nat} (h : Only F w w') (hB : B ≤ w.heap.size) (hF : ∀ k, F k → B ≤ k) : Below B w w' :=
  ⟨h.os, h.tape, h.output, h.size, fun k hk => h.block k (by omega) fun hf => by have := hF k hf; omega⟩
theorem Only.fresh {F : Nat → Prop} {w w' : World} (h : Only F w w') (hF : ∀ k, F k → w.heap.size ≤ k) : Below w.heap.size w w' := h.below (Nat.le_refl _) hF
theorem Only.setCell (w : World) (b o : Nat) (v : Value) : Only (· = b) w (w.setCell ⟨b, o, none⟩ v) :=
  ⟨rfl, rfl, rfl, by simp [World.setCell], fun k _ hk => Below.heap_setCell _ _ _ _ hk⟩
theorem Only.alloc (F : Nat → Prop) (w : World) (o : Obj) : Only F w (w.alloc o) := ⟨rfl, rfl, rfl, by simp, fun k hk _ => Below.heap_alloc w o k hk⟩
theorem Only.of_grown {F : Nat → Prop} {w w' : World} {row : Option Nat} (h : w.grownBy w' row) (hF : ∀ k, row = some k → F k) : Only F w w' :=
  ⟨h.os, h.tape, h.output, h.size, fun k hk hn => h.block k hk fun e => hn (hF k e.symm)⟩

/-- Numbers that a slice reads, in a row of numbers. -/
def NR (w : World) (a : Option Addr) (l : List Int) : Prop :=
  0 < l.length → ∃ g o cur fr, a = some ⟨g, o, none⟩ ∧ w.heap[g]? = some (.cells cur 2 fr) ∧ ∀ i (h : i < l.length), cur[o + i]? = some (.int .i64 l[i])
/-- Rows of numbers stay. -/
def Rows2 (w w' : World) : Prop := ∀ (g : Nat) (cur : Array Value) (fr : Nat × Nat), w.heap[g]? = some (.cells cur 2 fr) → w'.heap[g]? = some (.cells cur 2 fr)
theorem Rows2.refl (w : World) : Rows2 w w := fun _ _ _ h => h
theorem Rows2.trans {a b c : World} (h : Rows2 a b) (k : Rows2 b c) : Rows2 a c := fun g cur fr hg => k g cur fr (h g cur fr hg)
theorem lt_of_get {w : World} {g : Nat} {o : Obj} (h : w.heap[g]? = some o) : g < w.heap.size := (Array.getElem?_eq_some_iff.1 h).1
theorem Rows2.of_below {w w' : World} (h : Below w.heap.size w w') : Rows2 w w' := fun g cur fr hg => (h.block g (lt_of_get hg)).trans hg
theorem Rows2.of_only {F : Nat → Prop} {w w' : World} (h : Only F w w') (hF : ∀ g cur fr, F g → w.heap[g]? ≠ some (.cells cur 2 fr)) : Rows2 w w' :=
  fun g cur fr hg => (h.block g (lt_of_get hg) fun hf => hF g cur fr hf hg).trans hg
theorem NR.keep {w w' : World} {a : Option Addr} {l : List Int} (h : NR w a l) (hr : Rows2 w w') : NR w' a l := fun hl => by
  obtain ⟨g, o, cur, fr, h1, h2, h3⟩ := h hl
  exact ⟨g, o, cur, fr, h1, hr g cur fr h2, h3⟩
theorem NR.nil (w : World) (a : Option Addr) : NR w a [] := fun h => by simp at h
theorem NR.rd {w : World} {a : Option Addr} {l : List Int} (h : NR w a l) : byt.Rd w w.heap.size a l := fun hl => by
  obtain ⟨g, o, cur, fr, rfl, h2, h3⟩ := h (by cases l with | nil => exact absurd rfl hl | cons => simp)
  exact ⟨g, o, rfl, lt_of_get h2, fun j hj => by rw [cell_of_row w g (o + j) _ _ _ h2, h3 j hj]; simp [List.getD_eq_getElem?_getD, hj]⟩
theorem NR.irow {w : World} {a : Option Addr} {l : List Int} {c : Nat} (h : NR w a l) : IRow w (.slice a l.length c) l :=
  ⟨a, c, rfl, fun hl => by
    obtain ⟨g, o, cur, fr, rfl, h2, h3⟩ := h hl
    exact ⟨g, o, rfl, lt_of_get h2, fun i hi => by rw [cell_of_row w g (o + i) _ _ _ h2]; exact h3 i hi⟩⟩
/-- The same, and a slice that is nil has no room. -/
def NA (w : World) (a : Option Addr) (cap : Nat) (l : List Int) : Prop := NR w a l ∧ (a = none → cap = 0)
theorem NA.keep {w w' : World} {a : Option Addr} {cap : Nat} {l : List Int} (h : NA w a cap l) (hr : Rows2 w w') : NA w' a cap l := ⟨h.1.keep hr, h.2⟩
theorem NA.nil (w : World) : NA w none 0 [] := ⟨NR.nil w none, fun _ => rfl⟩
theorem NR.own {w : World} {B n : Nat} {v : Value} {l : List Int} (h : w.ownsRow B 2 1 v n (l.map intV)) : n = l.length ∧ ∃ a cap, v = .slice a l.length cap ∧ NA w a cap l := by
  have hn : n = l.length := by have := h.1; simpa using this.symm
  subst hn
  refine ⟨rfl, ?_⟩
  rcases h.2 with ⟨rfl, h0⟩ | ⟨g, cap, cur, rfl, _, hb, h1, h2, h3, h4⟩
  · exact ⟨.none, 0, by rw [h0], fun h1 => by omega, fun _ => rfl⟩
  · refine ⟨_, cap, rfl, fun _ => ⟨g, 0, cur, _, rfl, hb, fun i hi => ?_⟩, fun e => by cases e⟩
    have h5 : (cur.toList.take (l.length * 1))[i]? = (l.map intV)[i]? := by rw [h4]
    rw [List.getElem?_take_of_lt (by omega)] at h5
    rw [Nat.zero_add, ← Array.getElem?_toList, h5]
    simp [hi, intV]

/-- A cell as a value. -/
abbrev Cv := Int × Option Addr × Nat × Nat
def mkC (c : Cv) : Value := .agg #[.int .i64 c.1, .slice c.2.1 c.2.2.1 c.2.2.2]
def isC : Value → Bool
  | .agg cs => match cs.toList with
    | [.int .i64 _, .slice _ _ _] => true
    | _ => false
  | _ => false
theorem isC_inv {v : Value} (h : isC v = true) : ∃ c, v = mkC c := by
  unfold isC at h
  split at h
  · rename_i cs
    split at h
    · rename_i x a n c hc
      refine ⟨(x, a, n, c), ?_⟩
      unfold mkC
      congr 1
      exact Array.toList_inj.1 hc
    · cases h
  · cases h
theorem isC_mk (c : Cv) : isC (mkC c) = true := rfl
/-- How a cell reads: as itself. -/
def RH (v : Value) : Option (DataW Value × List MemPlace) := if isC v = true then some (.held v, []) else none
theorem RH_mk (c : Cv) : RH (mkC c) = some (.held (mkC c), []) := by unfold RH; rw [if_pos (isC_mk c)]
theorem RH_inv {v : Value} {y : DataW Value × List MemPlace} (h : RH v = some y) : ∃ c, v = mkC c ∧ y = (.held (mkC c), []) := by
  unfold RH at h
  split at h
  · rename_i hc
    obtain ⟨c, rfl⟩ := isC_inv hc
    exact ⟨c, rfl, (Option.some.inj h).symm⟩
  · cases h
theorem key64 : Maps.Keyed Try.prog 2 := Maps.int_keyed Try.underlying2
def kl (k : Int) : Lit := .int .i64 k
theorem fits_key {k : Int} (h : fits k) : (Lit.int .i64 k).wf = true := by
  obtain ⟨h1, h2⟩ := h
  simp [Lit.wf, IntKind.min, IntKind.max, IntKind.signed, IntKind.bits]
  omega
theorem key_of {k : Int} (h : fits k) : keyOf Try.prog 2 (.int .i64 k) = some (kl k) := Maps.keyOf_int_mk Try.underlying2 (fits_key h)
theorem key_is (k : Int) : WideAt.IsKeyLit (kl k) := trivial
theorem kl_ne {a b : Int} (h : a ≠ b) : kl a ≠ kl b := fun e => h (by unfold kl at e; injection e)
/-- What the map has of a key. -/
def CellAt (w : World) (D : DataW Value) (L : Rows) (k : Int) : Prop :=
  match look L k with
  | none => Maps.has D (kl k) = false
  | some c => ∃ a cap, NA w a cap c.2 ∧ Maps.has D (kl k) = true ∧ ∀ z, D.atKey (kl k) z = .held (mkC (c.1, a, c.2.length, cap))
def TabM (w : World) (b : Nat) (L : Rows) : Prop :=
  ∃ D, w.ownsMap Try.prog 2 RH b L.length D ∧ Maps.size D = L.length ∧ ∀ k, fits k → CellAt w D L k
/-- A table's own block. -/
def tabC (b : Nat) (f : Nat → Int) : Array Value := #[.map (some b), .int .i64 (f 0), .int .i64 (f 1), .int .i64 (f 2), .int .i64 (f 3), .int .i64 (f 4), .int .i64 (f 5), .int .i64 (f 6), .int .i64 (f 7)]
def TabO (w : World) (t b : Nat) (f : Nat → Int) : Prop := w.heap[t]? = some (.cells (tabC b f) 68 (0, 0))
def cntF (L : Rows) (g : Nat) : Int := (cnt L (g : Int) : Nat)
structure IsTab (w : World) (t b : Nat) (L : Rows) : Prop where
  good : Good L
  obj : TabO w t b (cntF L)
  map : TabM w b L
theorem CellAt.keep {w w' : World} {D : DataW Value} {L : Rows} {k : Int} (h : CellAt w D L k) (hr : Rows2 w w') : CellAt w' D L k := by
  unfold CellAt at h ⊢
  split
  · rename_i hk; rw [hk] at h; exact h
  · rename_i c hk
    rw [hk] at h
    obtain ⟨a, cap, h1, h2, h3⟩ := h
    exact ⟨a, cap, h1.keep hr, h2, h3⟩
theorem TabM.isMap {w : World} {b : Nat} {L : Rows} (h : TabM w b L) : ∃ es clock, w.heap[b]? = some (.map es clock) := by
  obtain ⟨D, ⟨es, clock, hb, _⟩, _⟩ := h
  exact ⟨es, clock, hb⟩
theorem TabM.keep {w w' : World} {b : Nat} {L : Rows} (h : TabM w b L) (hb : w'.heap[b]? = w.heap[b]?) (hr : Rows2 w w') : TabM w' b L := by
  obtain ⟨D, ⟨es, clock, h1, h2⟩, h3, h4⟩ := h
  exact ⟨D, ⟨es, clock, hb.trans h1, h2⟩, h3, fun k hk => (h4 k hk).keep hr⟩
theorem IsTab.keep {w w' : World} {t b : Nat} {L : Rows} (h : IsTab w t b L) (ht : w'.heap[t]? = w.heap[t]?) (hb : w'.heap[b]? = w.heap[b]?) (hr : Rows2 w w') : IsTab w' t b L :=
  ⟨h.good, ht.trans h.obj, h.map.keep hb hr⟩
theorem IsTab.lt {w : World} {t b : Nat} {L : Rows} (h : IsTab w t b L) : t < w.heap.size ∧ b < w.heap.size ∧ t ≠ b := by
  obtain ⟨es, clock, hb⟩ := h.map.isMap
  refine ⟨lt_of_get h.obj, lt_of_get hb, fun e => ?_⟩
  have := h.obj
  unfold TabO at this
  rw [e, hb] at this
  cases this
theorem IsTab.below {w w' : World} {t b : Nat} {L : Rows} (h : IsTab w t b L) (hb : Below w.heap.size w w') : IsTab w' t b L :=
  h.keep (hb.block t h.lt.1) (hb.block b h.lt.2.1) (.of_below hb)
/-- A table's two blocks. -/
def Two (t b : Nat) (i : Nat) : Prop := i = t ∨ i = b
theorem IsTab.rows {w w' : World} {t b : Nat} {L : Rows} (h : IsTab w t b L) (ho : Only (Two t b) w w') : Rows2 w w' := by
  refine .of_only ho fun g cur fr hg he => ?_
  obtain ⟨es, clock, hb⟩ := h.map.isMap
  rcases hg with rfl | rfl
  · have := h.obj
    unfold TabO at this
    rw [this] at he; cases he
  · rw [hb] at he; cases he
/-- Another table stays. -/
theorem IsTab.other {w w' : World} {t b t' b' : Nat} {L U : Rows} (h : IsTab w t b L) (h' : IsTab w t' b' U) (ho : Only (Two t b) w w') (hne : t' ≠ t ∧ b' ≠ b) : IsTab w' t' b' U := by
  obtain ⟨es, clock, hb⟩ := h.map.isMap
  obtain ⟨es', clock', hb'⟩ := h'.map.isMap
  have h1 := h.obj
  have h2 := h'.obj
  unfold TabO at h1 h2
  refine h'.keep (ho.block _ h'.lt.1 ?_) (ho.block _ h'.lt.2.1 ?_) (h.rows ho)
  · rintro (e | e)
    · exact hne.1 e
    · rw [e, hb] at h2; cases h2
  · rintro (e | e)
    · rw [e, h1] at hb'; cases hb'
    · exact hne.2 e
/-- The counts' cells. -/
theorem TabO.cells {w : World} {t b : Nat} {f : Nat → Int} (h : TabO w t b f) : w.cell? ⟨t, 0, none⟩ = some (.map (some b)) ∧ (∀ n, n < 8 → w.cell? ⟨t, 1 + n, none⟩ = some (.int .i64 (f n))) ∧ ∀ o, w.frozen? ⟨t, o, none⟩ = false := by
  refine ⟨by rw [cell_of_row w t 0 _ _ _ h]; rfl, fun n hn => ?_, fun o => frozen_of_row w t o _ _ h⟩
  rw [cell_of_row w t (1 + n) _ _ _ h]
  match n, hn with
  | 0, _ | 1, _ | 2, _ | 3, _ | 4, _ | 5, _ | 6, _ | 7, _ => rfl
  | n + 8, hn => exact absurd hn (by omega)
def updF (f : Nat → Int) (n : Nat) (x : Int) (i : Nat) : Int := if i = n then x else f i
theorem TabO.set {w : World} {t b : Nat} {f : Nat → Int} (h : TabO w t b f) {n : Nat} (hn : n < 8) (x : Int) : TabO (w.setCell ⟨t, 1 + n, none⟩ (.int .i64 x)) t b (updF f n x) := by
  unfold TabO
  rw [heap_setCell_same w t (1 + n) _ _ _ h]
  congr 2
  match n, hn with
  | 0, _ | 1, _ | 2, _ | 3, _ | 4, _ | 5, _ | 6, _ | 7, _ => rfl
  | n + 8, hn => exact absurd hn (by omega)
theorem TabO.congr {w : World} {t b : Nat} {f g : Nat → Int} (h : TabO w t b f) (e : ∀ n, n < 8 → f n = g n) : TabO w t b g := by
  unfold TabO at *
  rw [h]
  congr 2
  unfold tabC
  rw [e 0 (by omega), e 1 (by omega), e 2 (by omega), e 3 (by omega), e 4 (by omega), e 5 (by omega), e 6 (by omega), e 7 (by omega)]
theorem TabO.keep {w w' : World} {t b : Nat} {f : Nat → Int} (h : TabO w t b f) (ht : w'.heap[t]? = w.heap[t]?) : TabO w' t b f := ht.trans h
theorem zeroC (w : World) : (zeroValue 32).run Try.prog w = .ok (mkC (0, none, 0, 0)) w := by kernel_rfl
/-- What a look into the map gives. -/
theorem TabM.look_yes {w : World} {b : Nat} {L : Rows} (h : TabM w b L) {k : Int} (hk : fits k) {c : Cl} (hc : look L k = some c) : ∃ a cap, NA w a cap c.2 ∧
    (Instr.lookup 65 (.map (some b)) (.int .i64 k) true).run Try.prog w = .ok (.tuple #[mkC (c.1, a, c.2.length, cap), .bool true]) w ∧
    (Instr.lookup 65 (.map (some b)) (.int .i64 k) false).run Try.prog w = .ok (mkC (c.1, a, c.2.length, cap)) w := by
  obtain ⟨D, ho, hs, hD⟩ := h
  have := hD k hk
  unfold CellAt at this
  rw [hc] at this
  obtain ⟨a, cap, h1, h2, h3⟩ := this
  obtain ⟨v, ps, hr, hv⟩ := ho.look_ok key64 Try.underlying65 (zeroC w) (RH_mk _) (key_of hk)
  obtain ⟨v', ps', hr', hv'⟩ := ho.lookup key64 Try.underlying65 (zeroC w) (RH_mk _) (key_of hk)
  rw [h3] at hv hv'
  obtain ⟨c1, rfl, e1⟩ := RH_inv hv
  obtain ⟨c2, rfl, e2⟩ := RH_inv hv'
  simp only [Prod.mk.injEq, DataW.held.injEq] at e1 e2
  rw [h2, ← e1.1] at hr
  rw [← e2.1] at hr'
  exact ⟨a, cap, h1, hr, hr'⟩
theorem TabM.look_no {w : World} {b : Nat} {L : Rows} (h : TabM w b L) {k : Int} (hk : fits k) (hc : look L k = none) :
    (Instr.lookup 65 (.map (some b)) (.int .i64 k) true).run Try.prog w = .ok (.tuple #[mkC (0, none, 0, 0), .bool false]) w := by
  obtain ⟨D, ho, hs, hD⟩ := h
  have := hD k hk
  unfold CellAt at this
  rw [hc] at this
  obtain ⟨v, ps, hr, hv⟩ := ho.look_ok key64 Try.underlying65 (zeroC w) (RH_mk _) (key_of hk)
  rw [Maps.atKey_of_not_has this] at hv
  obtain ⟨c1, rfl, e1⟩ := RH_inv hv
  simp only [Prod.mk.injEq, DataW.held.injEq] at e1
  rw [this, ← e1.1] at hr
  exact hr
theorem own_tight {w : World} {b n : Nat} {D : DataW Value} (h : w.ownsMap Try.prog 2 RH b n D) : w.ownsMap Try.prog 2 RH b (Maps.size D) D := by
  obtain ⟨es, clock, hb, F, hs, rfl⟩ := h
  exact ⟨es, clock, hb, F, by simp [Maps.size, length_sorted], rfl⟩
theorem has_look {w : World} {D : DataW Value} {L : Rows} {k : Int} (h : CellAt w D L k) : Maps.has D (kl k) = (look L k).isSome := by
  unfold CellAt at h
  split at h
  · rename_i hk; rw [h, hk]; rfl
  · rename_i c hk; obtain ⟨_, _, _, h2, _⟩ := h; rw [h2, hk]; rfl
theorem len_put {L : Rows} (h : Ord L) (k : Int) (c : Cl) : (putL L k c).length = if look L k = none then L.length + 1 else L.length := by
  have e := cnt_all (putL L k c)
  have e' := cnt_all L
  rw [e]
  simp only [cnt_put h]
  have hg := gof_in k
  by_cases hn : look L k = none
  · rw [if_pos hn]
    simp only [hn, true_and]
    obtain h | h | h | h | h | h | h | h : gof k = 0 ∨ gof k = 1 ∨ gof k = 2 ∨ gof k = 3 ∨ gof k = 4 ∨ gof k = 5 ∨ gof k = 6 ∨ gof k = 7 := by omega
    all_goals (rw [h]; simp; omega)
  · rw [if_neg hn]
    simp only [hn, false_and, if_false]
    omega
theorem len_del {L : Rows} (h : Ord L) {k : Int} {c : Cl} (hc : look L k = some c) : L.length = (delL L k).length + 1 := by
  have e := cnt_all (delL L k)
  have e' := cnt_all L
  simp only [cnt_del h hc] at e'
  have hg := gof_in k
  obtain h | h | h | h | h | h | h | h : gof k = 0 ∨ gof k = 1 ∨ gof k = 2 ∨ gof k = 3 ∨ gof k = 4 ∨ gof k = 5 ∨ gof k = 6 ∨ gof k = 7 := by omega
  all_goals (rw [h] at e'; simp at e'; omega)
theorem rows_setBlock {w : World} {b : Nat} {es : Array MapEntry} {clock : Nat} (hb : w.heap[b]? = some (.map es clock)) {w' : World} (hg : w.grownBy w' (some b)) : Rows2 w w' := fun g cur fr h => by
  refine (hg.block g (lt_of_get h) fun e => ?_).trans h
  obtain rfl := Option.some.inj e
  rw [hb] at h; cases h
/-- A store. -/
theorem TabM.store {w : World} {b : Nat} {L : Rows} (h : TabM w b L) (hL : Good L) {k : Int} (hk : fits k) {c : Cl} {a : Option Addr} {cap : Nat} (ha : NA w a cap c.2) :
    ∃ w', (Instr.mapUpdate 65 (.map (some b)) (.int .i64 k) (mkC (c.1, a, c.2.length, cap))).run Try.prog w = .ok () w' ∧ TabM w' b (putL L k c) ∧ w.grownBy w' (some b) := by
  obtain ⟨es, clock, hb⟩ := h.isMap
  obtain ⟨D, ho, hs, hD⟩ := h
  obtain ⟨w', hr, h1, h2⟩ := ho.update key64 Try.underlying65 (by have := hL.len; unfold maxLen; omega) (key_of hk) (RH_mk (c.1, a, c.2.length, cap))
  have hrows := rows_setBlock hb h2
  have hsz : Maps.size (D.put (kl k) (.held (mkC (c.1, a, c.2.length, cap)))) = (putL L k c).length := by
    rw [Maps.size_put (ho.tidy key64), has_look (hD k hk), len_put hL.ord, hs]
    cases look L k <;> rfl
  refine ⟨w', hr, ⟨_, by rw [← hsz]; exact own_tight h1, hsz, fun x hx => ?_⟩, h2⟩
  unfold CellAt
  rw [look_put]
  by_cases hkx : k = x
  · subst hkx
    rw [if_pos rfl]
    exact ⟨a, cap, ha.keep hrows, Maps.has_put_same ho.isMap (key_is k) _, fun z => Maps.atKey_put_same ho.isMap (key_is k) _ z⟩
  · rw [if_neg hkx]
    have := (hD x hx).keep hrows
    unfold CellAt at this
    split
    · rename_i hl; rw [hl] at this; rw [Maps.has_put_other (kl_ne (Ne.symm hkx))]; exact this
    · rename_i c' hl
      rw [hl] at this
      obtain ⟨a', cap', h3, h4, h5⟩ := this
      exact ⟨a', cap', h3, by rw [Maps.has_put_other (kl_ne (Ne.symm hkx))]; exact h4, fun z => by rw [Maps.atKey_put_other (kl_ne (Ne.symm hkx))]; exact h5 z⟩
/-- A delete. -/
theorem TabM.drop {w : World} {b : Nat} {L : Rows} (h : TabM w b L) (hL : Good L) {k : Int} (hk : fits k) {c : Cl} (hc : look L k = some c) (ty : TypeId) :
    ∃ w', (Builtin.delete_ #[65, 2] ty #[.map (some b), .int .i64 k]).run Try.prog w = .ok (.tuple #[]) w' ∧ TabM w' b (delL L k) ∧ w.grownBy w' (some b) ∧ w'.heap.size = w.heap.size := by
  obtain ⟨es, clock, hb⟩ := h.isMap
  obtain ⟨D, ho, hs, hD⟩ := h
  obtain ⟨w', hr, h1, h2⟩ := ho.drop key64 Try.underlying65 (key_of hk) ty
  have hg := h2.grown
  have hrows := rows_setBlock hb hg
  have hsz : Maps.size (D.del (kl k)) = (delL L k).length := by
    have h3 := Maps.size_del (k := kl k) (ho.tidy key64)
    rw [has_look (hD k hk), hc, hs, len_del hL.ord hc] at h3
    simp at h3
    omega
  refine ⟨w', hr, ⟨_, by rw [← hsz]; exact own_tight h1, hsz, fun x hx => ?_⟩, hg, by obtain ⟨_, _, _, _, _, rfl⟩ := h2; simp [ChangeMaps.setBlock]⟩
  unfold CellAt
  rw [look_del]
  by_cases hkx : k = x
  · subst hkx
    rw [if_pos rfl]
    exact Maps.has_del_same
  · rw [if_neg hkx]
    have := (hD x hx).keep hrows
    unfold CellAt at this
    split
    · rename_i hl; rw [hl] at this; rw [Maps.has_del_other (kl_ne (Ne.symm hkx))]; exact this
    · rename_i c' hl
      rw [hl] at this
      obtain ⟨a', cap', h3, h4, h5⟩ := this
      exact ⟨a', cap', h3, by rw [Maps.has_del_other (kl_ne (Ne.symm hkx))]; exact h4, fun z => by rw [Maps.atKey_del_other (kl_ne (Ne.symm hkx))]; exact h5 z⟩
theorem TabM.made (w : World) : TabM (w.alloc (.map #[] 0)) w.heap.size [] :=
  ⟨_, World.ownsMap_made _ _ _ _, rfl, fun k hk => rfl⟩
end Go.Proofs.Ytghpbhcnblninaa.tbl
