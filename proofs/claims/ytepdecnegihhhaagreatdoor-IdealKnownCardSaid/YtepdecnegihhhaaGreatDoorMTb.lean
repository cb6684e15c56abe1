/- Plain facts on tables: keys in order, each with a cell. No program in this .. -/
import Derived.Test.YtepdecnegihhhaaGreatDoorMGr
import Derived.Test.YtepdecnegihhhaaGreatDoorMBy
import Derived.Maps.RangeWalk
import Derived.Laws.IdiomRangeMap
import Derived.Deep.DrawnRows
import Derived.BigQuiet
import Derived.Test.YtepdecnegihhhaaGreatDoorDkR
import Derived.Deep.RegionHeld
import Derived.Handy
import Derived.Deep.RegionWith
set_option linter.unusedSimpArgs false
set_option linter.unusedVariables false
namespace Go.Proofs.YtepdecnegihhhaaGreatDoor.tbl
section
open grp (gof gof_in fits)
abbrev Cl := Int × List Int
abbrev Rows := List (Int × Cl)
def lessB (a b : Int) : Bool := decide (gof a < gof b) || (decide (gof a = gof b) && decide (a < b))
theorem less_iff {a b : Int} : lessB a b = true ↔ gof a < gof b ∨ (gof a = gof b ∧ a < b) := by simp [lessB]
theorem less_self (a : Int) : lessB a a = false := by simp [lessB]
theorem less_trans {a b c : Int} (h : lessB a b = true) (k : lessB b c = true) : lessB a c = true := by
 rw [less_iff] at *; omega
theorem less_tri (a b : Int) : lessB a b = true ∨ a = b ∨ lessB b a = true := by
 rw [less_iff, less_iff]
 by_cases h : gof a = gof b
 · rcases Int.lt_trichotomy a b with h1 | h1 | h1
   · exact .inl (.inr ⟨h, h1⟩)
   · exact .inr (.inl h1)
   · exact .inr (.inr (.inr ⟨h.symm, h1⟩))
 · omega
theorem less_ne {a b : Int} (h : lessB a b = true) : a ≠ b := fun e => by rw [e, less_self] at h; cases h
theorem less_asymm {a b : Int} (h : lessB a b = true) : lessB b a = false := by
 cases hb : lessB b a with
 | false => rfl
 | true => have := less_trans h hb; rw [less_self] at this; cases this
theorem less_not {a b : Int} (h : lessB a b = false) (hne : a ≠ b) : lessB b a = true := by
 rcases less_tri a b with h1 | h1 | h1
 · rw [h] at h1; cases h1
 · exact absurd h1 hne
 · exact h1
def Ord (L : Rows) : Prop := L.Pairwise (fun p q => lessB p.1 q.1 = true)
def look (L : Rows) (k : Int) : Option Cl := (L.find? (fun p => decide (p.1 = k))).map Prod.snd
theorem look_nil (k : Int) : look [] k = none := rfl
theorem look_cons (p : Int × Cl) (L : Rows) (k : Int) : look (p :: L) k = if p.1 = k then some p.2 else look L k := by
 unfold look
 by_cases h : p.1 = k
 · simp [List.find?, h]
 · simp [List.find?, h]
theorem mem_look {L : Rows} {k : Int} {c : Cl} (h : look L k = some c) : (k, c) ∈ L := by
 induction L with
 | nil => cases h
 | cons p L ih =>
  rw [look_cons] at h
  split at h
  · rename_i hp
    injection h with h
    rw [← hp, ← h]
    exact List.mem_cons_self ..
  · exact List.mem_cons_of_mem _ (ih h)
theorem look_none {L : Rows} {k : Int} : look L k = none ↔ ∀ p ∈ L, p.1 ≠ k := by
 induction L with
 | nil => simp [look_nil]
 | cons p L ih =>
  rw [look_cons]
  by_cases h : p.1 = k
  · simp [h]
  · rw [if_neg h, ih]; simp [h]
theorem look_mem {L : Rows} (h : Ord L) {p : Int × Cl} (hp : p ∈ L) : look L p.1 = some p.2 := by
 induction L with
 | nil => cases hp
 | cons q L ih =>
  obtain ⟨h1, h2⟩ := List.pairwise_cons.1 h
  rw [look_cons]
  rcases List.mem_cons.1 hp with rfl | hp
  · rw [if_pos rfl]
  · rw [if_neg (less_ne (h1 p hp))]
    exact ih h2 hp
def cnt (L : Rows) (g : Int) : Nat := (L.filter (fun p => decide (gof p.1 = g))).length
theorem cnt_nil (g : Int) : cnt [] g = 0 := rfl
theorem cnt_cons (p : Int × Cl) (L : Rows) (g : Int) : cnt (p :: L) g = cnt L g + (if gof p.1 = g then 1 else 0) := by
 unfold cnt
 by_cases h : gof p.1 = g <;> simp [h]
theorem cnt_all (L : Rows) : L.length = cnt L 0 + cnt L 1 + cnt L 2 + cnt L 3 + cnt L 4 + cnt L 5 + cnt L 6 + cnt L 7 := by
 induction L with
 | nil => rfl
 | cons p L ih =>
  simp only [List.length_cons, cnt_cons]
  have := gof_in p.1
  obtain h | h | h | h | h | h | h | h : gof p.1 = 0 ∨ gof p.1 = 1 ∨ gof p.1 = 2 ∨ gof p.1 = 3 ∨ gof p.1 = 4 ∨ gof p.1 = 5 ∨ gof p.1 = 6 ∨ gof p.1 = 7 := by omega
  all_goals (rw [h]; simp; omega)
theorem cnt_le (L : Rows) (g : Int) : cnt L g ≤ L.length := List.length_filter_le _ _
def putL : Rows → Int → Cl → Rows
 | [], k, c => [(k, c)]
 | p :: L, k, c => if lessB p.1 k = true then p :: putL L k c else if p.1 = k then (k, c) :: L else (k, c) :: p :: L
theorem look_put (L : Rows) (k : Int) (c : Cl) (x : Int) : look (putL L k c) x = if k = x then some c else look L x := by
 induction L with
 | nil => simp [putL, look_cons, look_nil]
 | cons p L ih =>
  unfold putL
  by_cases h : lessB p.1 k = true
  · rw [if_pos h, look_cons, ih, look_cons]
    by_cases hk : k = x
    · have := less_ne h
      rw [if_pos hk, if_neg (by rw [← hk]; exact this), if_pos hk]
    · rw [if_neg hk, if_neg hk]
  · rw [if_neg h]
    by_cases hp : p.1 = k
    · rw [if_pos hp, look_cons, look_cons]
      by_cases hk : k = x
      · simp [hk]
      · simp [hk, hp]
    · rw [if_neg hp, look_cons]
theorem mem_put {L : Rows} {k : Int} {c : Cl} {p : Int × Cl} (h : p ∈ putL L k c) : p = (k, c) ∨ p ∈ L := by
 induction L with
 | nil => simpa [putL] using h
 | cons q L ih =>
  unfold putL at h
  split at h
  · rcases List.mem_cons.1 h with rfl | h
    · exact .inr (List.mem_cons_self ..)
    · rcases ih h with h | h
      · exact .inl h
      · exact .inr (List.mem_cons_of_mem _ h)
  · split at h
    · rcases List.mem_cons.1 h with h | h
      · exact .inl h
      · exact .inr (List.mem_cons_of_mem _ h)
    · rcases List.mem_cons.1 h with h | h
      · exact .inl h
      · exact .inr h
theorem ord_put {L : Rows} (h : Ord L) (k : Int) (c : Cl) : Ord (putL L k c) := by
 induction L with
 | nil => exact List.pairwise_singleton _ _
 | cons p L ih =>
  obtain ⟨h1, h2⟩ := List.pairwise_cons.1 h
  unfold putL
  by_cases hl : lessB p.1 k = true
  · rw [if_pos hl]
    refine List.pairwise_cons.2 ⟨fun q hq => ?_, ih h2⟩
    rcases mem_put hq with rfl | hq
    · exact hl
    · exact h1 q hq
  · rw [if_neg hl]
    by_cases hp : p.1 = k
    · rw [if_pos hp]
      exact List.pairwise_cons.2 ⟨fun q hq => by rw [← hp]; exact h1 q hq, h2⟩
    · rw [if_neg hp]
      have h3 := less_not (by simpa using hl) hp
      refine List.pairwise_cons.2 ⟨fun q hq => ?_, h⟩
      rcases List.mem_cons.1 hq with rfl | hq
      · exact h3
      · exact less_trans h3 (h1 q hq)
theorem cnt_put {L : Rows} (h : Ord L) (k : Int) (c : Cl) (g : Int) : cnt (putL L k c) g = if look L k = none ∧ gof k = g then cnt L g + 1 else cnt L g := by
 induction L with
 | nil => by_cases hg : gof k = g <;> simp [putL, cnt_cons, cnt_nil, look_nil, hg]
 | cons p L ih =>
  obtain ⟨h1, h2⟩ := List.pairwise_cons.1 h
  unfold putL
  by_cases hl : lessB p.1 k = true
  · rw [if_pos hl, cnt_cons, ih h2, look_cons, if_neg (less_ne hl), cnt_cons]
    split <;> omega
  · rw [if_neg hl]
    by_cases hp : p.1 = k
    · rw [if_pos hp, look_cons, if_pos hp, cnt_cons, cnt_cons, hp]
      simp
    · rw [if_neg hp]
      have h3 := less_not (by simpa using hl) hp
      have h4 : look (p :: L) k = none := look_none.2 (fun q hq e => by
       rcases List.mem_cons.1 hq with rfl | hq
       · exact hp e
       · have := less_trans h3 (h1 q hq)
         rw [e, less_self] at this; cases this)
      rw [h4, cnt_cons]
      by_cases hg : gof k = g <;> simp [hg]
structure Fine (c : Cl) : Prop where
 acc : fits c.1
 all : ∀ x ∈ c.2, fits x
 few : c.2.length ≤ 16
structure Good (L : Rows) : Prop where
 ord : Ord L
 key : ∀ p ∈ L, fits p.1
 cell : ∀ p ∈ L, Fine p.2
 full : ∀ g, cnt L g ≤ 40
theorem Good.nil : Good [] := ⟨List.Pairwise.nil, by simp, by simp, by simp [cnt_nil]⟩
theorem Good.len {L : Rows} (h : Good L) : L.length ≤ 320 := by
 have := cnt_all L
 have := h.full 0; have := h.full 1; have := h.full 2; have := h.full 3; have := h.full 4; have := h.full 5; have := h.full 6; have := h.full 7
 omega
theorem Good.fine {L : Rows} (h : Good L) {k : Int} {c : Cl} (hc : look L k = some c) : fits k ∧ Fine c := ⟨h.key _ (mem_look hc), h.cell _ (mem_look hc)⟩
theorem Good.put {L : Rows} (h : Good L) {k : Int} {c : Cl} (hk : fits k) (hc : Fine c) (hr : look L k = none → cnt L (gof k) < 40) : Good (putL L k c) where
 ord := ord_put h.ord k c
 key p hp := by rcases mem_put hp with rfl | hp; exact hk; exact h.key p hp
 cell p hp := by rcases mem_put hp with rfl | hp; exact hc; exact h.cell p hp
 full g := by
  rw [cnt_put h.ord]
  split
  · rename_i hg; have := hr hg.1; rw [hg.2] at this; omega
  · exact h.full g
def putO (L : Rows) (k : Int) (c : Cl) : Int × Rows := if 16 < c.2.length then (2, L) else if look L k = none ∧ 40 ≤ cnt L (gof k) then (7, L) else (0, putL L k c)
def numsL (L : Rows) : List Int := (L.length : Int) :: L.flatMap (fun p => p.1 :: p.2.1 :: (p.2.2.length : Int) :: p.2.2)
end
section
open Go.RowKit
open grp (gof gof_in fits fits_wf IRow intV below_on' below_made)
structure Only (F : Nat → Prop) (w w' : World) : Prop where
 os : w'.os = w.os
 tape : w'.tape = w.tape
 output : w'.output = w.output
 size : w.heap.size ≤ w'.heap.size
 block : ∀ k, k < w.heap.size → ¬ F k → w'.heap[k]? = w.heap[k]?
theorem Only.refl (F : Nat → Prop) (w : World) : Only F w w := ⟨rfl, rfl, rfl, Nat.le_refl _, fun _ _ _ => rfl⟩
theorem Only.mono {F G : Nat → Prop} {w w' : World} (h : Only F w w') (hF : ∀ k, F k → G k) : Only G w w' := ⟨h.os, h.tape, h.output, h.size, fun k hk hn => h.block k hk fun hf => hn (hF k hf)⟩
theorem Only.trans {F G : Nat → Prop} {a b c : World} (h : Only F a b) (k : Only G b c) (hG : ∀ k, G k → k < a.heap.size → F k) : Only F a c :=
 ⟨k.os.trans h.os, k.tape.trans h.tape, k.output.trans h.output, Nat.le_trans h.size k.size, fun i hi hn => (k.block i (Nat.lt_of_lt_of_le hi h.size) fun hg => hn (hG i hg hi)).trans (h.block i hi hn)⟩
theorem Only.then {F : Nat → Prop} {a b c : World} (h : Only F a b) (k : Only F b c) : Only F a c := h.trans k fun _ h _ => h
theorem Only.of_below {F : Nat → Prop} {w w' : World} (h : Below w.heap.size w w') : Only F w w' := ⟨h.os, h.tape, h.output, h.size, fun k hk _ => h.block k hk⟩
theorem Only.on {F : Nat → Prop} {a b c : World} (h : Only F a b) (k : Below b.heap.size b c) : Only F a c := h.then (.of_below k)
theorem Only.below {F : Nat → Prop} {w w' : World} {B : Nat} (h : Only F w w') (hB : B ≤ w.heap.size) (hF : ∀ k, F k → B ≤ k) : Below B w w' :=
 ⟨h.os, h.tape, h.output, h.size, fun k hk => h.block k (by omega) fun hf => by have := hF k hf; omega⟩
theorem Only.setCell (w : World) (b o : Nat) (v : Value) : Only (· = b) w (w.setCell ⟨b, o, none⟩ v) :=
 ⟨rfl, rfl, rfl, by simp [World.setCell], fun k _ hk => Below.heap_setCell _ _ _ _ hk⟩
theorem Only.alloc (F : Nat → Prop) (w : World) (o : Obj) : Only F w (w.alloc o) := ⟨rfl, rfl, rfl, by simp, fun k hk _ => Below.heap_alloc w o k hk⟩
theorem Only.of_grown {F : Nat → Prop} {w w' : World} {row : Option Nat} (h : w.grownBy w' row) (hF : ∀ k, row = some k → F k) : Only F w w' :=
 ⟨h.os, h.tape, h.output, h.size, fun k hk hn => h.block k hk fun e => hn (hF k e.symm)⟩
def NR (w : World) (a : Option Addr) (l : List Int) : Prop :=
 0 < l.length → ∃ g o cur fr, a = some ⟨g, o, none⟩ ∧ w.heap[g]? = some (.cells cur 2 fr) ∧ ∀ i (h : i < l.length), cur[o + i]? = some (.int .i64 l[i])
def Rows2 (w w' : World) : Prop := ∀ (g : Nat) (cur : Array Value) (fr : Nat × Nat), w.heap[g]? = some (.cells cur 2 fr) → w'.heap[g]? = some (.cells cur 2 fr)
theorem lt_of_get {w : World} {g : Nat} {o : Obj} (h : w.heap[g]? = some o) : g < w.heap.size := (Array.getElem?_eq_some_iff.1 h).1
theorem Rows2.of_below {w w' : World} (h : Below w.heap.size w w') : Rows2 w w' := fun g cur fr hg => (h.block g (lt_of_get hg)).trans hg
theorem Rows2.of_only {F : Nat → Prop} {w w' : World} (h : Only F w w') (hF : ∀ g cur fr, F g → w.heap[g]? ≠ some (.cells cur 2 fr)) : Rows2 w w' :=
 fun g cur fr hg => (h.block g (lt_of_get hg) fun hf => hF g cur fr hf hg).trans hg
theorem NR.keep {w w' : World} {a : Option Addr} {l : List Int} (h : NR w a l) (hr : Rows2 w w') : NR w' a l := fun hl => by
 obtain ⟨g, o, cur, fr, h1, h2, h3⟩ := h hl
 exact ⟨g, o, cur, fr, h1, hr g cur fr h2, h3⟩
theorem NR.nil (w : World) (a : Option Addr) : NR w a [] := fun h => by simp at h
theorem NR.rd {w : World} {a : Option Addr} {l : List Int} (h : NR w a l) : byt.Rd w w.heap.size a l := fun hl => by
 obtain ⟨g, o, cur, fr, rfl, h2, h3⟩ := h (by cases l with | nil => exact absurd rfl hl | cons => simp)
 exact ⟨g, o, rfl, lt_of_get h2, fun j hj => by rw [cell_of_row w g (o + j) _ _ _ h2, h3 j hj]; simp [List.getD_eq_getElem?_getD, hj]⟩
def NA (w : World) (a : Option Addr) (cap : Nat) (l : List Int) : Prop := NR w a l ∧ (a = none → cap = 0)
theorem NA.keep {w w' : World} {a : Option Addr} {cap : Nat} {l : List Int} (h : NA w a cap l) (hr : Rows2 w w') : NA w' a cap l := ⟨h.1.keep hr, h.2⟩
theorem NA.nil (w : World) : NA w none 0 [] := ⟨NR.nil w none, fun _ => rfl⟩
theorem NR.own {w : World} {B n : Nat} {v : Value} {l : List Int} (h : w.ownsRow B 2 1 v n (l.map intV)) : n = l.length ∧ ∃ a cap, v = .slice a l.length cap ∧ NA w a cap l := by
 have hn : n = l.length := by have := h.1; simpa using this.symm
 subst hn
 refine ⟨rfl, ?_⟩
 rcases h.2 with ⟨rfl, h0⟩ | ⟨g, cap, cur, rfl, _, hb, h1, h2, h3, h4⟩
 · exact ⟨.none, 0, by rw [h0], fun h1 => by omega, fun _ => rfl⟩
 · refine ⟨_, cap, rfl, fun _ => ⟨g, 0, cur, _, rfl, hb, fun i hi => ?_⟩, fun e => by cases e⟩
   have h5 : (cur.toList.take (l.length * 1))[i]? = (l.map intV)[i]? := by rw [h4]
   rw [List.getElem?_take_of_lt (by omega)] at h5
   rw [Nat.zero_add, ← Array.getElem?_toList, h5]
   simp [hi, intV]
abbrev Cv := Int × Option Addr × Nat × Nat
def mkC (c : Cv) : Value := .agg #[.int .i64 c.1, .slice c.2.1 c.2.2.1 c.2.2.2]
def isC : Value → Bool
 | .agg cs => match cs.toList with
  | [.int .i64 _, .slice _ _ _] => true
  | _ => false
 | _ => false
theorem isC_inv {v : Value} (h : isC v = true) : ∃ c, v = mkC c := by
 unfold isC at h
 split at h
 · rename_i cs
   split at h
   · rename_i x a n c hc
     refine ⟨(x, a, n, c), ?_⟩
     unfold mkC
     congr 1
     exact Array.toList_inj.1 hc
   · cases h
 · cases h
theorem isC_mk (c : Cv) : isC (mkC c) = true := rfl
def RH (v : Value) : Option (DataW Value × List MemPlace) := if isC v = true then some (.held v, []) else none
theorem RH_mk (c : Cv) : RH (mkC c) = some (.held (mkC c), []) := by unfold RH; rw [if_pos (isC_mk c)]
theorem RH_inv {v : Value} {y : DataW Value × List MemPlace} (h : RH v = some y) : ∃ c, v = mkC c ∧ y = (.held (mkC c), []) := by
 unfold RH at h
 split at h
 · rename_i hc
   obtain ⟨c, rfl⟩ := isC_inv hc
   exact ⟨c, rfl, (Option.some.inj h).symm⟩
 · cases h
theorem key64 : Maps.Keyed Tryz.prog 2 := Maps.int_keyed Tryz.underlying2
def kl (k : Int) : Lit := .int .i64 k
theorem fits_key {k : Int} (h : fits k) : (Lit.int .i64 k).wf = true := by
 obtain ⟨h1, h2⟩ := h
 simp [Lit.wf, IntKind.min, IntKind.max, IntKind.signed, IntKind.bits]
 omega
theorem key_of {k : Int} (h : fits k) : keyOf Tryz.prog 2 (.int .i64 k) = some (kl k) := Maps.keyOf_int_mk Tryz.underlying2 (fits_key h)
theorem key_is (k : Int) : WideAt.IsKeyLit (kl k) := trivial
theorem kl_ne {a b : Int} (h : a ≠ b) : kl a ≠ kl b := fun e => h (by unfold kl at e; injection e)
def CellAt (w : World) (D : DataW Value) (L : Rows) (k : Int) : Prop :=
 match look L k with
 | none => Maps.has D (kl k) = false
 | some c => ∃ a cap, NA w a cap c.2 ∧ Maps.has D (kl k) = true ∧ ∀ z, D.atKey (kl k) z = .held (mkC (c.1, a, c.2.length, cap))
def TabM (w : World) (b : Nat) (L : Rows) : Prop :=
 ∃ D, w.ownsMap Tryz.prog 2 RH b L.length D ∧ Maps.size D = L.length ∧ ∀ k, fits k → CellAt w D L k
def tabC (b : Nat) (f : Nat → Int) : Array Value := #[.map (some b), .int .i64 (f 0), .int .i64 (f 1), .int .i64 (f 2), .int .i64 (f 3), .int .i64 (f 4), .int .i64 (f 5), .int .i64 (f 6), .int .i64 (f 7)]
def TabO (w : World) (t b : Nat) (f : Nat → Int) : Prop := w.heap[t]? = some (.cells (tabC b f) 84 (0, 0))
def cntF (L : Rows) (g : Nat) : Int := (cnt L (g : Int) : Nat)
structure IsTab (w : World) (t b : Nat) (L : Rows) : Prop where
 good : Good L
 obj : TabO w t b (cntF L)
 map : TabM w b L
theorem CellAt.keep {w w' : World} {D : DataW Value} {L : Rows} {k : Int} (h : CellAt w D L k) (hr : Rows2 w w') : CellAt w' D L k := by
 unfold CellAt at h ⊢
 split
 · rename_i hk; rw [hk] at h; exact h
 · rename_i c hk
   rw [hk] at h
   obtain ⟨a, cap, h1, h2, h3⟩ := h
   exact ⟨a, cap, h1.keep hr, h2, h3⟩
theorem TabM.isMap {w : World} {b : Nat} {L : Rows} (h : TabM w b L) : ∃ es clock, w.heap[b]? = some (.map es clock) := by
 obtain ⟨D, ⟨es, clock, hb, _⟩, _⟩ := h
 exact ⟨es, clock, hb⟩
theorem TabM.keep {w w' : World} {b : Nat} {L : Rows} (h : TabM w b L) (hb : w'.heap[b]? = w.heap[b]?) (hr : Rows2 w w') : TabM w' b L := by
 obtain ⟨D, ⟨es, clock, h1, h2⟩, h3, h4⟩ := h
 exact ⟨D, ⟨es, clock, hb.trans h1, h2⟩, h3, fun k hk => (h4 k hk).keep hr⟩
theorem IsTab.keep {w w' : World} {t b : Nat} {L : Rows} (h : IsTab w t b L) (ht : w'.heap[t]? = w.heap[t]?) (hb : w'.heap[b]? = w.heap[b]?) (hr : Rows2 w w') : IsTab w' t b L :=
 ⟨h.good, ht.trans h.obj, h.map.keep hb hr⟩
theorem IsTab.lt {w : World} {t b : Nat} {L : Rows} (h : IsTab w t b L) : t < w.heap.size ∧ b < w.heap.size ∧ t ≠ b := by
 obtain ⟨es, clock, hb⟩ := h.map.isMap
 refine ⟨lt_of_get h.obj, lt_of_get hb, fun e => ?_⟩
 have := h.obj
 unfold TabO at this
 rw [e, hb] at this
 cases this
theorem IsTab.below {w w' : World} {t b : Nat} {L : Rows} (h : IsTab w t b L) (hb : Below w.heap.size w w') : IsTab w' t b L :=
 h.keep (hb.block t h.lt.1) (hb.block b h.lt.2.1) (.of_below hb)
def Two (t b : Nat) (i : Nat) : Prop := i = t ∨ i = b
theorem IsTab.rows {w w' : World} {t b : Nat} {L : Rows} (h : IsTab w t b L) (ho : Only (Two t b) w w') : Rows2 w w' := by
 refine .of_only ho fun g cur fr hg he => ?_
 obtain ⟨es, clock, hb⟩ := h.map.isMap
 rcases hg with rfl | rfl
 · have := h.obj
   unfold TabO at this
   rw [this] at he; cases he
 · rw [hb] at he; cases he
theorem TabO.cells {w : World} {t b : Nat} {f : Nat → Int} (h : TabO w t b f) : w.cell? ⟨t, 0, none⟩ = some (.map (some b)) ∧ (∀ n, n < 8 → w.cell? ⟨t, 1 + n, none⟩ = some (.int .i64 (f n))) ∧ ∀ o, w.frozen? ⟨t, o, none⟩ = false := by
 refine ⟨by rw [cell_of_row w t 0 _ _ _ h]; rfl, fun n hn => ?_, fun o => frozen_of_row w t o _ _ h⟩
 rw [cell_of_row w t (1 + n) _ _ _ h]
 match n, hn with
 | 0, _ | 1, _ | 2, _ | 3, _ | 4, _ | 5, _ | 6, _ | 7, _ => rfl
 | n + 8, hn => exact absurd hn (by omega)
def updF (f : Nat → Int) (n : Nat) (x : Int) (i : Nat) : Int := if i = n then x else f i
theorem TabO.set {w : World} {t b : Nat} {f : Nat → Int} (h : TabO w t b f) {n : Nat} (hn : n < 8) (x : Int) : TabO (w.setCell ⟨t, 1 + n, none⟩ (.int .i64 x)) t b (updF f n x) := by
 unfold TabO
 rw [heap_setCell_same w t (1 + n) _ _ _ h]
 congr 2
 match n, hn with
 | 0, _ | 1, _ | 2, _ | 3, _ | 4, _ | 5, _ | 6, _ | 7, _ => rfl
 | n + 8, hn => exact absurd hn (by omega)
theorem TabO.congr {w : World} {t b : Nat} {f g : Nat → Int} (h : TabO w t b f) (e : ∀ n, n < 8 → f n = g n) : TabO w t b g := by
 unfold TabO at *
 rw [h]
 congr 2
 unfold tabC
 rw [e 0 (by omega), e 1 (by omega), e 2 (by omega), e 3 (by omega), e 4 (by omega), e 5 (by omega), e 6 (by omega), e 7 (by omega)]
theorem TabO.keep {w w' : World} {t b : Nat} {f : Nat → Int} (h : TabO w t b f) (ht : w'.heap[t]? = w.heap[t]?) : TabO w' t b f := ht.trans h
theorem zeroC (w : World) : (zeroValue 77).run Tryz.prog w = .ok (mkC (0, none, 0, 0)) w := by kernel_rfl
theorem TabM.look_yes {w : World} {b : Nat} {L : Rows} (h : TabM w b L) {k : Int} (hk : fits k) {c : Cl} (hc : look L k = some c) : ∃ a cap, NA w a cap c.2 ∧
  (Instr.lookup 81 (.map (some b)) (.int .i64 k) true).run Tryz.prog w = .ok (.tuple #[mkC (c.1, a, c.2.length, cap), .bool true]) w ∧
  (Instr.lookup 81 (.map (some b)) (.int .i64 k) false).run Tryz.prog w = .ok (mkC (c.1, a, c.2.length, cap)) w := by
 obtain ⟨D, ho, hs, hD⟩ := h
 have := hD k hk
 unfold CellAt at this
 rw [hc] at this
 obtain ⟨a, cap, h1, h2, h3⟩ := this
 obtain ⟨v, ps, hr, hv⟩ := ho.look_ok key64 Tryz.underlying81 (zeroC w) (RH_mk _) (key_of hk)
 obtain ⟨v', ps', hr', hv'⟩ := ho.lookup key64 Tryz.underlying81 (zeroC w) (RH_mk _) (key_of hk)
 rw [h3] at hv hv'
 obtain ⟨c1, rfl, e1⟩ := RH_inv hv
 obtain ⟨c2, rfl, e2⟩ := RH_inv hv'
 simp only [Prod.mk.injEq, DataW.held.injEq] at e1 e2
 rw [h2, ← e1.1] at hr
 rw [← e2.1] at hr'
 exact ⟨a, cap, h1, hr, hr'⟩
theorem TabM.look_no {w : World} {b : Nat} {L : Rows} (h : TabM w b L) {k : Int} (hk : fits k) (hc : look L k = none) :
  (Instr.lookup 81 (.map (some b)) (.int .i64 k) true).run Tryz.prog w = .ok (.tuple #[mkC (0, none, 0, 0), .bool false]) w := by
 obtain ⟨D, ho, hs, hD⟩ := h
 have := hD k hk
 unfold CellAt at this
 rw [hc] at this
 obtain ⟨v, ps, hr, hv⟩ := ho.look_ok key64 Tryz.underlying81 (zeroC w) (RH_mk _) (key_of hk)
 rw [Maps.atKey_of_not_has this] at hv
 obtain ⟨c1, rfl, e1⟩ := RH_inv hv
 simp only [Prod.mk.injEq, DataW.held.injEq] at e1
 rw [this, ← e1.1] at hr
 exact hr
theorem own_tight {w : World} {b n : Nat} {D : DataW Value} (h : w.ownsMap Tryz.prog 2 RH b n D) : w.ownsMap Tryz.prog 2 RH b (Maps.size D) D := by
 obtain ⟨es, clock, hb, F, hs, rfl⟩ := h
 exact ⟨es, clock, hb, F, by simp [Maps.size, length_sorted], rfl⟩
theorem has_look {w : World} {D : DataW Value} {L : Rows} {k : Int} (h : CellAt w D L k) : Maps.has D (kl k) = (look L k).isSome := by
 unfold CellAt at h
 split at h
 · rename_i hk; rw [h, hk]; rfl
 · rename_i c hk; obtain ⟨_, _, _, h2, _⟩ := h; rw [h2, hk]; rfl
theorem len_put {L : Rows} (h : Ord L) (k : Int) (c : Cl) : (putL L k c).length = if look L k = none then L.length + 1 else L.length := by
 have e := cnt_all (putL L k c)
 have e' := cnt_all L
 rw [e]
 simp only [cnt_put h]
 have hg := gof_in k
 by_cases hn : look L k = none
 · rw [if_pos hn]
   simp only [hn, true_and]
   obtain h | h | h | h | h | h | h | h : gof k = 0 ∨ gof k = 1 ∨ gof k = 2 ∨ gof k = 3 ∨ gof k = 4 ∨ gof k = 5 ∨ gof k = 6 ∨ gof k = 7 := by omega
   all_goals (rw [h]; simp; omega)
 · rw [if_neg hn]
   simp only [hn, false_and, if_false]
   omega
theorem rows_setBlock {w : World} {b : Nat} {es : Array MapEntry} {clock : Nat} (hb : w.heap[b]? = some (.map es clock)) {w' : World} (hg : w.grownBy w' (some b)) : Rows2 w w' := fun g cur fr h => by
 refine (hg.block g (lt_of_get h) fun e => ?_).trans h
 obtain rfl := Option.some.inj e
 rw [hb] at h; cases h
theorem TabM.store {w : World} {b : Nat} {L : Rows} (h : TabM w b L) (hL : Good L) {k : Int} (hk : fits k) {c : Cl} {a : Option Addr} {cap : Nat} (ha : NA w a cap c.2) :
  ∃ w', (Instr.mapUpdate 81 (.map (some b)) (.int .i64 k) (mkC (c.1, a, c.2.length, cap))).run Tryz.prog w = .ok () w' ∧ TabM w' b (putL L k c) ∧ w.grownBy w' (some b) := by
 obtain ⟨es, clock, hb⟩ := h.isMap
 obtain ⟨D, ho, hs, hD⟩ := h
 obtain ⟨w', hr, h1, h2⟩ := ho.update key64 Tryz.underlying81 (by have := hL.len; unfold maxLen; omega) (key_of hk) (RH_mk (c.1, a, c.2.length, cap))
 have hrows := rows_setBlock hb h2
 have hsz : Maps.size (D.put (kl k) (.held (mkC (c.1, a, c.2.length, cap)))) = (putL L k c).length := by
  rw [Maps.size_put (ho.tidy key64), has_look (hD k hk), len_put hL.ord, hs]
  cases look L k <;> rfl
 refine ⟨w', hr, ⟨_, by rw [← hsz]; exact own_tight h1, hsz, fun x hx => ?_⟩, h2⟩
 unfold CellAt
 rw [look_put]
 by_cases hkx : k = x
 · subst hkx
   rw [if_pos rfl]
   exact ⟨a, cap, ha.keep hrows, Maps.has_put_same ho.isMap (key_is k) _, fun z => Maps.atKey_put_same ho.isMap (key_is k) _ z⟩
 · rw [if_neg hkx]
   have := (hD x hx).keep hrows
   unfold CellAt at this
   split
   · rename_i hl; rw [hl] at this; rw [Maps.has_put_other (kl_ne (Ne.symm hkx))]; exact this
   · rename_i c' hl
     rw [hl] at this
     obtain ⟨a', cap', h3, h4, h5⟩ := this
     exact ⟨a', cap', h3, by rw [Maps.has_put_other (kl_ne (Ne.symm hkx))]; exact h4, fun z => by rw [Maps.atKey_put_other (kl_ne (Ne.symm hkx))]; exact h5 z⟩
theorem TabM.made (w : World) : TabM (w.alloc (.map #[] 0)) w.heap.size [] :=
 ⟨_, World.ownsMap_made _ _ _ _, rfl, fun k hk => rfl⟩
end
section
open Go.RowKit
attribute [local go_sem ↓] Go.wp_at_zero Go.wp_at_succ
open grp (gof gof_in fits fits_wf IRow intV below_on' below_made ret_bool)
def MadeT (B : Nat) (w w' : World) (t b : Nat) (L : Rows) : Prop := IsTab w' t b L ∧ B ≤ t ∧ B ≤ b ∧ Below B w w'
theorem new_any (w : World) : Calls Tryz.prog 14 #[] w fun e w' => ∃ t b, e = .returned (.pointer (some ⟨t, 0, none⟩)) ∧ MadeT w.heap.size w w' t b [] := by
 have hmm := @run_makeMap Tryz.prog
 go_enter Tryz.func14, Tryz.ntmps14
 go_wp2_with fail
 go_ret
 have hb : Below w.heap.size w ((w.alloc (.map #[] 0)).alloc (.cells (tabC w.heap.size (fun _ => 0)) 84)) := ((Below.refl _ w).alloc (Nat.le_refl _) _).alloc (by simp) _
 refine ⟨w.heap.size + 1, w.heap.size, rfl, ⟨Good.nil, ?_, ?_⟩, by omega, by omega, hb⟩
 · have := Go.heap_alloc_new (w.alloc (.map #[] 0)) (.cells (tabC w.heap.size (fun _ => 0)) 84)
   rw [World.size_alloc] at this
   exact this
 · exact (TabM.made w).keep (Below.heap_alloc _ _ _ (by simp)) (.of_below (below_made _ _))
theorem has_any {w : World} {t b : Nat} {L : Rows} (h : IsTab w t b L) {k : Int} (hk : fits k) : Calls Tryz.prog 65 #[.pointer (some ⟨t, 0, none⟩), .int .i64 k] w fun e w' => e = .returned (.bool (look L k).isSome) ∧ Below w.heap.size w w' := by
 have c0 := h.obj.cells.1
 cases hc : look L k with
 | none =>
  have hl := h.map.look_no hk hc
  unfold mkC at hl
  clear h hc
  go_enter Tryz.func65, Tryz.ntmps65
  go_wp2_with fail
  go_ret
  exact ⟨rfl, below_made _ _⟩
 | some c =>
  obtain ⟨a, cap, hn, hl, -⟩ := h.map.look_yes hk hc
  unfold mkC at hl
  clear h hc hn
  go_enter Tryz.func65, Tryz.ntmps65
  go_wp2_with fail
  go_ret
  exact ⟨rfl, below_made _ _⟩
def Sl (w : World) (a : Option Addr) (c : Nat) (l : List Int) : Prop :=
 (a = none → c = 0) ∧ (0 < l.length → ∃ g o, a = some ⟨g, o, none⟩ ∧ g < w.heap.size ∧ ∀ i (h : i < l.length), w.cell? ⟨g, o + i, none⟩ = some (.int .i64 l[i]))
theorem Sl.nil (w : World) : Sl w none 0 [] := ⟨fun _ => rfl, fun h => by simp at h⟩
theorem NA.sl {w : World} {a : Option Addr} {c : Nat} {l : List Int} (h : NA w a c l) : Sl w a c l := ⟨h.2, fun hl => by
 obtain ⟨g, o, cur, fr, rfl, h2, h3⟩ := h.1 hl
 exact ⟨g, o, rfl, lt_of_get h2, fun i hi => by rw [cell_of_row w g (o + i) _ _ _ h2]; exact h3 i hi⟩⟩
theorem Sl.below {w w' : World} {a : Option Addr} {c : Nat} {l : List Int} (h : Sl w a c l) (hb : Below w.heap.size w w') : Sl w' a c l := ⟨h.1, fun hl => by
 obtain ⟨g, o, h1, h2, h3⟩ := h.2 hl
 exact ⟨g, o, h1, Nat.lt_of_lt_of_le h2 hb.size, fun i hi => (hb.cell (p := ⟨g, o + i, none⟩) h2).trans (h3 i hi)⟩⟩
theorem info64 : (Tryz.prog.info? 2).map (fun i => (i.zero, i.size, i.bytes)) = some (some (.int .i64 0), 1, 8) := by kernel_rfl
theorem one_cell (l : List Int) : ∀ u ∈ l.map intV, u.oneCell' = true := by
 intro u hu
 obtain ⟨x, -, rfl⟩ := List.mem_map.1 hu
 rfl
theorem app_run {W : World} {B n : Nat} {v : Value} {a : Option Addr} {c : Nat} {m l : List Int} (ho : W.ownsRow B 2 1 v n (m.map intV)) (h : Sl W a c l) (hl : m.length + l.length ≤ 1000000) (hB : B ≤ W.heap.size) (ty : TypeId) :
  ∃ v' w', (Builtin.append_ #[74, 74] ty #[v, .slice a l.length c]).run Tryz.prog W = .ok v' w' ∧ w'.ownsRow B 2 1 v' (n + l.length) ((m ++ l).map intV) ∧ W.grownBy w' v.ownBlock := by
 obtain ⟨i0, hi, hz0, hz1, hz2⟩ := info_parts info64
 have hn : n = m.length := by have := ho.1; simpa using this.symm
 cases a with
 | none =>
  obtain rfl := h.1 rfl
  have h0 : l = [] := by
   cases l with
   | nil => rfl
   | cons x l => obtain ⟨g, o, h1, _⟩ := h.2 (by simp); cases h1
  subst h0
  refine ⟨v, W, run_append_owned_none W B 74 ty 2 i0 1 Tryz.underlying74 hi v n _ ho, by simpa using ho, ⟨rfl, rfl, rfl, Nat.le_refl _, fun _ _ _ => rfl⟩⟩
 | some ad =>
  obtain ⟨v', w', h1, h2, h3, _⟩ := run_append_own (P := Tryz.prog) W B 74 ty 2 i0 (.int .i64 0) 1 8 Tryz.underlying74 hi hz0 hz1 hz2 rfl (by decide) v n _ ho ad l.length c (l.map intV) (by simp)
   (fun j u hu => by
    have hj : j < l.length := by
     rcases Nat.lt_or_ge j l.length with h1 | h1
     · exact h1
     · rw [List.getElem?_eq_none (by simpa using h1)] at hu; cases hu
    obtain ⟨g, o, h4, h5, h6⟩ := h.2 (by omega)
    obtain rfl := Option.some.inj h4
    have hadd : (⟨g, o, none⟩ : Addr).add j = ⟨g, o + j, none⟩ := by unfold Addr.add; split <;> simp_all
    rw [hadd, h6 j hj, ← hu]
    simp [hj, intV]) (one_cell l) (by unfold maxLen; omega) (by omega) hB
  exact ⟨v', w', h1, by rw [List.map_append]; exact h2, h3⟩
theorem step_app {P : Program} {ops : Array Oper} {o : Oper} {a : Act} {K : Act → World → Prop} {Q : Exit → Act → World → Prop} {E : Prop} {w w' : World} {v u r : Value} (hgd : o.guard = none) (s x : Operand) (t : TypeId)
  (ho : o.op = .call { callee := .builtin .append, args := #[s, x], argTypes := #[t, t] }) (hs : a.eval s = v) (hx : a.eval x = u) (hr : (Builtin.append_ #[t, t] o.type #[v, u]).run P w = .ok r w')
  (h : K (a.put o.dst r) w') : if Region.wanted o (yielded ops a.tmps) = true then Oper.wp P o a w K Q else E := by
 have hw : Region.wanted o (yielded ops a.tmps) = true := by simp [Region.wanted, hgd]
 rw [if_pos hw]
 unfold Oper.wp execOp
 simp only [ho, resolve, invoke, builtin, Sem.run_bind, Sem.run_pure, Result.andThen_ok, List.map_toArray, List.map_cons, List.map_nil, hs, hx, hr]
 exact h
theorem apart_any {w : World} {x : Int} {a : Option Addr} {c : Nat} {l : List Int} (h : Sl w a c l) (hl : l.length ≤ 1000) :
  Calls Tryz.prog 66 #[.agg #[.int .i64 x, .slice a l.length c]] w fun e w' => ∃ a' c', e = .returned (mkC (x, a', l.length, c')) ∧ NA w' a' c' l ∧ Below w.heap.size w w' := by
 have h' : Sl (((w.alloc (.cells #[.int .i64 x, .slice a l.length c] 77)).alloc (.cells #[.int .i64 0, .slice none 0 0] 77)).drew) a c l := h.below ⟨rfl, rfl, rfl, by simp [World.drew]; omega, fun k hk => by
  show ((w.alloc _).alloc _).heap[k]? = _
  rw [Below.heap_alloc _ _ _ (by simp; omega), Below.heap_alloc _ _ _ hk]⟩
 obtain ⟨v', w', hr, ho, hg⟩ := app_run (B := w.heap.size + 2) (n := 0) (m := []) (World.ownsRow_nil _ _ _ _) h' (by simp; omega) (by simp [World.drew]) 74
 obtain ⟨W, hW⟩ : ∃ W, (w.alloc (.cells #[.int .i64 x, .slice a l.length c] 77)).alloc (.cells #[.int .i64 0, .slice none 0 0] 77) = W := ⟨_, rfl⟩
 have hb : Below w.heap.size w W := by rw [← hW]; exact ((Below.refl _ w).alloc (Nat.le_refl _) _).alloc (by simp) _
 have hs : W.heap.size = w.heap.size + 2 := by rw [← hW]; simp
 have h0 : W.heap[w.heap.size]? = some (.cells #[.int .i64 x, .slice a l.length c] 77 (0, 0)) := by
  rw [← hW, Below.heap_alloc _ _ _ (by simp)]; exact Go.heap_alloc_new w _
 have h1 : W.heap[w.heap.size + 1]? = some (.cells #[.int .i64 0, .slice none 0 0] 77 (0, 0)) := by
  have := Go.heap_alloc_new (w.alloc (.cells #[.int .i64 x, .slice a l.length c] 77)) (.cells #[.int .i64 0, .slice none 0 0] 77)
  rw [World.size_alloc, hW] at this; exact this
 rw [hW] at hr hg
 have hg' : Below W.heap.size W w' := (Below.refl _ W).grown (by exact ⟨hg.os, hg.tape, hg.output, hg.size, hg.block⟩) (Nat.le_refl _) (fun k hk => by cases hk)
 obtain ⟨N, hN⟩ : ∃ N, w.heap.size = N := ⟨_, rfl⟩
 rw [hN] at hb hs h0 h1 ho
 have h0' : w'.heap[N]? = some (.cells #[.int .i64 x, .slice a l.length c] 77 (0, 0)) := (hg'.block N (by omega)).trans h0
 have h1' : w'.heap[N + 1]? = some (.cells #[.int .i64 0, .slice none 0 0] 77 (0, 0)) := (hg'.block (N + 1) (by omega)).trans h1
 have c0 : W.cell? ⟨N, 0, none⟩ = some (.int .i64 x) := by rw [cell_of_row W N 0 _ _ _ h0]; rfl
 have c1 : W.cell? ⟨N, 1, none⟩ = some (.slice a l.length c) := by rw [cell_of_row W N 1 _ _ _ h0]; rfl
 have c0' : w'.cell? ⟨N, 0, none⟩ = some (.int .i64 x) := by rw [cell_of_row w' N 0 _ _ _ h0']; rfl
 have c1' : w'.cell? ⟨N, 1, none⟩ = some (.slice a l.length c) := by rw [cell_of_row w' N 1 _ _ _ h0']; rfl
 have d0 : w'.cell? ⟨N + 1, 0, none⟩ = some (.int .i64 0) := by rw [cell_of_row w' (N + 1) 0 _ _ _ h1']; rfl
 have d1 : w'.cell? ⟨N + 1, 1, none⟩ = some (.slice none 0 0) := by rw [cell_of_row w' (N + 1) 1 _ _ _ h1']; rfl
 have f0 : w'.frozen? ⟨N + 1, 0, none⟩ = false := frozen_of_row w' (N + 1) 0 _ _ h1'
 have f1 : w'.frozen? ⟨N + 1, 1, none⟩ = false := frozen_of_row w' (N + 1) 1 _ _ h1'
 rw [Nat.zero_add, List.nil_append] at ho
 obtain ⟨-, a', c', rfl, hna⟩ := NR.own ho
 have HE : Hid (∀ u, ∃ a'' c'', Ending.returned (mkC (x, a', l.length, c')) = Ending.returned (mkC (x, a'', l.length, c'')) ∧ NA ((w'.setCell ⟨N + 1, 0, none⟩ (.int .i64 x)).setCell ⟨N + 1, 1, none⟩ u) a'' c'' l ∧ Below N w ((w'.setCell ⟨N + 1, 0, none⟩ (.int .i64 x)).setCell ⟨N + 1, 1, none⟩ u)) := Lib.hid (fun u => ⟨a', c', rfl, hna.keep (fun g cur fr hgg => by
   have hne : g ≠ N + 1 := fun e => by rw [e, h1'] at hgg; cases hgg
   rw [Below.heap_setCell _ _ _ _ hne, Below.heap_setCell _ _ _ _ hne]; exact hgg), ((hb.trans (hg'.mono (by omega))).setCell (by show N ≤ N + 1; omega) _).setCell (by show N ≤ N + 1; omega) _⟩)
 have HN := Lib.hid h1'
 have HNN := Lib.hid hN
 clear h0 h1 h0' h1' hg' ho hna hg hb h h'
 go_enter Tryz.func66, Tryz.ntmps66
 go_wp2_with fail
 clear hW hN hs
 refine dsk.wp_region_peel2 (by kernel_rfl) (by simp only [List.dropLast_cons_cons, List.dropLast_singleton]; exact rfl) rfl (by kernel_rfl) ?_
 refine wpAny_of_held (S := fun w' => w'.cell? ⟨N, 0, none⟩ = some (.int .i64 x) ∧ w'.cell? ⟨N, 1, none⟩ = some (.slice a l.length c)) _ _ _ _ ?_
 have hHeld := (show W.drew.cell? ⟨N, 0, none⟩ = some (.int .i64 x) ∧ W.drew.cell? ⟨N, 1, none⟩ = some (.slice a l.length c) from ⟨c0, c1⟩)
 refine wpAnyH_take (i := 0) (v := ?v1) rfl (by kernel_rfl) (by kernel_rfl) (by kernel_rfl) (fun _ _ _ h => h) (Or.inl ⟨by rfl, ?hy1⟩) (by assumption) ?rest1
 case hy1 => (intro w0 hSw; (try dsimp only at hSw); go_simp; try with_reducible rfl)
 try simp only [Act.put, List.getElem_toArray, List.getElem_cons_zero, List.getElem_cons_succ, List.setIfInBounds_toArray, List.set_cons_zero, List.set_cons_succ]
 refine wpAnyH_take (i := 1) (v := ?v2) rfl (by kernel_rfl) (by kernel_rfl) (by kernel_rfl) (fun _ _ _ h => h) (Or.inl ⟨by rfl, ?hy2⟩) (by assumption) ?rest2
 case hy2 => (intro w0 hSw; (try dsimp only at hSw); go_simp; try with_reducible rfl)
 try simp only [Act.put, List.getElem_toArray, List.getElem_cons_zero, List.getElem_cons_succ, List.setIfInBounds_toArray, List.set_cons_zero, List.set_cons_succ]
 refine wpAnyH_take (i := 2) (v := ?v3) rfl (by kernel_rfl) (by kernel_rfl) (by kernel_rfl) (fun _ _ _ h => h) (Or.inl ⟨by rfl, ?hy3⟩) (by assumption) ?rest3
 case hy3 => (intro w0 hSw; (try dsimp only at hSw); go_simp; try with_reducible rfl)
 try simp only [Act.put, List.getElem_toArray, List.getElem_cons_zero, List.getElem_cons_succ, List.setIfInBounds_toArray, List.set_cons_zero, List.set_cons_succ]
 refine wpAnyH_take (i := 3) (v := ?v4) rfl (by kernel_rfl) (by kernel_rfl) (by kernel_rfl) (fun _ _ _ h => h) (Or.inl ⟨by rfl, ?hy4⟩) (by assumption) ?rest4
 case hy4 => (intro w0 hSw; (try dsimp only at hSw); go_simp; try with_reducible rfl)
 try simp only [Act.put, List.getElem_toArray, List.getElem_cons_zero, List.getElem_cons_succ, List.setIfInBounds_toArray, List.set_cons_zero, List.set_cons_succ]
 refine wpAnyH_ready (rs := [4]) (by kernel_rfl) (by simp) ?_
 refine AllReadyH.cons rfl (fun KQ hKQ => ?_) AllReadyH.nil
 refine step_app rfl (Operand.const (.slice none 0 0)) (.tmp 6) 74 rfl rfl (by rfl) hr ?_
 refine hKQ.out _ _ ?_ (fun hHeld => ?_)
 · exact ⟨c0', c1'⟩
 clear hKQ KQ
 try simp only [Act.put, List.getElem_toArray, List.getElem_cons_zero, List.getElem_cons_succ, List.setIfInBounds_toArray, List.set_cons_zero, List.set_cons_succ]
 refine wpAnyH_take (i := 5) (v := ?v5) rfl (by kernel_rfl) (by kernel_rfl) (by kernel_rfl) (fun _ _ _ h => h) (Or.inl ⟨by rfl, ?hy5⟩) (by assumption) ?rest5
 case hy5 => (intro w0 hSw; (try dsimp only at hSw); go_simp; try with_reducible rfl)
 try simp only [Act.put, List.getElem_toArray, List.getElem_cons_zero, List.getElem_cons_succ, List.setIfInBounds_toArray, List.set_cons_zero, List.set_cons_succ]
 refine wpAnyH_done (by kernel_rfl) ?_ _
 change wpList _ _ _ _ _ _
 clear hHeld c0 c1 c0' c1' hr
 have h2 : ((w'.setCell ⟨N + 1, 0, none⟩ (.int .i64 x)).setCell ⟨N + 1, 1, none⟩ (.slice a' l.length c')).heap[N + 1]? = some (.cells #[.int .i64 x, .slice a' l.length c'] 77 (0, 0)) := by
  rw [heap_setCell_same _ (N + 1) 1 #[.int .i64 x, .slice none 0 0] 77 _ (by rw [heap_setCell_same w' (N + 1) 0 _ _ _ HN.out]; rfl)]; rfl
 have e0 := cell_of_row _ (N + 1) 0 _ _ _ h2
 have e1 := cell_of_row _ (N + 1) 1 _ _ _ h2
 go_wp2_with fail
 refine bodyPost_ret (v := mkC (x, a', l.length, c')) (by simp [results, Tryz.f66, go_sem, e0, e1, mkC]) rfl ?_
 rw [HNN.out]
 exact HE.out _
end
section
open Go.RowKit
attribute [local go_sem ↓] Go.wp_at_zero Go.wp_at_succ
open grp (gof gof_in fits fits_wf IRow intV below_on' below_made ret_bool)
def PutPost (w : World) (t b : Nat) (L : Rows) (k : Int) (c : Cl) (e : Ending) (w' : World) : Prop :=
 e = .returned (.int .i64 (putO L k c).1) ∧ IsTab w' t b (putO L k c).2 ∧ Only (Two t b) w w'
theorem put_same {w w' : World} {t b : Nat} {L : Rows} {k : Int} {c : Cl} {x : Int} (h : IsTab w t b L) (hO : putO L k c = (x, L)) (hb : Below w.heap.size w w') : PutPost w t b L k c (.returned (.int .i64 x)) w' := by
 unfold PutPost
 rw [hO]
 exact ⟨rfl, h.below hb, .of_below hb⟩
theorem put_done {w w1 w5 w6 : World} {t b : Nat} {L : Rows} {k : Int} {c : Cl} {f : Nat → Int} (h : IsTab w t b L) (hO : putO L k c = (0, putL L k c)) (hk : fits k) (hc : Fine c) (hr : look L k = none → cnt L (gof k) < 40)
  (ht : TabO w1 t b f) (ho : Only (Two t b) w w1) (hf : ∀ n, n < 8 → f n = cntF (putL L k c) n) (hb5 : Below w1.heap.size w1 w5) (hm : TabM w6 b (putL L k c)) (hg : w5.grownBy w6 (some b)) :
  PutPost w t b L k c (.returned (.int .i64 0)) w6 := by
 have hlt := h.lt
 have h5 := ht.keep (w' := w5) (hb5.block t (lt_of_get ht))
 have h6 := h5.keep (w' := w6) (hg.block t (lt_of_get h5) (fun e => hlt.2.2 (Option.some.inj e)))
 unfold PutPost
 rw [hO]
 exact ⟨rfl, ⟨h.good.put hk hc hr, h6.congr hf, hm⟩, (ho.on hb5).then (.of_grown hg (fun i hi => by cases hi; exact .inr rfl))⟩
theorem cnt_same {L : Rows} (h : Ord L) {k : Int} {c : Cl} (hk : look L k ≠ none) (n : Nat) : cntF L n = cntF (putL L k c) n := by
 unfold cntF
 rw [cnt_put h, if_neg (fun e => hk e.1)]
theorem cnt_more {L : Rows} (h : Ord L) {k : Int} {c : Cl} (hk : look L k = none) {g m : Nat} (hg : gof k = (g : Int)) (hm : cnt L g = m) (n : Nat) : updF (cntF L) g ((m : Int) + 1) n = cntF (putL L k c) n := by
 unfold cntF updF
 rw [cnt_put h]
 by_cases hn : n = g
 · subst hn
   rw [if_pos rfl, if_pos ⟨hk, hg⟩, hm]
   omega
 · rw [if_neg hn, if_neg (fun e => hn (by have := e.2; rw [hg] at this; omega))]
theorem undrew {w w' : World} (h : Below w.drew.heap.size w.drew w') : Below w.heap.size w w' := ⟨h.os, h.tape, h.output, h.size, h.block⟩
set_option maxHeartbeats 1600000 in
set_option maxRecDepth 1000000 in
theorem put_any {w : World} {t b : Nat} {L : Rows} (h : IsTab w t b L) {k : Int} (hk : fits k) {x : Int} {ns : List Int} (hx : fits x) (hns : ∀ y ∈ ns, fits y) {a : Option Addr} {cap : Nat} (hs : Sl w a cap ns) (hat : 0 < ns.length → ∀ ad, a = some ad → ad.block ≠ t) (hl : ns.length ≤ 1000) :
  Calls Tryz.prog 36 #[.pointer (some ⟨t, 0, none⟩), .int .i64 k, .agg #[.int .i64 x, .slice a ns.length cap]] w (PutPost w t b L k (x, ns)) := by
 obtain ⟨l, hln⟩ : ∃ l, ns.length = l := ⟨_, rfl⟩
 have HLN := Lib.hid hln
 by_cases h16 : 16 < ns.length
 · have HF : Hid (∀ w', Below w.heap.size w w' → PutPost w t b L k (x, ns) (.returned (.int .i64 2)) w') := Lib.hid (fun w' hb => put_same h (by unfold putO; rw [if_pos h16]) hb)
   rw [hln] at h16 ⊢
   clear h hs hat hk hln hx hns
   go_enter Tryz.func36, Tryz.ntmps36
   go_wp2_with fail
   go_ret
   exact HF.out _ (below_made _ _)
 · have hb0 : Below w.heap.size w (w.alloc (.cells #[.int .i64 x, .slice a l cap] 77)) := below_made _ _
   have HOF := Lib.hid (fun w => grp.of_any k w hk)
   obtain ⟨N, hN⟩ : ∃ N, w.heap.size = N := ⟨_, rfl⟩
   have h00 : (w.alloc (.cells #[.int .i64 x, .slice a l cap] 77)).heap[N]? = some (.cells #[.int .i64 x, .slice a l cap] 77 (0, 0)) := by rw [← hN]; exact Go.heap_alloc_new w _
   obtain ⟨W0, hW0⟩ : ∃ W, w.alloc (.cells #[.int .i64 x, .slice a l cap] 77) = W := ⟨_, rfl⟩
   rw [hW0] at hb0 h00
   have HB0 := Lib.hid hb0
   have H00 := Lib.hid h00
   have HHAS := Lib.hid (has_any (h.below hb0) hk)
   have HH := Lib.hid h
   have HG := Lib.hid h.good
   have HK := Lib.hid hk
   have HSL := Lib.hid hs
   have HAT := Lib.hid hat
   have HFI : Hid (Fine (x, ns)) := Lib.hid ⟨hx, hns, by simp; omega⟩
   have HL16 : Hid (¬ 16 < ns.length) := Lib.hid h16
   have hO : ¬ (look L k = none ∧ 40 ≤ cnt L (gof k)) → putO L k (x, ns) = (0, putL L k (x, ns)) := fun hn => by unfold putO; rw [if_neg h16, if_neg hn]
   have HO := Lib.hid hO
   rw [hln] at h16 ⊢
   have hz1 : W0.cell? ⟨N, 1, none⟩ = some (.slice a l cap) := by rw [cell_of_row W0 N 1 _ _ _ h00]; rfl
   have h16i : ¬ (16 < (l : Int)) := by omega
   clear h hs hat hk hln hb0 h00 hO hx hns h16
   cases hlk : look L k with
   | some c0 =>
    have HLK : Hid (look L k ≠ none) := Lib.hid (by rw [hlk]; simp)
    rw [hlk] at HHAS
    clear hlk
    go_enter Tryz.func36, Tryz.ntmps36
    go_wp2_with fail
    refine (HOF.out _).mono ?_
    rintro e w1 ⟨rfl, rfl⟩
    go_wp2_with fail
    refine HHAS.out.mono ?_
    rintro e w1 ⟨rfl, hb1⟩
    have HH1 := Lib.hid ((HH.out.below HB0.out).below hb1)
    have hb01 := HB0.out.trans (hb1.mono HB0.out.size)
    have HB1 := Lib.hid hb01
    have h01 : w1.heap[N]? = some (.cells #[.int .i64 x, .slice a l cap] 77 (0, 0)) := (hb1.block N (lt_of_get H00.out)).trans H00.out
    have HNL := Lib.hid (lt_of_get h01)
    have hx0 := cell_of_row w1 N 0 _ _ _ h01
    have hx1 := cell_of_row w1 N 1 _ _ _ h01
    have HT := Lib.hid HH1.out.obj
    have HM := Lib.hid HH1.out.map
    have HBL := Lib.hid HH1.out.lt.2.1
    have HAP := Lib.hid (apart_any (w := w1.drew) (x := x) (HSL.out.below hb01.drew) (by rw [HLN.out]; omega))
    rw [HLN.out] at HAP
    have HFIN : Hid (∀ w5 w6, Below w1.heap.size w1 w5 → TabM w6 b (putL L k (x, ns)) → w5.grownBy w6 (some b) → PutPost w t b L k (x, ns) (.returned (.int .i64 0)) w6) := Lib.hid (fun w5 w6 hb5 hm6 hg6 =>
     put_done HH.out (HO.out (fun e => HLK.out e.1)) HK.out HFI.out (fun e => absurd e HLK.out) HH1.out.obj (.of_below HB1.out) (fun n _ => cnt_same HG.out.ord HLK.out n) hb5 hm6 hg6)
    clear hb1 hb01 h01
    simp only [List.getElem?_toArray, List.getElem?_cons_zero, List.getElem?_cons_succ] at hx0 hx1
    have ht0 := HT.out.cells.1
    go_wp2_with fail
    refine dsk.wp_region_peel2 (by kernel_rfl) (by simp only [List.dropLast_cons_cons, List.dropLast_singleton]; exact rfl) rfl (by kernel_rfl) ?_
    refine wpAny_of_held (S := fun w' => w'.cell? ⟨t, 0, none⟩ = some (.map (some b)) ∧ w'.cell? ⟨N, 0, none⟩ = some (.int .i64 x) ∧ w'.cell? ⟨N, 1, none⟩ = some (.slice a l cap)) _ _ _ _ ?_
    have hHeld := (show w1.drew.cell? ⟨t, 0, none⟩ = some (.map (some b)) ∧ w1.drew.cell? ⟨N, 0, none⟩ = some (.int .i64 x) ∧ w1.drew.cell? ⟨N, 1, none⟩ = some (.slice a l cap) from ⟨HT.out.cells.1, hx0, hx1⟩)
    refine wpAnyH_take (i := 0) (v := ?v1) rfl (by kernel_rfl) (by kernel_rfl) (by kernel_rfl) (fun _ _ _ h => h) (Or.inl ⟨by rfl, ?hy1⟩) (by assumption) ?rest1
    case hy1 => (intro w0 hSw; (try dsimp only at hSw); go_simp; try with_reducible rfl)
    try simp only [Act.put, List.getElem_toArray, List.getElem_cons_zero, List.getElem_cons_succ, List.setIfInBounds_toArray, List.set_cons_zero, List.set_cons_succ]
    refine wpAnyH_take (i := 1) (v := ?v2) rfl (by kernel_rfl) (by kernel_rfl) (by kernel_rfl) (fun _ _ _ h => h) (Or.inl ⟨by rfl, ?hy2⟩) (by assumption) ?rest2
    case hy2 => (intro w0 hSw; (try dsimp only at hSw); go_simp; try with_reducible rfl)
    try simp only [Act.put, List.getElem_toArray, List.getElem_cons_zero, List.getElem_cons_succ, List.setIfInBounds_toArray, List.set_cons_zero, List.set_cons_succ]
    refine wpAnyH_take (i := 2) (v := ?v3) rfl (by kernel_rfl) (by kernel_rfl) (by kernel_rfl) (fun _ _ _ h => h) (Or.inl ⟨by rfl, ?hy3⟩) (by assumption) ?rest3
    case hy3 => (intro w0 hSw; (try dsimp only at hSw); go_simp; try with_reducible rfl)
    try simp only [Act.put, List.getElem_toArray, List.getElem_cons_zero, List.getElem_cons_succ, List.setIfInBounds_toArray, List.set_cons_zero, List.set_cons_succ]
    refine wpAnyH_take (i := 3) (v := ?v4) rfl (by kernel_rfl) (by kernel_rfl) (by kernel_rfl) (fun _ _ _ h => h) (Or.inl ⟨by rfl, ?hy4⟩) (by assumption) ?rest4
    case hy4 => (intro w0 hSw; (try dsimp only at hSw); go_simp; try with_reducible rfl)
    try simp only [Act.put, List.getElem_toArray, List.getElem_cons_zero, List.getElem_cons_succ, List.setIfInBounds_toArray, List.set_cons_zero, List.set_cons_succ]
    refine wpAnyH_take (i := 4) (v := ?v5) rfl (by kernel_rfl) (by kernel_rfl) (by kernel_rfl) (fun _ _ _ h => h) (Or.inl ⟨by rfl, ?hy5⟩) (by assumption) ?rest5
    case hy5 => (intro w0 hSw; (try dsimp only at hSw); go_simp; try with_reducible rfl)
    try simp only [Act.put, List.getElem_toArray, List.getElem_cons_zero, List.getElem_cons_succ, List.setIfInBounds_toArray, List.set_cons_zero, List.set_cons_succ]
    refine wpAnyH_take (i := 5) (v := ?v6) rfl (by kernel_rfl) (by kernel_rfl) (by kernel_rfl) (fun _ _ _ h => h) (Or.inl ⟨by rfl, ?hy6⟩) (by assumption) ?rest6
    case hy6 => (intro w0 hSw; (try dsimp only at hSw); go_simp; try with_reducible rfl)
    try simp only [Act.put, List.getElem_toArray, List.getElem_cons_zero, List.getElem_cons_succ, List.setIfInBounds_toArray, List.set_cons_zero, List.set_cons_succ]
    refine wpAnyH_ready (rs := [6]) (by kernel_rfl) (by simp) ?_
    refine AllReadyH.cons rfl (fun KQ hKQ => ?_) AllReadyH.nil
    go_simp
    refine HAP.out.mono ?_
    rintro e w5 ⟨a5, cap5, rfl, hna5, hb5⟩
    have hb5 := undrew hb5
    have HT5 := Lib.hid (HT.out.keep (w' := w5) (hb5.block t (lt_of_get HT.out)))
    have hm5 := HM.out.keep (w' := w5) (hb5.block b HBL.out) (.of_below hb5)
    have hy0 : w5.cell? ⟨N, 0, none⟩ = some (.int .i64 x) := (hb5.cell (p := ⟨N, 0, none⟩) HNL.out).trans hx0
    have hy1 : w5.cell? ⟨N, 1, none⟩ = some (.slice a l cap) := (hb5.cell (p := ⟨N, 1, none⟩) HNL.out).trans hx1
    refine hKQ.out _ _ ?_ (fun hHeld => ?_)
    · exact ⟨HT5.out.cells.1, hy0, hy1⟩
    clear hKQ KQ
    try simp only [Act.put, List.getElem_toArray, List.getElem_cons_zero, List.getElem_cons_succ, List.setIfInBounds_toArray, List.set_cons_zero, List.set_cons_succ]
    refine wpAnyH_done (by kernel_rfl) ?_ _
    change wpList _ _ _ _ _ _
    obtain ⟨w6, hst, hm6, hg6⟩ := hm5.store HG.out HK.out (c := (x, ns)) hna5
    have HF := Lib.hid (HFIN.out w5 w6 hb5 hm6 hg6)
    clear hna5 hb5 hm6 hg6 hy0 hy1 hx0 hx1 hHeld hm5
    rw [HLN.out] at hst
    dsimp only at hst ⊢
    go_wp2_with fail
    go_ret
    exact HF.out
   | none =>
    have HLK : Hid (look L k = none) := Lib.hid hlk
    rw [hlk] at HHAS
    clear hlk
    obtain ⟨gi, hgi, hg8⟩ : ∃ n : Nat, gof k = (n : Int) ∧ n < 8 := ⟨(gof k).toNat, by have := gof_in k; omega, by have := gof_in k; omega⟩
    obtain ⟨m, hm⟩ : ∃ m, cnt L gi = m := ⟨_, rfl⟩
    have HGI := Lib.hid hgi
    have HM0 := Lib.hid hm
    have hm40 : m ≤ 40 := by rw [← hm]; exact HG.out.full _
    have hg8i : (gi : Int) < 8 := by omega
    rw [hgi] at HOF
    clear hgi
    by_cases hm4 : m = 40
    · have HF : Hid (∀ w', Below w.heap.size w w' → PutPost w t b L k (x, ns) (.returned (.int .i64 7)) w') := Lib.hid (fun w' hb => put_same HH.out (by
       unfold putO
       rw [if_neg HL16.out, if_pos ⟨HLK.out, by rw [HGI.out, HM0.out]; omega⟩]) hb)
      subst hm4
      go_enter Tryz.func36, Tryz.ntmps36
      go_wp2_with fail
      refine (HOF.out _).mono ?_
      rintro e w1 ⟨rfl, rfl⟩
      go_wp2_with fail
      refine HHAS.out.mono ?_
      rintro e w1 ⟨rfl, hb1⟩
      have HH1 := Lib.hid ((HH.out.below HB0.out).below hb1)
      have hb01 := HB0.out.trans (hb1.mono HB0.out.size)
      have HB1 := Lib.hid hb01
      have hcm := HH1.out.obj.cells.2.1 gi hg8
      unfold cntF at hcm
      rw [HM0.out] at hcm
      have hc0 := HH1.out.obj.cells.1
      clear hb1 hb01 hm
      go_wp2_with fail
      go_ret
      exact HF.out _ HB1.out
    · have hm4i : ((m : Int) == 40) = false := by simp; omega
      have HM4 : Hid (m < 40) := Lib.hid (by omega)
      go_enter Tryz.func36, Tryz.ntmps36
      go_wp2_with fail
      refine (HOF.out _).mono ?_
      rintro e w1 ⟨rfl, rfl⟩
      go_wp2_with fail
      refine HHAS.out.mono ?_
      rintro e w1 ⟨rfl, hb1⟩
      have HH1 := Lib.hid ((HH.out.below HB0.out).below hb1)
      have hb01 := HB0.out.trans (hb1.mono HB0.out.size)
      have HB1 := Lib.hid hb01
      have hcm := HH1.out.obj.cells.2.1 gi hg8
      unfold cntF at hcm
      rw [HM0.out] at hcm
      have hc0 := HH1.out.obj.cells.1
      have hfm := HH1.out.obj.cells.2.2 (1 + gi)
      have H01 : Hid (w1.heap[N]? = some (.cells #[.int .i64 x, .slice a l cap] 77 (0, 0))) := Lib.hid ((hb1.block N (lt_of_get H00.out)).trans H00.out)
      clear hb1 hb01 hm hm4
      go_wp2_with fail
      go_region
      obtain ⟨w2, hw2⟩ : ∃ W, (w1.setCell ⟨t, 1 + gi, none⟩ (.int .i64 ((m : Int) + 1))).drew = W := ⟨_, rfl⟩
      rw [hw2]
      have HT : Hid (TabO w2 t b (updF (cntF L) gi ((m : Int) + 1))) := Lib.hid (by rw [← hw2]; exact HH1.out.obj.set hg8 _)
      have ho12 : Only (Two t b) w1 w2 := by rw [← hw2]; exact ((Only.setCell w1 t (1 + gi) (.int .i64 ((m : Int) + 1))).mono (G := Two t b) (fun i hi => Or.inl hi)).on ⟨rfl, rfl, rfl, Nat.le_refl _, fun _ _ => rfl⟩
      have HR12 := Lib.hid (HH1.out.rows ho12)
      have HM : Hid (TabM w2 b L) := Lib.hid (HH1.out.map.keep (by rw [← hw2]; exact Below.heap_setCell _ _ _ _ (fun e => HH1.out.lt.2.2 e.symm)) HR12.out)
      have HBL : Hid (b < w2.heap.size) := Lib.hid (Nat.lt_of_lt_of_le HH1.out.lt.2.1 ho12.size)
      have hNt : N ≠ t := fun e => by have := H01.out; rw [e, HH1.out.obj] at this; cases this
      have hNb : N ≠ b := fun e => by obtain ⟨es, ck, h9⟩ := HH1.out.map.isMap; have := H01.out; rw [e, h9] at this; cases this
      have h02 : w2.heap[N]? = some (.cells #[.int .i64 x, .slice a l cap] 77 (0, 0)) := (ho12.block N (lt_of_get H01.out) (fun e => by rcases e with e | e; exact hNt e; exact hNb e)).trans H01.out
      have HNL := Lib.hid (lt_of_get h02)
      have hx0 := cell_of_row w2 N 0 _ _ _ h02
      have hx1 := cell_of_row w2 N 1 _ _ _ h02
      have hob := (Only.of_below HB1.out).then ho12
      have hlw : ∀ g o, g < w.heap.size → g ≠ t → w2.drew.cell? ⟨g, o, none⟩ = w.cell? ⟨g, o, none⟩ := fun g o hg hne => World.cell?_of_block (by
       show w2.heap[g]? = w.heap[g]?
       rw [← hw2]
       exact (Below.heap_setCell _ _ _ _ hne).trans (HB1.out.block g hg))
      have HSL2 : Hid (Sl w2.drew a cap ns) := Lib.hid ⟨HSL.out.1, fun hl => by
       obtain ⟨g, o, h1, h2, h3⟩ := HSL.out.2 hl
       have hgt : g ≠ t := HAT.out hl _ h1
       exact ⟨g, o, h1, Nat.lt_of_lt_of_le h2 hob.size, fun i hi => (hlw g (o + i) h2 hgt).trans (h3 i hi)⟩⟩
      have HAP := Lib.hid (apart_any (w := w2.drew) (x := x) HSL2.out (by rw [HLN.out]; omega))
      rw [HLN.out] at HAP
      have HFIN : Hid (∀ w5 w6, Below w2.heap.size w2 w5 → TabM w6 b (putL L k (x, ns)) → w5.grownBy w6 (some b) → PutPost w t b L k (x, ns) (.returned (.int .i64 0)) w6) := Lib.hid (fun w5 w6 hb5 hm6 hg6 =>
       put_done HH.out (HO.out (fun e => by have := e.2; rw [HGI.out, HM0.out] at this; have := HM4.out; omega)) HK.out HFI.out (fun _ => by rw [HGI.out, HM0.out]; exact HM4.out) HT.out hob (fun n _ => cnt_more HG.out.ord HLK.out HGI.out HM0.out n) hb5 hm6 hg6)
      clear hw2 ho12 hNt hNb h02 hob hlw hcm hc0 hfm
      simp only [List.getElem?_toArray, List.getElem?_cons_zero, List.getElem?_cons_succ] at hx0 hx1
      have ht0 := HT.out.cells.1
      go_wp2_with fail
      refine dsk.wp_region_peel2 (by kernel_rfl) (by simp only [List.dropLast_cons_cons, List.dropLast_singleton]; exact rfl) rfl (by kernel_rfl) ?_
      refine wpAny_of_held (S := fun w' => w'.cell? ⟨t, 0, none⟩ = some (.map (some b)) ∧ w'.cell? ⟨N, 0, none⟩ = some (.int .i64 x) ∧ w'.cell? ⟨N, 1, none⟩ = some (.slice a l cap)) _ _ _ _ ?_
      have hHeld := (show w2.drew.cell? ⟨t, 0, none⟩ = some (.map (some b)) ∧ w2.drew.cell? ⟨N, 0, none⟩ = some (.int .i64 x) ∧ w2.drew.cell? ⟨N, 1, none⟩ = some (.slice a l cap) from ⟨HT.out.cells.1, hx0, hx1⟩)
      refine wpAnyH_take (i := 0) (v := ?v7) rfl (by kernel_rfl) (by kernel_rfl) (by kernel_rfl) (fun _ _ _ h => h) (Or.inl ⟨by rfl, ?hy7⟩) (by assumption) ?rest7
      case hy7 => (intro w0 hSw; (try dsimp only at hSw); go_simp; try with_reducible rfl)
      try simp only [Act.put, List.getElem_toArray, List.getElem_cons_zero, List.getElem_cons_succ, List.setIfInBounds_toArray, List.set_cons_zero, List.set_cons_succ]
      refine wpAnyH_take (i := 1) (v := ?v8) rfl (by kernel_rfl) (by kernel_rfl) (by kernel_rfl) (fun _ _ _ h => h) (Or.inl ⟨by rfl, ?hy8⟩) (by assumption) ?rest8
      case hy8 => (intro w0 hSw; (try dsimp only at hSw); go_simp; try with_reducible rfl)
      try simp only [Act.put, List.getElem_toArray, List.getElem_cons_zero, List.getElem_cons_succ, List.setIfInBounds_toArray, List.set_cons_zero, List.set_cons_succ]
      refine wpAnyH_take (i := 2) (v := ?v9) rfl (by kernel_rfl) (by kernel_rfl) (by kernel_rfl) (fun _ _ _ h => h) (Or.inl ⟨by rfl, ?hy9⟩) (by assumption) ?rest9
      case hy9 => (intro w0 hSw; (try dsimp only at hSw); go_simp; try with_reducible rfl)
      try simp only [Act.put, List.getElem_toArray, List.getElem_cons_zero, List.getElem_cons_succ, List.setIfInBounds_toArray, List.set_cons_zero, List.set_cons_succ]
      refine wpAnyH_take (i := 3) (v := ?v10) rfl (by kernel_rfl) (by kernel_rfl) (by kernel_rfl) (fun _ _ _ h => h) (Or.inl ⟨by rfl, ?hy10⟩) (by assumption) ?rest10
      case hy10 => (intro w0 hSw; (try dsimp only at hSw); go_simp; try with_reducible rfl)
      try simp only [Act.put, List.getElem_toArray, List.getElem_cons_zero, List.getElem_cons_succ, List.setIfInBounds_toArray, List.set_cons_zero, List.set_cons_succ]
      refine wpAnyH_take (i := 4) (v := ?v11) rfl (by kernel_rfl) (by kernel_rfl) (by kernel_rfl) (fun _ _ _ h => h) (Or.inl ⟨by rfl, ?hy11⟩) (by assumption) ?rest11
      case hy11 => (intro w0 hSw; (try dsimp only at hSw); go_simp; try with_reducible rfl)
      try simp only [Act.put, List.getElem_toArray, List.getElem_cons_zero, List.getElem_cons_succ, List.setIfInBounds_toArray, List.set_cons_zero, List.set_cons_succ]
      refine wpAnyH_take (i := 5) (v := ?v12) rfl (by kernel_rfl) (by kernel_rfl) (by kernel_rfl) (fun _ _ _ h => h) (Or.inl ⟨by rfl, ?hy12⟩) (by assumption) ?rest12
      case hy12 => (intro w0 hSw; (try dsimp only at hSw); go_simp; try with_reducible rfl)
      try simp only [Act.put, List.getElem_toArray, List.getElem_cons_zero, List.getElem_cons_succ, List.setIfInBounds_toArray, List.set_cons_zero, List.set_cons_succ]
      refine wpAnyH_ready (rs := [6]) (by kernel_rfl) (by simp) ?_
      refine AllReadyH.cons rfl (fun KQ hKQ => ?_) AllReadyH.nil
      go_simp
      refine HAP.out.mono ?_
      rintro e w5 ⟨a5, cap5, rfl, hna5, hb5⟩
      have hb5 := undrew hb5
      have HT5 := Lib.hid (HT.out.keep (w' := w5) (hb5.block t (lt_of_get HT.out)))
      have hm5 := HM.out.keep (w' := w5) (hb5.block b HBL.out) (.of_below hb5)
      have hy0 : w5.cell? ⟨N, 0, none⟩ = some (.int .i64 x) := (hb5.cell (p := ⟨N, 0, none⟩) HNL.out).trans hx0
      have hy1 : w5.cell? ⟨N, 1, none⟩ = some (.slice a l cap) := (hb5.cell (p := ⟨N, 1, none⟩) HNL.out).trans hx1
      refine hKQ.out _ _ ?_ (fun hHeld => ?_)
      · exact ⟨HT5.out.cells.1, hy0, hy1⟩
      clear hKQ KQ
      try simp only [Act.put, List.getElem_toArray, List.getElem_cons_zero, List.getElem_cons_succ, List.setIfInBounds_toArray, List.set_cons_zero, List.set_cons_succ]
      refine wpAnyH_done (by kernel_rfl) ?_ _
      change wpList _ _ _ _ _ _
      obtain ⟨w6, hst, hm6, hg6⟩ := hm5.store HG.out HK.out (c := (x, ns)) hna5
      have HF := Lib.hid (HFIN.out w5 w6 hb5 hm6 hg6)
      clear hna5 hb5 hm6 hg6 hy0 hy1 hx0 hx1 hHeld hm5
      rw [HLN.out] at hst
      dsimp only at hst ⊢
      go_wp2_with fail
      go_ret
      exact HF.out
end
section
open Go.RowKit
attribute [local go_sem ↓] Go.wp_at_zero Go.wp_at_succ
open grp (gof gof_in fits fits_wf IRow intV below_on' below_made ret_bool)
def Box2 (w : World) (N : Nat) (c : Cv) : Prop := w.heap[N]? = some (.cells #[.int .i64 c.1, .slice c.2.1 c.2.2.1 c.2.2.2] 77 (0, 0))
theorem Box2.new (w : World) (c : Cv) : Box2 (w.alloc (.cells #[.int .i64 c.1, .slice c.2.1 c.2.2.1 c.2.2.2] 77)) w.heap.size c := Go.heap_alloc_new w _
theorem Box2.facts {w : World} {N : Nat} {c : Cv} (h : Box2 w N c) : w.cell? ⟨N, 0, none⟩ = some (.int .i64 c.1) ∧ w.cell? ⟨N, 1, none⟩ = some (.slice c.2.1 c.2.2.1 c.2.2.2) ∧ w.frozen? ⟨N, 0, none⟩ = false ∧ w.frozen? ⟨N, 1, none⟩ = false :=
 ⟨by rw [cell_of_row w N 0 _ _ _ h]; rfl, by rw [cell_of_row w N 1 _ _ _ h]; rfl, frozen_of_row w N 0 _ _ h, frozen_of_row w N 1 _ _ h⟩
theorem Box2.set {w : World} {N : Nat} {c : Cv} (h : Box2 w N c) (x : Int) (a : Option Addr) (n m : Nat) : Box2 ((w.setCell ⟨N, 0, none⟩ (.int .i64 x)).setCell ⟨N, 1, none⟩ (.slice a n m)) N (x, a, n, m) := by
 unfold Box2 at *
 rw [heap_setCell_same _ N 1 #[.int .i64 x, .slice c.2.1 c.2.2.1 c.2.2.2] 77 _ (by rw [heap_setCell_same w N 0 _ _ _ h]; rfl)]; rfl
theorem Box2.below {w w' : World} {N : Nat} {c : Cv} (h : Box2 w N c) (hb : Below w.heap.size w w') : Box2 w' N c := (hb.block N (lt_of_get h)).trans h
theorem below_box {w w' : World} {N : Nat} (hb : Below w.heap.size w w') (hN : w.heap.size ≤ N) (u v : Value) : Below w.heap.size w ((w'.setCell ⟨N, 0, none⟩ u).setCell ⟨N, 1, none⟩ v) :=
 (hb.setCell (p := ⟨N, 0, none⟩) hN u).setCell (p := ⟨N, 1, none⟩) hN v
theorem rows_box {w : World} {N : Nat} {c : Cv} (h : Box2 w N c) (u v : Value) : Rows2 w ((w.setCell ⟨N, 0, none⟩ u).setCell ⟨N, 1, none⟩ v) := fun g cur fr hg => by
 have hne : g ≠ N := fun e => by rw [e, h] at hg; cases hg
 rw [Below.heap_setCell _ _ _ _ hne, Below.heap_setCell _ _ _ _ hne]; exact hg
def GetPost (w : World) (L : Rows) (k : Int) (e : Ending) (w' : World) : Prop :=
 (match look L k with
  | none => e = .returned (.tuple #[mkC (0, none, 0, 0), .bool false])
  | some c => ∃ a cap, e = .returned (.tuple #[mkC (c.1, a, c.2.length, cap), .bool true]) ∧ NA w' a cap c.2) ∧ Below w.heap.size w w'
theorem get_any {w : World} {t b : Nat} {L : Rows} (h : IsTab w t b L) {k : Int} (hk : fits k) : Calls Tryz.prog 30 #[.pointer (some ⟨t, 0, none⟩), .int .i64 k] w (GetPost w L k) := by
 have hb0 : Below w.heap.size w (w.alloc (.cells #[.int .i64 0, .slice none 0 0] 77)) := below_made _ _
 have HHAS := Lib.hid (has_any (h.below hb0) hk)
 have hbx := Box2.new w (0, none, 0, 0)
 obtain ⟨W0, hW0⟩ : ∃ W, w.alloc (.cells #[.int .i64 0, .slice none 0 0] 77) = W := ⟨_, rfl⟩
 obtain ⟨N, hN⟩ : ∃ N, w.heap.size = N := ⟨_, rfl⟩
 have HNN := Lib.hid hN
 rw [hW0] at hb0 HHAS
 dsimp only at hbx
 rw [hW0, hN] at hbx
 have HH := Lib.hid (h.below hb0)
 have HB0 := Lib.hid hb0
 have HBX := Lib.hid hbx
 have HK := Lib.hid hk
 clear h hk hb0 hbx
 cases hlk : look L k with
 | none =>
  rw [hlk] at HHAS
  have HE : Hid (∀ w', Below w.heap.size w w' → GetPost w L k (.returned (.tuple #[mkC (0, none, 0, 0), .bool false])) w') := Lib.hid (fun w' hb => by
   unfold GetPost; rw [hlk]; exact ⟨rfl, hb⟩)
  clear hlk
  go_enter Tryz.func30, Tryz.ntmps30
  go_wp2_with fail
  refine HHAS.out.mono ?_
  rintro e w1 ⟨rfl, hb1⟩
  have HB1 := Lib.hid (below_on' HB0.out hb1)
  have HX1 := Lib.hid (HBX.out.below hb1)
  obtain ⟨c0, c1, f0, f1⟩ := HX1.out.facts
  dsimp only at c0 c1
  obtain ⟨e0, e1, -, -⟩ := (HX1.out.set 0 none 0 0).facts
  dsimp only at e0 e1
  clear hb1
  go_wp2_with fail
  refine bodyPost_ret (v := .tuple #[mkC (0, none, 0, 0), .bool false]) (by simp [results, Tryz.f30, go_sem, e0, e1, mkC]) rfl ?_
  exact HE.out _ (below_box HB1.out (by rw [HNN.out]; omega) _ _)
 | some c =>
  rw [hlk] at HHAS
  have HLK := Lib.hid hlk
  have HE : Hid (∀ w' a cap, NA w' a cap c.2 → Below w.heap.size w w' → GetPost w L k (.returned (.tuple #[mkC (c.1, a, c.2.length, cap), .bool true])) w') := Lib.hid (fun w' a cap hna hb => by
   unfold GetPost; rw [hlk]; exact ⟨⟨a, cap, rfl, hna⟩, hb⟩)
  have HFI := Lib.hid ((HH.out.good.fine hlk).2)
  clear hlk
  go_enter Tryz.func30, Tryz.ntmps30
  go_wp2_with fail
  refine HHAS.out.mono ?_
  rintro e w1 ⟨rfl, hb1⟩
  have HB1 := Lib.hid (below_on' HB0.out hb1)
  have HX1 := Lib.hid (HBX.out.below hb1)
  have HH1 := Lib.hid (HH.out.below hb1)
  obtain ⟨a, cap, hna, -, hlo⟩ := HH1.out.map.look_yes HK.out HLK.out
  have HAP := Lib.hid (apart_any (x := c.1) hna.sl (by have := HFI.out.few; omega))
  have m0 := HH1.out.obj.cells.1
  unfold mkC at hlo
  dsimp only at hlo
  clear hb1 hna
  go_wp2_with fail
  refine HAP.out.mono ?_
  rintro e w2 ⟨a2, cap2, rfl, hna2, hb2⟩
  have HB2 := Lib.hid (below_on' HB1.out hb2)
  have HX2 := Lib.hid (HX1.out.below hb2)
  have HNA := Lib.hid (hna2.keep (rows_box HX2.out (.int .i64 c.1) (.slice a2 c.2.length cap2)))
  obtain ⟨c0, c1, f0, f1⟩ := HX2.out.facts
  dsimp only at c0 c1
  obtain ⟨e0, e1, -, -⟩ := (HX2.out.set c.1 a2 c.2.length cap2).facts
  dsimp only at e0 e1
  unfold mkC
  dsimp only
  clear hb2 hna2 hlo
  go_wp2_with fail
  refine bodyPost_ret (v := .tuple #[mkC (c.1, a2, c.2.length, cap2), .bool true]) (by simp [results, Tryz.f30, go_sem, e0, e1, mkC]) rfl ?_
  exact HE.out _ _ _ HNA.out (below_box HB2.out (by rw [HNN.out]; omega) _ _)
end
end Go.Proofs.YtepdecnegihhhaaGreatDoor.tbl
