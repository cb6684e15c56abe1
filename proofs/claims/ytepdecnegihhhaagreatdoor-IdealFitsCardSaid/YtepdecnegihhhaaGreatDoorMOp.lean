/- Plain facts on rows of records: put in the order of their places, those of one place in the order in which they came. No program in this .. -/
import Init
import Derived.Test.YtepdecnegihhhaaGreatDoorMTb
import Derived.Laws.OwnMore
import Derived.BigRegion
import Derived.BigQuiet
import Derived.Deep.LoopGhost
import Derived.Deep.RegionHeld3
import Derived.Deep.DeepCutAuto
import Derived.Lib.AppendZeros
import Derived.Lib.SliceRun
set_option linter.unusedSimpArgs false
set_option linter.unusedVariables false
namespace Go.Proofs.YtepdecnegihhhaaGreatDoor.opr
section
abbrev Rc := Int × Int × Int
end
section
open Go.RowKit
open tbl (Only lt_of_get)
def rcC (r : Rc) : List Value := [.int .i64 r.1, .int .i64 r.2.1, .int .i64 r.2.2]
def cellsR (l : List Rc) : List Value := l.flatMap rcC
theorem cellsR_nil : cellsR [] = [] := rfl
theorem cellsR_cons (r : Rc) (rs : List Rc) : cellsR (r :: rs) = rcC r ++ cellsR rs := rfl
theorem cellsR_append (rs qs : List Rc) : cellsR (rs ++ qs) = cellsR rs ++ cellsR qs := by simp [cellsR]
theorem cellsR_len (rs : List Rc) : (cellsR rs).length = rs.length * 3 := by
 induction rs with
 | nil => rfl
 | cons r rs ih => rw [cellsR_cons, List.length_append, ih]; simp [rcC]; omega
theorem cellsR_get {rs : List Rc} {k j : Nat} (hk : k < rs.length) (hj : j < 3) : (cellsR rs)[k * 3 + j]? = (rcC rs[k])[j]? := by
 induction rs generalizing k with
 | nil => simp at hk
 | cons r rs ih =>
  rw [cellsR_cons]
  cases k with
  | zero => rw [List.getElem?_append_left (by simp [rcC]; omega)]; simp
  | succ k =>
   rw [List.getElem?_append_right (by simp [rcC]; omega)]
   have h3 : (rcC r).length = 3 := rfl
   rw [h3, show (k + 1) * 3 + j - 3 = k * 3 + j by omega, ih (by simpa using hk)]
   rfl
theorem cellsR_one (rs : List Rc) : ∀ u ∈ cellsR rs, u.oneCell' = true := by
 intro u hu
 obtain ⟨r, -, hu⟩ := List.mem_flatMap.1 hu
 simp [rcC] at hu
 rcases hu with rfl | rfl | rfl <;> rfl
def Sr (w : World) (v : Value) (rs : List Rc) : Prop :=
 ∃ a c, v = .slice a rs.length c ∧ (a = none → c = 0) ∧ rs.length ≤ c ∧ c ≤ maxLen ∧
  (0 < rs.length → ∃ g o, a = some ⟨g, o, none⟩ ∧ g < w.heap.size ∧ ∀ j u, (cellsR rs)[j]? = some u → w.cell? ⟨g, o + j, none⟩ = some u)
def RowsR (w w' : World) : Prop := w.heap.size ≤ w'.heap.size ∧ ∀ (g : Nat), g < w.heap.size → w'.heap[g]? = w.heap[g]?
theorem RowsR.of_below {w w' : World} (h : Below w.heap.size w w') : RowsR w w' := ⟨h.size, fun g hg => h.block g hg⟩
theorem Sr.keep {w w' : World} {v : Value} {rs : List Rc} (h : Sr w v rs) (hr : RowsR w w') : Sr w' v rs := by
 obtain ⟨a, c, h1, h2, h3, h4, h5⟩ := h
 refine ⟨a, c, h1, h2, h3, h4, fun hl => ?_⟩
 obtain ⟨g, o, e1, e2, e3⟩ := h5 hl
 refine ⟨g, o, e1, Nat.lt_of_lt_of_le e2 hr.1, fun j u hu => ?_⟩
 rw [World.cell?_of_block (w := w) (a := ⟨g, o + j, none⟩) (hr.2 g e2)]
 exact e3 j u hu
theorem Sr.below {w w' : World} {v : Value} {rs : List Rc} (h : Sr w v rs) (hb : Below w.heap.size w w') : Sr w' v rs := h.keep (.of_below hb)
theorem Sr.only {F : Nat → Prop} {w w' : World} {v : Value} {rs : List Rc} (h : Sr w v rs) (ho : Only F w w') (hF : ∀ a n c, v = .slice (some a) n c → ¬ F a.block) : Sr w' v rs := by
 obtain ⟨a, c, h1, h2, h3, h4, h5⟩ := h
 refine ⟨a, c, h1, h2, h3, h4, fun hl => ?_⟩
 obtain ⟨g, o, e1, e2, e3⟩ := h5 hl
 have hg : w'.heap[g]? = w.heap[g]? := ho.block g e2 (by have := hF ⟨g, o, none⟩ rs.length c (by rw [h1, e1]); exact this)
 refine ⟨g, o, e1, Nat.lt_of_lt_of_le e2 ho.size, fun j u hu => ?_⟩
 rw [World.cell?_of_block (w := w) (a := ⟨g, o + j, none⟩) hg]
 exact e3 j u hu
theorem Sr.len {w : World} {v : Value} {rs : List Rc} (h : Sr w v rs) : ∃ a c, v = .slice a rs.length c := by
 obtain ⟨a, c, h1, _⟩ := h; exact ⟨a, c, h1⟩
theorem Sr.at {w : World} {v : Value} {rs : List Rc} (h : Sr w v rs) {k : Nat} {r : Rc} (hk : rs[k]? = some r) :
  ∃ g o c, v = .slice (some ⟨g, o, none⟩) rs.length c ∧ g < w.heap.size ∧ w.cell? ⟨g, o + k * 3, none⟩ = some (.int .i64 r.1) ∧ w.cell? ⟨g, o + k * 3 + 1, none⟩ = some (.int .i64 r.2.1) ∧ w.cell? ⟨g, o + k * 3 + 2, none⟩ = some (.int .i64 r.2.2) := by
 obtain ⟨hk', rfl⟩ := List.getElem?_eq_some_iff.1 hk
 obtain ⟨a, c, h1, h2, h3, h4, h5⟩ := h
 obtain ⟨g, o, rfl, e2, e3⟩ := h5 (by omega)
 refine ⟨g, o, c, h1, e2, ?_, ?_, ?_⟩
 · exact e3 (k * 3) _ (by rw [show k * 3 = k * 3 + 0 by omega, cellsR_get hk' (by omega)]; rfl)
 · have := e3 (k * 3 + 1) _ (by rw [cellsR_get hk' (by omega)]; rfl)
   rwa [← Nat.add_assoc] at this
 · have := e3 (k * 3 + 2) _ (by rw [cellsR_get hk' (by omega)]; rfl)
   rwa [← Nat.add_assoc] at this
theorem Sr.own {w : World} {B n : Nat} {v : Value} {rs : List Rc} (h : w.ownsRow B 34 3 v n (cellsR rs)) : n = rs.length ∧ Sr w v rs := by
 have hn : n = rs.length := by have := h.1; rw [cellsR_len] at this; omega
 subst hn
 refine ⟨rfl, ?_⟩
 rcases h.2 with ⟨rfl, h0⟩ | ⟨g, cap, cur, rfl, hBg, hb, h1, h2, h3, h4⟩
 · exact ⟨none, 0, by rw [h0], fun _ => rfl, by omega, by decide, fun h1 => by omega⟩
 · refine ⟨_, cap, rfl, (fun e => by cases e), by omega, by omega, fun _ => ⟨g, 0, rfl, lt_of_get hb, fun j u hu => ?_⟩⟩
   have hj : j < rs.length * 3 := by rw [← cellsR_len]; exact (List.getElem?_eq_some_iff.1 hu).1
   have h5 : (cur.toList.take (rs.length * 3))[j]? = (cellsR rs)[j]? := by rw [h4]
   rw [List.getElem?_take_of_lt (by omega)] at h5
   rw [cell_of_row w g (0 + j) _ _ _ hb, Nat.zero_add, ← Array.getElem?_toList, h5, hu]
theorem infoR : (Tryz.prog.info? 34).map (fun i => (i.zero.map (·.cells.size), i.size, i.bytes)) = some (some 3, 3, 24) := by kernel_rfl
theorem appR_run {W : World} {B n : Nat} {v u : Value} {xs : List Value} {qs : List Rc} (ho : W.ownsRow B 34 3 v n xs) (h : Sr W u qs) (hl : n + qs.length ≤ 1000000) (hB : B ≤ W.heap.size) (ty : TypeId) :
  ∃ v' w', (Builtin.append_ #[32, 32] ty #[v, u]).run Tryz.prog W = .ok v' w' ∧ w'.ownsRow B 34 3 v' (n + qs.length) (xs ++ cellsR qs) ∧ W.grownBy w' v.ownBlock := by
 obtain ⟨i0, hi, hz0, hz1, hz2⟩ : ∃ i0, Tryz.prog.info? 34 = some i0 ∧ (∃ z, i0.zero = some z ∧ z.cells.size = 3) ∧ i0.size = 3 ∧ i0.bytes = 24 := by
  have := infoR
  cases hi : Tryz.prog.info? 34 with
  | none => rw [hi] at this; cases this
  | some i0 =>
   rw [hi] at this
   simp only [Option.map_some, Option.some.injEq, Prod.mk.injEq, Option.map_eq_some_iff] at this
   exact ⟨i0, rfl, this.1, this.2.1, this.2.2⟩
 obtain ⟨z, hz, hz3⟩ := hz0
 obtain ⟨a, c, rfl, h1, h2, h3, h4⟩ := h
 cases a with
 | none =>
  obtain rfl := h1 rfl
  have h0 : qs = [] := by
   cases qs with
   | nil => rfl
   | cons q qs => simp at h2
  subst h0
  refine ⟨v, W, run_append_owned_none W B 32 ty 34 i0 3 Tryz.underlying32 hi v n _ ho, by simpa [cellsR_nil] using ho, ⟨rfl, rfl, rfl, Nat.le_refl _, fun _ _ _ => rfl⟩⟩
 | some ad =>
  obtain ⟨v', w', e1, e2, e3, _⟩ := run_append_own (P := Tryz.prog) W B 32 ty 34 i0 z 3 24 Tryz.underlying32 hi hz hz1 hz2 hz3 (by decide) v n xs ho ad qs.length c (cellsR qs) (cellsR_len qs)
   (fun j u hu => by
    have hj : 0 < qs.length := by
     cases qs with
     | nil => simp [cellsR_nil] at hu
     | cons => simp
    obtain ⟨g, o, h5, h6, h7⟩ := h4 hj
    obtain rfl := Option.some.inj h5
    have hadd : (⟨g, o, none⟩ : Addr).add j = ⟨g, o + j, none⟩ := by unfold Addr.add; split <;> simp_all
    rw [hadd]
    exact h7 j u hu) (cellsR_one qs) (by unfold maxLen; omega) (by omega) hB
  exact ⟨v', w', e1, e2, e3⟩
end
section
open Go.RowKit
attribute [local go_sem ↓] Go.wp_at_zero Go.wp_at_succ
open tbl (Only lt_of_get)
def rcA (r : Rc) : Value := .agg #[.int .i64 r.1, .int .i64 r.2.1, .int .i64 r.2.2]
end
section
open Go.RowKit
attribute [local go_sem ↓] Go.wp_at_zero Go.wp_at_succ
open tbl (Only lt_of_get)
theorem rec_at {l : List Rc} {k : Nat} (h : k < l.length) : ∃ x, l[k]? = some x := ⟨_, List.getElem?_eq_getElem h⟩
end
section
open Go.RowKit
attribute [local go_sem ↓] Go.wp_at_zero Go.wp_at_succ
open tbl (Only lt_of_get)
open grp (below_on' below_made)
theorem wpList_appR {P : Program} {w w' : World} {ops : Array Oper} {rest : List Oper} {o : Oper} {a : Act} {Q : Exit → Act → World → Prop} {v u r : Value} (hg : o.guard = none) (s x : Operand) (t : TypeId)
  (ho : o.op = .call { callee := .builtin .append, args := #[s, x], argTypes := #[t, t] }) (hs : a.eval s = v) (hx : a.eval x = u) (hr : (Builtin.append_ #[t, t] o.type #[v, u]).run P w = .ok r w')
  (h : wpList P ops Q rest (a.put o.dst r) w') : wpList P ops Q (o :: rest) a w := by
 refine wpList_plain hg fun K' hK' => ?_
 unfold Oper.wp execOp
 simp only [ho, resolve, invoke, builtin, Sem.run_bind, Sem.run_pure, Result.andThen_ok, List.map_toArray, List.map_cons, List.map_nil, hs, hx, hr]
 exact hK' _ _ h
def Lr (w : World) (v : Value) (vs : List Value) (ls : List (List Rc)) : Prop :=
 ∃ a c, v = .slice a vs.length c ∧ vs.length = ls.length ∧ vs.length ≤ c ∧
  (0 < vs.length → ∃ g o, a = some ⟨g, o, none⟩ ∧ g < w.heap.size ∧ ∀ (i : Nat) (x : Value), vs[i]? = some x → w.cell? ⟨g, o + i, none⟩ = some x) ∧
  ∀ (i : Nat) (x : Value) (l : List Rc), vs[i]? = some x → ls[i]? = some l → Sr w x l
theorem Lr.below {w w' : World} {v : Value} {vs : List Value} {ls : List (List Rc)} (h : Lr w v vs ls) (hb : Below w.heap.size w w') : Lr w' v vs ls := by
 obtain ⟨a, c, h1, h2, h2', h3, h4⟩ := h
 refine ⟨a, c, h1, h2, h2', fun h0 => ?_, fun i x l hx hl => (h4 i x l hx hl).below hb⟩
 obtain ⟨g, o, e1, e2, e3⟩ := h3 h0
 exact ⟨g, o, e1, Nat.lt_of_lt_of_le e2 hb.size, fun i x hx => (hb.cell (p := ⟨g, o + i, none⟩) e2).trans (e3 i x hx)⟩
theorem Lr.len {w : World} {v : Value} {vs : List Value} {ls : List (List Rc)} (h : Lr w v vs ls) : ∃ a c, v = .slice a ls.length c := by
 obtain ⟨a, c, h1, h2, _⟩ := h; exact ⟨a, c, by rw [h1, h2]⟩
theorem Lr.at {w : World} {v : Value} {vs : List Value} {ls : List (List Rc)} (h : Lr w v vs ls) {k : Nat} (hk : k < ls.length) :
  ∃ g o c l ax cx, v = .slice (some ⟨g, o, none⟩) ls.length c ∧ g < w.heap.size ∧ ls[k]? = some l ∧ w.cell? ⟨g, o + k, none⟩ = some (.slice ax l.length cx) ∧ Sr w (.slice ax l.length cx) l := by
 obtain ⟨a, c, h1, h2, h2', h3, h4⟩ := h
 obtain ⟨g, o, rfl, e2, e3⟩ := h3 (by omega)
 have hv : vs[k]? = some vs[k] := List.getElem?_eq_getElem (by omega)
 have hl : ls[k]? = some ls[k] := List.getElem?_eq_getElem hk
 have hs := h4 k _ _ hv hl
 obtain ⟨ax, cx, e⟩ := hs.len
 rw [e] at hv hs
 exact ⟨g, o, c, ls[k], ax, cx, by rw [h1, h2], e2, hl, e3 k _ hv, hs⟩
def tot (ls : List (List Rc)) (k : Nat) : List Rc := (ls.take k).flatten
theorem tot_succ {ls : List (List Rc)} {k : Nat} {l : List Rc} (h : ls[k]? = some l) : tot ls (k + 1) = tot ls k ++ l := by
 unfold tot
 rw [List.take_add_one, h]
 simp
theorem tot_all (ls : List (List Rc)) : tot ls ls.length = ls.flatten := by unfold tot; rw [List.take_length]
theorem tot_le (ls : List (List Rc)) (k : Nat) : (tot ls k).length ≤ ls.flatten.length := by
 have : ls.flatten = tot ls k ++ (ls.drop k).flatten := by
  unfold tot
  rw [← List.flatten_append, List.take_append_drop]
 rw [this, List.length_append]; omega
theorem grow_any (n : Nat) (hn : n ≤ 1000000) (w : World) :
  Calls Tryz.prog 87 #[.slice none 0 0, .int .i64 n] w fun e w' => ∃ v, e = .returned v ∧ w'.ownsRow w.heap.size 34 3 v 0 [] ∧ Below w.heap.size w w' := by
 by_cases h0 : n = 0
 · subst h0
   have HF : Hid (∃ v, Ending.returned (.slice none 0 0) = .returned v ∧ w.ownsRow w.heap.size 34 3 v 0 [] ∧ Below w.heap.size w w) := Lib.hid ⟨_, rfl, World.ownsRow_nil _ _ _ _, Below.refl _ _⟩
   go_enter Tryz.func87, Tryz.ntmps87
   go_wp2
   go_ret
   exact HF.out
 · obtain ⟨i0, hi, ⟨z, hz, hz3⟩, hz1, hz2⟩ : ∃ i0, Tryz.prog.info? 34 = some i0 ∧ (∃ z, i0.zero = some z ∧ z.cells.size = 3) ∧ i0.size = 3 ∧ i0.bytes = 24 := by
    have := infoR
    cases hi : Tryz.prog.info? 34 with
    | none => rw [hi] at this; cases this
    | some i0 =>
     rw [hi] at this
     simp only [Option.map_some, Option.some.injEq, Prod.mk.injEq, Option.map_eq_some_iff] at this
     exact ⟨i0, rfl, this.1, this.2.1, this.2.2⟩
   have hr : ∀ ty, _ := fun ty => Lib.run_append_nil_zeros (P := Tryz.prog) w 32 3 ty 34 i0 z .i64 .i64 Tryz.underlying32 Tryz.underlying3 hi hz n (by omega) (by omega) (by omega) (by rw [hz2]; omega)
   have hG1 : n ≤ grownCap w n 0 34 := grownCap_ge w _ _ _
   have hG2 := grownCap_le_maxLen w n 0 34 (by unfold maxLen; omega)
   obtain ⟨G, hG⟩ : ∃ G, grownCap w n 0 34 = G := ⟨_, rfl⟩
   rw [hG] at hG1 hG2
   simp only [hG] at hr
   obtain ⟨cs, hcs⟩ : ∃ cs, Builtin.zeroCells z.cells n ++ Builtin.zeroCells z.cells (G - n) = cs := ⟨_, rfl⟩
   simp only [hcs] at hr
   have hsz : cs.size = G * 3 := by
    rw [← hcs]
    simp only [Array.size_append, Builtin.zeroCells, Array.size_map, Array.size_range, hz3]
    omega
   have HF : Hid (∃ v, Ending.returned (.slice (some ⟨w.heap.size, 0, none⟩) 0 G) = .returned v ∧ (w.drew.alloc (.cells cs 34)).ownsRow w.heap.size 34 3 v 0 [] ∧ Below w.heap.size w (w.drew.alloc (.cells cs 34))) :=
    Lib.hid ⟨_, rfl, ⟨rfl, .inr ⟨w.heap.size, G, cs, rfl, Nat.le_refl _, Go.heap_alloc_new w.drew _, Nat.zero_le _, hG2, hsz, by simp⟩⟩, ((Below.refl _ w).drew).alloc (Nat.le_refl _) _⟩
   have HR := Lib.hid hr
   have hn0 : (0 : Int) < (n : Int) := by omega
   have hn1 : (n : Int) ≤ 1000000 := by omega
   have hG0 : ¬ (G = 0) := by omega
   have hG3 : (G : Int) ≤ 9223372036854775807 := by unfold maxLen at hG2; omega
   have hG4 : (0 : Int) ≤ (G : Int) := by omega
   have hn2 : ¬ ((n : Int) < 0) := by omega
   clear hr hG1 hG hcs hsz hz hz3 hz1 hz2 hi hn h0 hG2
   go_enter Tryz.func87, Tryz.ntmps87
   go_wp2_with (at_builtin; refine Lib.wpList_append_run _ rfl _ _ _ _ rfl _ _ rfl rfl _ _ (HR.out _) ?_)
   all_goals (go_ret; exact HF.out)
end
section
open Go.RowKit
attribute [local go_sem ↓] Go.wp_at_zero Go.wp_at_succ
open tbl (Only lt_of_get)
open grp (below_on' below_made)
def Own (w : World) (B : Nat) (v : Value) (l : List Rc) : Prop := w.ownsRow B 34 3 v l.length (cellsR l)
theorem Own.sr {w : World} {B : Nat} {v : Value} {l : List Rc} (h : Own w B v l) : Sr w v l := (Sr.own h).2
theorem Own.len {w : World} {B : Nat} {v : Value} {l : List Rc} (h : Own w B v l) : ∃ a c, v = .slice a l.length c := h.sr.len
theorem Own.nil (w : World) (B : Nat) : Own w B (.slice none 0 0) [] := World.ownsRow_nil _ _ _ _
theorem own_below3 {W W' : World} {B e size n : Nat} {v : Value} {xs : List Value} (h : W.ownsRow B e size v n xs) (hb : Below W.heap.size W W') : W'.ownsRow B e size v n xs :=
 h.kept (row := none) ⟨hb.os, hb.tape, hb.output, hb.size, fun k hk _ => hb.block k hk⟩ (by cases hv : v.ownBlock <;> simp)
theorem Own.below {w w' : World} {B : Nat} {v : Value} {l : List Rc} (h : Own w B v l) (hb : Below w.heap.size w w') : Own w' B v l := own_below3 h hb
theorem Own.app {w : World} {B : Nat} {v u : Value} {l q : List Rc} (h : Own w B v l) (hu : Sr w u q) (hl : l.length + q.length ≤ 1000000) (hB : B ≤ w.heap.size) (ty : TypeId) :
  ∃ v' w', (Builtin.append_ #[32, 32] ty #[v, u]).run Tryz.prog w = .ok v' w' ∧ Own w' B v' (l ++ q) ∧ w.grownBy w' v.ownBlock ∧ ∀ j, v.ownBlock = some j → B ≤ j := by
 obtain ⟨v', w', h1, h2, h3⟩ := appR_run h hu hl hB ty
 refine ⟨v', w', h1, ?_, h3, fun j hj => (h.lt j hj).1⟩
 unfold Own
 rw [List.length_append, cellsR_append]
 exact h2
def CcRel (w : World) (ls : List (List Rc)) (k : Nat) (v : Value) (wr : World) : Prop := Own wr w.heap.size v (tot ls k) ∧ Below w.heap.size w wr
theorem cc_step {w wr : World} {ls : List (List Rc)} {k : Nat} {v u : Value} {l : List Rc} (h : CcRel w ls k v wr) (hk : ls[k]? = some l) (hu : Sr wr u l) (ht : ls.flatten.length ≤ 1000000) :
  ∃ v' w', (∀ ty, (Builtin.append_ #[32, 32] ty #[v, u]).run Tryz.prog wr = .ok v' w') ∧ CcRel w ls (k + 1) v' w' := by
 have h1 := tot_le ls (k + 1)
 rw [tot_succ hk, List.length_append] at h1
 obtain ⟨v', w', h2, h3, h4, h5⟩ := h.1.app hu (by omega) h.2.size 0
 refine ⟨v', w', fun ty => ?_, ?_, h.2.grown h4 h.2.size h5⟩
 · obtain ⟨v2, w2, k2, -, -, -⟩ := h.1.app hu (by omega) h.2.size ty
   exact h2
 · rw [tot_succ hk]; exact h3
theorem merge_cells {g o k : Nat} {w wr : World} {v : Value} (hb : Below w.heap.size w wr) (hg : g < w.heap.size) (h : w.cell? ⟨g, o + k, none⟩ = some v) : wr.cell? ⟨g, o + k, none⟩ = some v := (hb.cell (p := ⟨g, o + k, none⟩) hg).trans h
set_option maxHeartbeats 6400000 in
set_option maxRecDepth 1000000 in
theorem concat_any {w : World} {v : Value} {vs : List Value} {ls : List (List Rc)} (h : Lr w v vs ls) (ht : ls.flatten.length ≤ 1000000) (hl : ls.length ≤ 1000000) :
  Calls Tryz.prog 49 #[v] w fun e w' => ∃ v', e = .returned v' ∧ Own w' w.heap.size v' ls.flatten ∧ Below w.heap.size w w' := by
 obtain ⟨a, c, rfl⟩ := h.len
 have HL := Lib.hid h
 have HT := Lib.hid ht
 obtain ⟨n, hn⟩ : ∃ n, ls.length = n := ⟨_, rfl⟩
 have HN := Lib.hid hn
 have hn1 : (n : Int) ≤ 1000000 := by omega
 rw [hn]
 clear h ht hl hn
 have HG := Lib.hid (fun k (hk : k ≤ 1000000) w => grow_any k hk w)
 go_enter Tryz.func49, Tryz.ntmps49
 go_wp2
 go_loopg [3, 11] n (fun g v3 v11 wr => ∃ k T, v11 = .int .i64 (k : Nat) ∧ v3 = .int .i64 (T : Nat) ∧ k + g = n ∧ T = (tot ls k).length ∧ w = wr)
 case atStart => exact ⟨0, 0, rfl, rfl, by omega, rfl, rfl⟩
 case round =>
  obtain ⟨k, T, rfl, rfl, hk, hT, rfl⟩ := hrel
  have hT1 : T ≤ 1000000 := by rw [hT]; exact Nat.le_trans (tot_le ls k) HT.out
  have hT2 : (T : Int) ≤ 1000000 := by omega
  have hT0 : ¬ ((T : Int) < 0) := by omega
  by_cases hlt : k < n
  · have hlt' : (k : Int) < (n : Int) := by omega
    have hk0 : (0 : Int) ≤ (k : Int) := by omega
    obtain ⟨g, o, c', l, ax, cx, e1, e2, e3, e4, e5⟩ := HL.out.at (k := k) (by have := HN.out; omega)
    rw [HN.out] at e1
    injection e1 with e1a _ e1b
    subst e1a e1b
    obtain ⟨m, hm⟩ : ∃ m, l.length = m := ⟨_, rfl⟩
    rw [hm] at e4
    have hTk : (tot ls (k + 1)).length = T + m := by rw [tot_succ e3, List.length_append, ← hT, hm]
    have hTm : T + m ≤ 1000000 := by rw [← hTk]; exact Nat.le_trans (tot_le ls _) HT.out
    have hTm' : (T : Int) + (m : Int) ≤ 1000000 := by omega
    have hTm0 : ¬ ((T : Int) + (m : Int) < 0) := by omega
    have HTK := Lib.hid hTk
    have HKK := Lib.hid (And.intro hk hlt)
    clear hT hT1 hlt e5 e3 hm hTk hTm hk
    go_wp2
    go_roundg (n - (k + 1))
    case measure => have := HKK.out; omega
    case rel => exact ⟨k + 1, T + m, rfl, rfl, by have := HKK.out; omega, HTK.out.symm, rfl⟩
  · have hlt' : ¬ ((k : Int) < (n : Int)) := by omega
    have hTA : Hid (T ≤ 1000000) := Lib.hid hT1
    clear hT hT1 hlt hk
    go_wp2_with fail
    refine (HG.out T hTA.out _).mono ?_
    rintro e w1 ⟨v1, rfl, ho1, hb1⟩
    have HR0 : Hid (CcRel w ls 0 v1 w1) := Lib.hid ⟨ho1, hb1⟩
    clear ho1 hb1
    go_wp2
    go_loopg [6, 27] n (fun g v6 v27 w2 => ∃ k, v27 = .int .i64 (k : Nat) ∧ k + g = n ∧ Hid (CcRel w ls k v6 w2))
    case atStart => exact ⟨0, rfl, by omega, HR0⟩
    case round =>
     clear HR0
     obtain ⟨k, rfl, hk, HR⟩ := hrel
     obtain ⟨a6, c6, hv6⟩ := HR.out.1.len
     subst hv6
     by_cases hlt : k < n
     · have hlt' : (k : Int) < (n : Int) := by omega
       have hk0 : (0 : Int) ≤ (k : Int) := by omega
       obtain ⟨g, o, c', l, ax, cx, e1, e2, e3, e4, e5⟩ := HL.out.at (k := k) (by have := HN.out; omega)
       rw [HN.out] at e1
       injection e1 with e1a _ e1b
       subst e1a e1b
       obtain ⟨v', w', hr1, hr2⟩ := cc_step HR.out e3 (e5.below HR.out.2) HT.out
       have e6 := merge_cells HR.out.2 e2 e4
       have HR1 := Lib.hid hr1
       have HS1 := Lib.hid hr2
       have HKK := Lib.hid (And.intro hk hlt)
       clear hr1 hr2 e3 e4 e5 hk hlt
       go_wp2_with (at_builtin; refine wpList_appR rfl (.tmp 31) (.tmp 32) 32 rfl rfl rfl (HR1.out _) ?_)
       go_roundg (n - (k + 1))
       case measure => have := HKK.out; omega
       case rel => exact ⟨k + 1, rfl, by have := HKK.out; omega, HS1⟩
     · have hlt' : ¬ ((k : Int) < (n : Int)) := by omega
       have HE := Lib.hid (show ∃ v', Ending.returned (.slice a6 (tot ls k).length c6) = .returned v' ∧ Own wr w.heap.size v' ls.flatten ∧ Below w.heap.size w wr from ⟨_, rfl, by
        have h1 := HR.out.1
        have h2 : tot ls k = ls.flatten := by rw [← tot_all, HN.out]; congr 1; omega
        rw [h2] at h1 ⊢
        exact h1, HR.out.2⟩)
       clear hlt hk
       go_wp2
       go_ret
       exact HE.out
end
end Go.Proofs.YtepdecnegihhhaaGreatDoor.opr
