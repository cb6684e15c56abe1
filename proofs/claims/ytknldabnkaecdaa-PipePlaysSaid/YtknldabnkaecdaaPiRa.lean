/- The reference's pipe in memory: a struct of a slice of messages and its room. -/
import Derived.Test.YtknldabnkaecdaaPiT
namespace Go.Proofs.Ytknldabnkaecdaa.pip
set_option linter.unusedSimpArgs false
set_option linter.unusedVariables false
open Go.RowKit
/-- A message as it lies in a row: its number, its bar, where its records lie. -/
structure Mw where
  x : Int
  y : Int
  a : Option Addr
  rs : List Rc
  cap : Nat
def Mw.cells (r : Mw) : List Value := [.int .i64 r.x, .int .i64 r.y, .slice r.a r.rs.length r.cap]
def Mw.p (r : Mw) : Ms := (r.x, r.y, r.rs)
def cellsM (rs : List Mw) : List Value := rs.flatMap Mw.cells
theorem cellsM_cons (r : Mw) (rs : List Mw) : cellsM (r :: rs) = r.cells ++ cellsM rs := rfl
theorem cellsM_append (rs qs : List Mw) : cellsM (rs ++ qs) = cellsM rs ++ cellsM qs := by simp [cellsM]
theorem cellsM_len (rs : List Mw) : (cellsM rs).length = rs.length * 3 := by
  induction rs with
  | nil => rfl
  | cons r rs ih => rw [cellsM_cons, List.length_append, ih]; simp [Mw.cells]; omega
theorem cellsM_one (rs : List Mw) : ∀ u ∈ cellsM rs, u.oneCell' = true := by
  intro u hu
  obtain ⟨r, -, hu⟩ := List.mem_flatMap.1 hu
  simp [Mw.cells] at hu
  rcases hu with rfl | rfl | rfl <;> rfl
/-- A slice that reads messages. -/
def Mr (w : World) (v : Value) (rs : List Mw) : Prop :=
  ∃ a c, v = .slice a rs.length c ∧ (a = none → c = 0) ∧ rs.length ≤ c ∧ c ≤ maxLen ∧
    (0 < rs.length → ∃ g o cur fr, a = some ⟨g, o, none⟩ ∧ w.heap[g]? = some (.cells cur 29 fr) ∧ ∀ j u, (cellsM rs)[j]? = some u → w.cell? ⟨g, o + j, none⟩ = some u)
/-- Rows of messages stay. -/
def RowsM (w w' : World) : Prop := ∀ (g : Nat) (cur : Array Value) (fr : Nat × Nat), w.heap[g]? = some (.cells cur 29 fr) → w'.heap[g]? = some (.cells cur 29 fr)
theorem RowsM.of_below {w w' : World} (h : Below w.heap.size w w') : RowsM w w' := fun g cur fr hg => (h.block g (lt_of_get hg)).trans hg
theorem RowsM.of_only {F : Nat → Prop} {w w' : World} (h : Only F w w') (hF : ∀ g cur fr, F g → w.heap[g]? ≠ some (.cells cur 29 fr)) : RowsM w w' :=
  fun g cur fr hg => (h.block g (lt_of_get hg) fun hf => hF g cur fr hf hg).trans hg
theorem Mr.keep {w w' : World} {v : Value} {rs : List Mw} (h : Mr w v rs) (hr : RowsM w w') : Mr w' v rs := by
  obtain ⟨a, c, h1, h2, h3, h4, h5⟩ := h
  refine ⟨a, c, h1, h2, h3, h4, fun hl => ?_⟩
  obtain ⟨g, o, cur, fr, e1, e2, e3⟩ := h5 hl
  refine ⟨g, o, cur, fr, e1, hr g cur fr e2, fun j u hu => ?_⟩
  rw [World.cell?_of_block (w := w) (a := ⟨g, o + j, none⟩) ((hr g cur fr e2).trans e2.symm)]
  exact e3 j u hu
theorem Mr.nil (w : World) : Mr w (.slice none 0 0) [] := ⟨none, 0, rfl, fun _ => rfl, Nat.le_refl _, by decide, fun h => by simp at h⟩
theorem Mr.len {w : World} {v : Value} {rs : List Mw} (h : Mr w v rs) : ∃ a c, v = .slice a rs.length c := by
  obtain ⟨a, c, h1, _⟩ := h; exact ⟨a, c, h1⟩
/-- The first message of a row. -/
theorem Mr.at0 {w : World} {v : Value} {r : Mw} {rs : List Mw} (h : Mr w v (r :: rs)) :
    ∃ g o c, v = .slice (some ⟨g, o, none⟩) (rs.length + 1) c ∧ w.cell? ⟨g, o, none⟩ = some (.int .i64 r.x) ∧ w.cell? ⟨g, o + 1, none⟩ = some (.int .i64 r.y) ∧ w.cell? ⟨g, o + 2, none⟩ = some (.slice r.a r.rs.length r.cap) := by
  obtain ⟨a, c, h1, h2, h3, h4, h5⟩ := h
  obtain ⟨g, o, cur, fr, rfl, e2, e3⟩ := h5 (by simp)
  exact ⟨g, o, c, h1, e3 0 _ rfl, e3 1 _ rfl, e3 2 _ rfl⟩
theorem Mr.own {w : World} {B n : Nat} {v : Value} {rs : List Mw} (h : w.ownsRow B 29 3 v n (cellsM rs)) : n = rs.length ∧ Mr w v rs := by
  have hn : n = rs.length := by have := h.1; rw [cellsM_len] at this; omega
  subst hn
  refine ⟨rfl, ?_⟩
  rcases h.2 with ⟨rfl, h0⟩ | ⟨g, cap, cur, rfl, hBg, hb, h1, h2, h3, h4⟩
  · exact ⟨none, 0, by rw [h0], fun _ => rfl, by omega, by decide, fun h1 => by omega⟩
  · refine ⟨_, cap, rfl, (fun e => by cases e), by omega, by omega, fun _ => ⟨g, 0, cur, _, rfl, hb, fun j u hu => ?_⟩⟩
    have hj : j < rs.length * 3 := by rw [← cellsM_len]; exact (List.getElem?_eq_some_iff.1 hu).1
    have h5 : (cur.toList.take (rs.length * 3))[j]? = (cellsM rs)[j]? := by rw [h4]
    rw [List.getElem?_take_of_lt (by omega)] at h5
    rw [cell_of_row w g (0 + j) _ _ _ hb, Nat.zero_add, ← Array.getElem?_toList, h5, hu]
theorem elem46 : Try.prog.elem 46 = 29 := by kernel_rfl
theorem size29 (W : World) : (sizeOf 29).run Try.prog W = .ok 3 W := by kernel_rfl
/-- All but the first. -/
theorem tail1 {w : World} {g o c : Nat} {r : Mw} {rs : List Mw} (h : Mr w (.slice (some ⟨g, o, none⟩) (rs.length + 1) c) (r :: rs)) :
    ∃ a', (∀ W, (Instr.sliceAt 46 (.slice (some ⟨g, o, none⟩) (rs.length + 1) c) (some (.int .i64 1)) none none).run Try.prog W = .ok (.slice a' rs.length (c - 1)) W) ∧ (∀ W, RowsM w W → Mr W (.slice a' rs.length (c - 1)) rs) ∧ ∀ ad, a' = some ad → ad.block = g := by
  obtain ⟨a0, c0, h1, h2, h3, h4, h5⟩ := h
  injection h1 with e1 e2 e3
  subst e1 e3
  obtain ⟨g', o', cur, fr, e4, e5, e6⟩ := h5 (by simp)
  injection e4 with e4
  injection e4 with e4a e4b
  subst e4a e4b
  have hlc : rs.length + 1 ≤ c := by simpa using h3
  have hrun : ∀ W, (Instr.sliceAt 46 (.slice (some ⟨g, o, none⟩) (rs.length + 1) c) (some (.int .i64 1)) none none).run Try.prog W = .ok (sliced (some ⟨g, o, none⟩) 1 (rs.length + 1) c 3) W := fun W => by
    rw [run_sliceAt_slice _ _ _ _ _ _ (by rw [elem46]; exact Try.underlying46), run_slice_l _ _ _ _ _ (by rw [elem46]; exact Try.underlying46) .i64 (1 : Int) (by omega) (by omega), elem46, size29]
    rfl
  by_cases h0 : c = 1
  · subst h0
    have hl : rs = [] := List.eq_nil_of_length_eq_zero (by omega)
    subst hl
    exact ⟨some ⟨g, o, none⟩, fun W => by rw [hrun]; simp [sliced], fun W _ => ⟨_, 0, rfl, (fun e => by cases e), Nat.le_refl _, by decide, fun h => by simp at h⟩, fun ad e => by rw [← Option.some.inj e]⟩
  · have hadd : (⟨g, o, none⟩ : Addr).add 3 = ⟨g, o + 3, none⟩ := by simp only [Addr.add]; split <;> simp_all
    refine ⟨some ⟨g, o + 3, none⟩, fun W => by rw [hrun]; simp [sliced, h0, hadd], fun W hr => ?_, fun ad e => by rw [← Option.some.inj e]⟩
    refine Mr.keep ⟨_, c - 1, rfl, (fun e => by cases e), by omega, by omega, fun _ => ⟨g, o + 3, cur, fr, rfl, e5, fun j u hu => ?_⟩⟩ hr
    have := e6 (j + 3) u (by rw [cellsM_cons]; show ([_, _, _] ++ cellsM rs)[j + 3]? = _; simpa using hu)
    rw [show o + 3 + j = o + (j + 3) by omega]
    exact this
theorem infoMs : (Try.prog.info? 29).map (fun i => (i.zero.map (·.cells.size), i.size, i.bytes)) = some (some 3, 3, 40) := by kernel_rfl
/-- append of messages to a row of one's own. -/
theorem appM_run {W : World} {B n : Nat} {v u : Value} {xs : List Value} {qs : List Mw} (ho : W.ownsRow B 29 3 v n xs) (h : Mr W u qs) (hl : n + qs.length ≤ 1000000) (hB : B ≤ W.heap.size) (ty : TypeId) :
    ∃ v' w', (Builtin.append_ #[46, 46] ty #[v, u]).run Try.prog W = .ok v' w' ∧ w'.ownsRow B 29 3 v' (n + qs.length) (xs ++ cellsM qs) ∧ W.grownBy w' v.ownBlock := by
  obtain ⟨i0, hi, hz0, hz1, hz2⟩ : ∃ i0, Try.prog.info? 29 = some i0 ∧ (∃ z, i0.zero = some z ∧ z.cells.size = 3) ∧ i0.size = 3 ∧ i0.bytes = 40 := by
    have := infoMs
    cases hi : Try.prog.info? 29 with
    | none => rw [hi] at this; cases this
    | some i0 =>
      rw [hi] at this
      simp only [Option.map_some, Option.some.injEq, Prod.mk.injEq, Option.map_eq_some_iff] at this
      exact ⟨i0, rfl, this.1, this.2.1, this.2.2⟩
  obtain ⟨z, hz, hz3⟩ := hz0
  obtain ⟨a, c, rfl, h1, h2, h3, h4⟩ := h
  cases a with
  | none =>
    obtain rfl := h1 rfl
    have h0 : qs = [] := by
      cases qs with
      | nil => rfl
      | cons q qs => simp at h2
    subst h0
    exact ⟨v, W, run_append_owned_none W B 46 ty 29 i0 3 Try.underlying46 hi v n _ ho, by simpa [cellsM] using ho, ⟨rfl, rfl, rfl, Nat.le_refl _, fun _ _ _ => rfl⟩⟩
  | some ad =>
    obtain ⟨v', w', e1, e2, e3, _⟩ := run_append_own (P := Try.prog) W B 46 ty 29 i0 z 3 40 Try.underlying46 hi hz hz1 hz2 hz3 (by decide) v n xs ho ad qs.length c (cellsM qs) (cellsM_len qs)
      (fun j u hu => by
        have hj : 0 < qs.length := by
          cases qs with
          | nil => simp [cellsM] at hu
          | cons => simp
        obtain ⟨g, o, cur, fr, h5, h6, h7⟩ := h4 hj
        obtain rfl := Option.some.inj h5
        have hadd : (⟨g, o, none⟩ : Addr).add j = ⟨g, o + j, none⟩ := by unfold Addr.add; split <;> simp_all
        rw [hadd]
        exact h7 j u hu) (cellsM_one qs) (by unfold maxLen; omega) (by omega) hB
    exact ⟨v', w', e1, e2, e3⟩
theorem mr_new (W : World) (r : Mw) : Mr (W.alloc (.cells #[.int .i64 r.x, .int .i64 r.y, .slice r.a r.rs.length r.cap] 29)) (.slice (some ⟨W.heap.size, 0, none⟩) 1 1) [r] := by
  refine ⟨_, 1, rfl, (fun e => by cases e), Nat.le_refl _, by decide, fun _ => ⟨W.heap.size, 0, _, _, rfl, Go.heap_alloc_new W _, fun j u hu => ?_⟩⟩
  rw [cell_of_row _ _ _ _ _ _ (Go.heap_alloc_new W _), Nat.zero_add]
  simp only [cellsM, List.flatMap_cons, List.flatMap_nil, List.append_nil, Mw.cells] at hu
  simpa using hu
theorem own_none (W : World) : (W.alloc (.cells #[] 29)).ownsRow W.heap.size 29 3 (.slice (some ⟨W.heap.size, 0, none⟩) 0 0) 0 [] :=
  ⟨rfl, .inr ⟨W.heap.size, 0, #[], rfl, Nat.le_refl _, Go.heap_alloc_new W _, Nat.le_refl _, by decide, rfl, rfl⟩⟩
/-- What Put leaves, whichever comes first: a row of one's own, then the message's own; .. -/
def Put3 (W w4 : World) (rows : List Mw) (mw : Mw) (a4 : Option Addr) (c4 : Nat) : Prop :=
  Below W.heap.size W w4 ∧ w4.ownsRow W.heap.size 29 3 (.slice a4 (rows.length + 1) c4) (rows.length + 1) (cellsM (rows ++ [mw]))
theorem put3_of {W w3 w4 : World} {rows : List Mw} {mw : Mw} {v : Value} (hb : Below W.heap.size W w3) (ho3 : w3.ownsRow W.heap.size 29 3 v (0 + rows.length) ([] ++ cellsM rows)) {v4 : Value} (ho : w4.ownsRow W.heap.size 29 3 v4 (0 + rows.length + [mw].length) ([] ++ cellsM rows ++ cellsM [mw])) (hg : w3.grownBy w4 v.ownBlock) :
    ∃ a4 c4, v4 = .slice a4 (rows.length + 1) c4 ∧ Put3 W w4 rows mw a4 c4 := by
  have e : [] ++ cellsM rows ++ cellsM [mw] = cellsM (rows ++ [mw]) := by rw [List.nil_append, cellsM_append]
  rw [e] at ho
  obtain ⟨h1, h2⟩ := Mr.own ho
  obtain ⟨a4, c4, h3⟩ := h2.len
  have h4 : (rows ++ [mw]).length = rows.length + 1 := by simp
  rw [h4] at h3
  subst h3
  refine ⟨a4, c4, rfl, hb.grown hg hb.size (fun j hj => (ho3.lt j hj).1), ?_⟩
  rw [h1, h4] at ho
  exact ho
theorem grown_off {w3 w4 : World} {v : Value} (hg : w3.grownBy w4 v.ownBlock) {W : World} {n : Nat} {xs : List Value} (ho : w3.ownsRow W.heap.size 29 3 v n xs) {b : Nat} {ob : Obj} (hb : w3.heap[b]? = some ob) (hne : v.ownBlock ≠ some b) : w4.heap[b]? = some ob :=
  (hg.block b (lt_of_get hb) (fun e => hne e.symm)).trans hb
theorem ordA {W : World} {u : Value} {rows : List Mw} (hL : Mr W u rows) (hl : rows.length ≤ 8) (mw : Mw) :
    ∃ v2 w2 a4 c4 w4, (Builtin.append_ #[46, 46] 46 #[.slice (some ⟨W.heap.size, 0, none⟩) 0 0, u]).run Try.prog (W.alloc (.cells #[] 29)) = .ok v2 w2 ∧
      (Builtin.append_ #[46, 46] 46 #[v2, .slice (some ⟨w2.heap.size, 0, none⟩) 1 1]).run Try.prog (w2.alloc (.cells #[.int .i64 mw.x, .int .i64 mw.y, .slice mw.a mw.rs.length mw.cap] 29)) = .ok (.slice a4 (rows.length + 1) c4) w4 ∧
      Below W.heap.size W w2 ∧ Put3 W w4 rows mw a4 c4 := by
  have hb1 := below_made W (.cells #[] 29)
  obtain ⟨v2, w2, r2, o2, g2⟩ := appM_run (own_none W) (hL.keep (.of_below hb1)) (by omega) hb1.size 46
  have hb2 : Below W.heap.size W w2 := hb1.grown g2 hb1.size (fun j hj => ((own_none W).lt j hj).1)
  have hb3 := below_on' hb2 (below_made w2 (.cells #[.int .i64 mw.x, .int .i64 mw.y, .slice mw.a mw.rs.length mw.cap] 29))
  have o3 := byt.own_below o2 (below_made w2 (.cells #[.int .i64 mw.x, .int .i64 mw.y, .slice mw.a mw.rs.length mw.cap] 29))
  obtain ⟨v4, w4, r4, o4, g4⟩ := appM_run o3 (mr_new w2 mw) (by simp; omega) hb3.size 46
  obtain ⟨a4, c4, rfl, hp⟩ := put3_of hb3 o3 o4 g4
  exact ⟨v2, w2, a4, c4, w4, r2, r4, hb2, hp⟩
theorem ordB {W : World} {u : Value} {rows : List Mw} (hL : Mr W u rows) (hl : rows.length ≤ 8) (mw : Mw) :
    ∃ v3 w3 a4 c4 w4, (Builtin.append_ #[46, 46] 46 #[.slice (some ⟨W.heap.size, 0, none⟩) 0 0, u]).run Try.prog ((W.alloc (.cells #[] 29)).alloc (.cells #[.int .i64 mw.x, .int .i64 mw.y, .slice mw.a mw.rs.length mw.cap] 29)) = .ok v3 w3 ∧
      (Builtin.append_ #[46, 46] 46 #[v3, .slice (some ⟨W.heap.size + 1, 0, none⟩) 1 1]).run Try.prog w3 = .ok (.slice a4 (rows.length + 1) c4) w4 ∧
      Below W.heap.size W w3 ∧ Put3 W w4 rows mw a4 c4 := by
  have hb1 := below_made W (.cells #[] 29)
  obtain ⟨W1, hW1⟩ : ∃ X, W.alloc (.cells #[] 29) = X := ⟨_, rfl⟩
  have hs1 : W1.heap.size = W.heap.size + 1 := by rw [← hW1, World.size_alloc]
  have hb2 := below_made W1 (.cells #[.int .i64 mw.x, .int .i64 mw.y, .slice mw.a mw.rs.length mw.cap] 29)
  have on := own_none W
  have hm := mr_new W1 mw
  rw [hW1] at hb1 on ⊢
  have o2 := byt.own_below on hb2
  have hbb := below_on' hb1 hb2
  obtain ⟨v3, w3, r3, o3, g3⟩ := appM_run o2 (hL.keep (.of_below hbb)) (by omega) hbb.size 46
  have hb3 : Below W.heap.size W w3 := hbb.grown g3 hbb.size (fun j hj => (o2.lt j hj).1)
  have hm3 : Mr w3 (.slice (some ⟨W1.heap.size, 0, none⟩) 1 1) [mw] := by
    obtain ⟨a, c, h1, h2, h3, h4, h5⟩ := hm
    refine ⟨a, c, h1, h2, h3, h4, fun h0 => ?_⟩
    obtain ⟨g, o, cur, fr, e1, e2, e3⟩ := h5 h0
    have e4 := grown_off g3 o2 e2 (fun e => by
      injection h1 with h1 _ _
      rw [e1] at h1
      injection h1 with h1
      injection h1 with h1 _
      have := Option.some.inj e
      simp at this
      omega)
    exact ⟨g, o, cur, fr, e1, e4, fun j u hu => by
      rw [World.cell?_of_block (w := W1.alloc (.cells #[.int .i64 mw.x, .int .i64 mw.y, .slice mw.a mw.rs.length mw.cap] 29)) (a := ⟨g, o + j, none⟩) (e4.trans e2.symm)]
      exact e3 j u hu⟩
  rw [hs1] at hm3
  obtain ⟨v4, w4, r4, o4, g4⟩ := appM_run o3 hm3 (by simp; omega) hb3.size 46
  obtain ⟨a4, c4, rfl, hp⟩ := put3_of hb3 o3 o4 g4
  exact ⟨v3, w3, a4, c4, w4, r3, r4, hb3, hp⟩
theorem ordC {W : World} {u : Value} {rows : List Mw} (hL : Mr W u rows) (hl : rows.length ≤ 8) (mw : Mw) :
    ∃ v3 w3 a4 c4 w4, (Builtin.append_ #[46, 46] 46 #[.slice (some ⟨W.heap.size + 1, 0, none⟩) 0 0, u]).run Try.prog ((W.alloc (.cells #[.int .i64 mw.x, .int .i64 mw.y, .slice mw.a mw.rs.length mw.cap] 29)).alloc (.cells #[] 29)) = .ok v3 w3 ∧
      (Builtin.append_ #[46, 46] 46 #[v3, .slice (some ⟨W.heap.size, 0, none⟩) 1 1]).run Try.prog w3 = .ok (.slice a4 (rows.length + 1) c4) w4 ∧
      Below W.heap.size W w3 ∧ Put3 W w4 rows mw a4 c4 := by
  have hb1 := below_made W (.cells #[.int .i64 mw.x, .int .i64 mw.y, .slice mw.a mw.rs.length mw.cap] 29)
  have hm := mr_new W mw
  obtain ⟨W1, hW1⟩ : ∃ X, W.alloc (.cells #[.int .i64 mw.x, .int .i64 mw.y, .slice mw.a mw.rs.length mw.cap] 29) = X := ⟨_, rfl⟩
  have hs1 : W1.heap.size = W.heap.size + 1 := by rw [← hW1, World.size_alloc]
  have hb2 := below_made W1 (.cells #[] 29)
  have on := own_none W1
  rw [hW1] at hb1 hm ⊢
  rw [hs1] at on
  have o2 : (W1.alloc (.cells #[] 29)).ownsRow W.heap.size 29 3 (.slice (some ⟨W.heap.size + 1, 0, none⟩) 0 0) 0 [] := by
    refine ⟨rfl, .inr ⟨W.heap.size + 1, 0, #[], rfl, by omega, ?_, Nat.le_refl _, by decide, rfl, rfl⟩⟩
    rw [← hs1]; exact Go.heap_alloc_new W1 _
  have hbb := below_on' hb1 hb2
  obtain ⟨v3, w3, r3, o3, g3⟩ := appM_run o2 (hL.keep (.of_below hbb)) (by omega) hbb.size 46
  have hb3 : Below W.heap.size W w3 := hbb.grown g3 hbb.size (fun j hj => (o2.lt j hj).1)
  have hm2 := hm.keep (.of_below hb2)
  have hm3 : Mr w3 (.slice (some ⟨W.heap.size, 0, none⟩) 1 1) [mw] := by
    obtain ⟨a, c, h1, h2, h3, h4, h5⟩ := hm2
    refine ⟨a, c, h1, h2, h3, h4, fun h0 => ?_⟩
    obtain ⟨g, o, cur, fr, e1, e2, e3⟩ := h5 h0
    have e4 := grown_off g3 o2 e2 (fun e => by
      injection h1 with h1 _ _
      rw [e1] at h1
      injection h1 with h1
      injection h1 with h1 _
      have := Option.some.inj e
      simp at this
      omega)
    exact ⟨g, o, cur, fr, e1, e4, fun j u hu => by
      rw [World.cell?_of_block (w := W1.alloc (.cells #[] 29)) (a := ⟨g, o + j, none⟩) (e4.trans e2.symm)]
      exact e3 j u hu⟩
  obtain ⟨v4, w4, r4, o4, g4⟩ := appM_run o3 hm3 (by simp; omega) hb3.size 46
  obtain ⟨a4, c4, rfl, hp⟩ := put3_of hb3 o3 o4 g4
  exact ⟨v3, w3, a4, c4, w4, r3, r4, hb3, hp⟩
/-- The reference's pipe at r. -/
def IsRef (w : World) (r : Nat) (room : Int) (ms : List Ms) : Prop :=
  ∃ v rows, rows.map Mw.p = ms ∧ w.heap[r]? = some (.cells #[v, .int .i64 room] 48 (0, 0)) ∧ Mr w v rows ∧ ∀ x ∈ rows, Sr w (.slice x.a x.rs.length x.cap) x.rs
theorem IsRef.lt {w : World} {r : Nat} {room : Int} {ms : List Ms} (h : IsRef w r room ms) : r < w.heap.size := by obtain ⟨v, rows, _, h1, _⟩ := h; exact lt_of_get h1
theorem IsRef.below {w w' : World} {r : Nat} {room : Int} {ms : List Ms} (h : IsRef w r room ms) (hb : Below w.heap.size w w') : IsRef w' r room ms := by
  obtain ⟨v, rows, h1, h2, h3, h4⟩ := h
  exact ⟨v, rows, h1, (hb.block r (lt_of_get h2)).trans h2, h3.keep (.of_below hb), fun x hx => (h4 x hx).below hb⟩
/-- The reference's row, if it has any, lies below B. -/
def RefIn (w : World) (r B : Nat) : Prop := ∀ (ad : Addr) (n c : Nat) (q : Value) (t : TypeId) (fr : Nat × Nat), w.heap[r]? = some (.cells #[.slice (some ad) n c, q] t fr) → 0 < n → ad.block < B
theorem RefIn.keep {w w' : World} {r B : Nat} (h : RefIn w r B) (e : w'.heap[r]? = w.heap[r]?) : RefIn w' r B := fun ad n c q t fr hw hn => h ad n c q t fr (e.symm.trans hw) hn
theorem IsRef.inn {w : World} {r : Nat} {room : Int} {ms : List Ms} (h : IsRef w r room ms) : RefIn w r w.heap.size := by
  obtain ⟨v, rows, h1, h2, h3, h4⟩ := h
  intro ad n c q t fr hw hn
  rw [h2] at hw
  injection hw with hw
  injection hw with hw
  injection hw with hw
  injection hw with hw
  obtain ⟨a, c', rfl, e2, e3, e4, e5⟩ := h3
  injection hw with e6 e7 e8
  subst e6 e7
  obtain ⟨g, o, cur, fr', e9, e10, _⟩ := e5 hn
  obtain rfl := Option.some.inj e9
  exact lt_of_get e10
/-- The row stays where only blocks at B and above, or a channel, turn. -/
theorem IsRef.only {F : Nat → Prop} {w w' : World} {r : Nat} {room : Int} {ms : List Ms} (h : IsRef w r room ms) {B : Nat} (hi : RefIn w r B) (hrF : ¬ F r) (ho : Only F w w') (hF : ∀ k, F k → k < B → ∀ cur fr, w.heap[k]? ≠ some (.cells cur 29 fr))
    (hs : ∀ v rs, Sr w v rs → Sr w' v rs) : IsRef w' r room ms := by
  obtain ⟨v, rows, h1, h2, h3, h4⟩ := h
  refine ⟨v, rows, h1, (ho.block r (lt_of_get h2) hrF).trans h2, ?_, fun x hx => hs _ _ (h4 x hx)⟩
  obtain ⟨a, c, rfl, e2, e3, e4, e5⟩ := h3
  refine ⟨a, c, rfl, e2, e3, e4, fun hl => ?_⟩
  obtain ⟨g, o, cur, fr, rfl, e7, e8⟩ := e5 hl
  have hg : w'.heap[g]? = w.heap[g]? := ho.block g (lt_of_get e7) fun hf => hF g hf (hi ⟨g, o, none⟩ _ _ _ _ _ h2 hl) cur fr e7
  exact ⟨g, o, cur, fr, rfl, hg.trans e7, fun j u hu => by rw [World.cell?_of_block (w := w) (a := ⟨g, o + j, none⟩) hg]; exact e8 j u hu⟩
theorem IsRef.cell {w : World} {r : Nat} {room : Int} {ms : List Ms} (h : IsRef w r room ms) : ∃ a c, w.cell? ⟨r, 0, none⟩ = some (.slice a ms.length c) := by
  obtain ⟨v, rows, h1, h2, h3, h4⟩ := h
  obtain ⟨a, c, rfl⟩ := h3.len
  refine ⟨a, c, ?_⟩
  rw [cell_of_row w r 0 _ _ _ h2, ← h1, List.length_map]; rfl
end Go.Proofs.Ytknldabnkaecdaa.pip
