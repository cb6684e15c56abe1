/- What readJob answers, and readerOf. -/
import Derived.Test.YtnelfokfgnikfaaDoorPkV
namespace Go.Proofs.YtnelfokfgnikfaaDoor.pk
set_option linter.unusedSimpArgs false
set_option linter.unusedVariables false
open Go.RowKit nam exp jb

set_option maxHeartbeats 1600000 in
set_option maxRecDepth 1000000 in
theorem job1_any {w : World} {L : Lay} {q : St} {N : Nat} (h : IsR w L q) (hb : BoxR w L N) : Calls Tryd.prog 42 #[ptr N] w (NodePost L w (nodeO q).1 (nodeO q).2) := by
  obtain ⟨W, hW⟩ : ∃ W, w.alloc zeroN = W := ⟨_, rfl⟩
  have hwb : Below w.heap.size w W := by rw [← hW]; exact below_made _ _
  have HB := Lib.hid hwb; have HMM := Lib.hid h.lM
  have HZ : Hid (W.heap[w.heap.size]? = some zeroN) := Lib.hid (by rw [← hW]; exact heap_last rfl)
  obtain ⟨c0, c1, c2, c3⟩ := (hb.under hwb).four
  have HC := Lib.hid (node_any (h.under hwb))
  have HR := Lib.hid (h.under hwb)
  obtain ⟨nd, hx⟩ : ∃ x, (nodeO q).1 = x := ⟨_, rfl⟩
  obtain ⟨q1, hq1⟩ : ∃ q1, (nodeO q).2 = q1 := ⟨_, rfl⟩
  rw [hx, hq1] at HC ⊢
  have HWS : Hid (W.heap.size = w.heap.size + 1) := Lib.hid (by rw [← hW]; simp)
  unfold rdV numV withinV textV faultV at HC
  clear h hb hwb hx hq1
  go_enter Tryd.func42, Tryd.ntmps42
  go_wp2_with fail
  refine HC.out.mono ?_
  rintro e w1 ⟨vi, va, rfl, hok, hp⟩
  have hok1 : w1.ownsRow W.heap.size 3 1 vi nd.ins.length (nd.ins.map intV) := hok.1
  have hok2 : Lies w1 (fun b => W.heap.size ≤ b) va nd.x.args := hok.2
  obtain ⟨aa, ca, rfl, -⟩ := hok2.form
  obtain ⟨ai, ci, rfl, -, -⟩ := own_slice hok1
  have HP := Lib.hid hp; have HL := Lib.hid hok
  have HZ1 := Lib.hid (hp.2.ty HR.out HZ.out (by decide) (by decide))
  obtain ⟨ni, hni⟩ : ∃ n, nd.ins.length = n := ⟨_, rfl⟩
  obtain ⟨na, hna⟩ : ∃ n, nd.x.args.length = n := ⟨_, rfl⟩
  rw [hni, hna] at HL ⊢
  obtain ⟨z0, z1, z2, z3, z4, z5, z6, hf⟩ := cells7 HZ1.out
  have f0 := hf 0; have f1 := hf 1; have f2 := hf 2; have f3 := hf 3; have f4 := hf 4; have f5 := hf 5; have f6 := hf 6
  obtain ⟨M, hM⟩ : ∃ M, w.heap.size = M := ⟨_, rfl⟩
  have HFIN : Hid (NodePost L w nd q1 (.returned (.agg #[.string nd.uid, .int .u8 (nd.kind : Int), .slice ai ni ci, .int .u8 (nd.x.op : Int), .int .i64 nd.x.n, .slice aa na ca, .int .i64 nd.n])) (put7 w1 M (.string nd.uid) (.int .u8 (nd.kind : Int)) (.slice ai ni ci) (.int .u8 (nd.x.op : Int)) (.int .i64 nd.x.n) (.slice aa na ca) (.int .i64 nd.n))) := Lib.hid (by
    have hLM := HMM.out
    have hws := HWS.out
    have hRP : RPost L w q1 w1 := ⟨HP.out.1, (Leaves.of_below HB.out).trans HP.out.2⟩
    exact ⟨_, _, rfl, (HL.out.put7 (by omega)).more (by omega), hRP.put7 hLM (by omega)⟩)
  have HS7 := Lib.hid (set7 (a' := .string nd.uid) (b' := .int .u8 (nd.kind : Int)) (c' := .slice ai ni ci) (d' := .int .u8 (nd.x.op : Int)) (e' := .int .i64 nd.x.n) (f' := .slice aa na ca) (g' := .int .i64 nd.n) HZ1.out)
  rw [hM] at z0 z1 z2 z3 z4 z5 z6 f0 f1 f2 f3 f4 f5 f6 HS7 ⊢
  clear hp hok hok1 hok2 hf hni hna
  unfold nodeV
  go_wp2_with fail
  obtain ⟨e0, e1, e2, e3, e4, e5, e6, -⟩ := cells7 HS7.out
  exact bodyPost_ret (v := .agg #[.string nd.uid, .int .u8 (nd.kind : Int), .slice ai ni ci, .int .u8 (nd.x.op : Int), .int .i64 nd.x.n, .slice aa na ca, .int .i64 nd.n]) (by simp [results, Tryd.f42, go_sem, e0, e1, e2, e3, e4, e5, e6]) rfl HFIN.out

/-- A job as a value. -/
def jobV (par : Int) (v : Value) : Value := .agg #[.int .i64 par, v]
def JobPost (L : Lay) (w : World) (j : Int × List Nd) (q' : St) (e : Ending) (w' : World) : Prop := ∃ v rows, e = .returned (jobV j.1 v) ∧ rows.map (·.1) = j.2 ∧ NRowsAt w.heap.size w' v rows ∧ RPost L w q' w'
theorem NRowsAt.more {H H' : Nat} {w : World} {v : Value} {rows : List NRow} (h : NRowsAt H w v rows) (hB : H' ≤ H) : NRowsAt H' w v rows := ⟨own_more h.1 hB, fun c hc => (h.2 c hc).more hB⟩
theorem NRowsAt.put {H b j : Nat} {w : World} {v z : Value} {rows : List NRow} (h : NRowsAt H w v rows) (hb : b < H) : NRowsAt H (w.setCell ⟨b, j, none⟩ z) v rows :=
  ⟨own_put h.1 fun g hg e => by have := (h.1.lt g hg).1; omega, fun c hc => (h.2 c hc).put hb⟩
theorem NRowsAt.form {H : Nat} {w : World} {v : Value} {rows : List NRow} (h : NRowsAt H w v rows) : ∃ a c, v = .slice a rows.length c := by
  rcases h.1.2 with ⟨rfl, h0⟩ | ⟨g, cap, cur, rfl, _⟩
  · exact ⟨none, 0, by rw [h0]⟩
  · exact ⟨_, cap, rfl⟩
theorem set2 {w : World} {b : Nat} {x y x' y' : Value} {t : TypeId} (h : w.heap[b]? = some (.cells #[x, y] t (0, 0))) : ((w.setCell ⟨b, 0, none⟩ x').setCell ⟨b, 1, none⟩ y').heap[b]? = some (.cells #[x', y'] t (0, 0)) := setCell_heap (setCell_heap h)
theorem cells2 {w : World} {b : Nat} {x y : Value} {t : TypeId} (h : w.heap[b]? = some (.cells #[x, y] t (0, 0))) : w.cell? ⟨b, 0, none⟩ = some x ∧ w.cell? ⟨b, 1, none⟩ = some y ∧ w.frozen? ⟨b, 0, none⟩ = false ∧ w.frozen? ⟨b, 1, none⟩ = false :=
  ⟨cell_of h rfl, cell_of h rfl, by simp [World.frozen?, h], by simp [World.frozen?, h]⟩
set_option maxHeartbeats 1600000 in
set_option maxRecDepth 1000000 in
theorem readJob_any {w : World} {L : Lay} {q : St} (h : IsR w L q) : Calls Tryd.prog 17 #[rdV L] w (JobPost L w (jobO q).1 (jobO q).2) := by
  obtain ⟨W, hW⟩ : ∃ W, (w.alloc (.cells #[numV L, withinV L, textV L, faultV L] 41)).alloc (.cells #[.int .i64 0, .slice none 0 0] 24) = W := ⟨_, rfl⟩
  obtain ⟨N, hN⟩ : ∃ N, w.heap.size = N := ⟨_, rfl⟩
  have hwb : Below w.heap.size w W := by rw [← hW]; exact (below_made w _).alloc (by simp) _
  have hWs : W.heap.size = N + 1 + 1 := by rw [← hW, ← hN]; simp
  have hb0 : W.heap[N]? = some (.cells #[numV L, withinV L, textV L, faultV L] 41 (0, 0)) := by rw [← hW]; exact heap_old (heap_last hN.symm)
  have hb2 : W.heap[N + 1]? = some (.cells #[.int .i64 0, .slice none 0 0] 24 (0, 0)) := by rw [← hW]; exact heap_last (by simp [hN])
  have HB := Lib.hid hwb; have HLM := Lib.hid h.lM
  have HO0 : Hid (On L N W q W) := Lib.hid ⟨h.under hwb, ⟨hb0, by rw [← hN]; exact h.lM⟩, Leaves.refl _ _⟩
  have HB2 := Lib.hid hb2
  have HW := Lib.hid hWs
  have HNU := Lib.hid (num_any (h.under hwb))
  obtain ⟨par, hpar⟩ : ∃ n, (numO q).1 = n := ⟨_, rfl⟩
  obtain ⟨q1, hq1⟩ : ∃ q1, (numO q).2 = q1 := ⟨_, rfl⟩
  obtain ⟨l, hl⟩ : ∃ l, (nodesO q1).1 = l := ⟨_, rfl⟩
  obtain ⟨q2, hq2⟩ : ∃ q2, (nodesO q1).2 = q2 := ⟨_, rfl⟩
  have HJ : Hid (jobO q = ((par, l), q2)) := Lib.hid (by unfold jobO; rw [hpar, hq1, hl, hq2])
  rw [hpar, hq1] at HNU
  have hnodes : rowO nodeO (withinO 12 3 q1).1.toNat (withinO 12 3 q1).2 = (l, q2) := by unfold nodesO at hl hq2; rw [← hl, ← hq2]
  have HND := Lib.hid hnodes
  rw [HJ.out]
  have hen1 := enters1
  obtain ⟨c0, c1, c2, c3⟩ := HO0.out.box.four
  unfold rdV numV withinV textV faultV
  unfold numV withinV textV faultV at hW
  have HWW := Lib.hid hW
  have HNN := Lib.hid hN
  clear h hwb hb0 hb2 hWs hpar hq1 hl hq2 hnodes hW hN
  go_enter Tryd.func17, Tryd.ntmps17
  go_upto_region 1 with fail
  rw [HNN.out, HWW.out]
  go_wp2_with fail
  refine HNU.out.mono ?_
  rintro e w1 ⟨rfl, hp⟩
  have HO1 := Lib.hid (HO0.out.call hp)
  have HR1 := Lib.hid (hp.2.ty HO0.out.rd HB2.out (by decide) (by decide))
  clear hp c0 c1 c2 c3
  go_upto_region 2 with fail
  obtain ⟨W2, hW2⟩ : ∃ W2, w1.alloc (.cells #[.int .i64 par, .slice none 0 0] 24) = W2 := ⟨_, rfl⟩
  obtain ⟨b, hbz⟩ : ∃ b, w1.heap.size = b := ⟨_, rfl⟩
  rw [hW2, hbz]
  have HO2 : Hid (On L N W q1 W2) := Lib.hid (by rw [← hW2]; exact HO1.out.made _)
  have HZ2 : Hid (W2.heap[b]? = some (.cells #[.int .i64 par, .slice none 0 0] 24 (0, 0))) := Lib.hid (by rw [← hW2]; exact heap_last hbz.symm)
  have HR2 : Hid (W2.heap[N + 1]? = some (.cells #[.int .i64 0, .slice none 0 0] 24 (0, 0))) := Lib.hid (by rw [← hW2]; exact heap_old HR1.out)
  have HBB : Hid (W.heap.size ≤ b) := Lib.hid (by rw [← hbz]; exact HO1.out.lv.size)
  have HROW := Lib.hid (row_node (K := 42) (cp := #[ptr N]) (f := nodeO) 12 (by omega) (by omega) HO2.out.rd (enters_of Tryd.func42 (by kernel_rfl) rfl) (fun q5 w5 h5 hl5 => job1_any h5 (HO2.out.box.leaves hl5 HO2.out.rd)))
  rw [HND.out] at HROW
  unfold rdV numV withinV textV faultV at HROW
  obtain ⟨c0, c1, c2, c3⟩ := HO2.out.box.four
  clear hW2 hbz
  go_wp2_with fail
  refine HROW.out.mono ?_
  rintro e w3 ⟨v, rows, rfl, hmap, hnod, hp⟩
  obtain ⟨av, cv, rfl⟩ := hnod.form
  obtain ⟨nv, hnv⟩ : ∃ n, rows.length = n := ⟨_, rfl⟩
  have HNV := Lib.hid hnv
  rw [hnv] at hnod ⊢
  have HNO := Lib.hid hnod; have HMP := Lib.hid hmap; have HP3 := Lib.hid hp
  have HZ3 := Lib.hid (hp.2.ty HO2.out.rd HZ2.out (by decide) (by decide))
  have HR3 := Lib.hid (hp.2.ty HO2.out.rd HR2.out (by decide) (by decide))
  obtain ⟨z0, z1, f0, f1⟩ := cells2 HZ3.out
  clear hnod hmap hp hnv c0 c1 c2 c3
  go_upto_region 3 with fail
  obtain ⟨W3, hW3⟩ : ∃ W3, w3.setCell ⟨b, 1, none⟩ (.slice av nv cv) = W3 := ⟨_, rfl⟩
  rw [hW3]
  have hne : N + 1 ≠ b := by have := HBB.out; have := HW.out; omega
  have HE3 : Hid (W3.heap[b]? = some (.cells #[.int .i64 par, .slice av nv cv] 24 (0, 0))) := Lib.hid (by rw [← hW3]; exact setCell_heap HZ3.out)
  have HT3 : Hid (W3.heap[N + 1]? = some (.cells #[.int .i64 0, .slice none 0 0] 24 (0, 0))) := Lib.hid (by rw [← hW3, Below.heap_setCell _ _ _ _ hne]; exact HR3.out)
  obtain ⟨y0, y1, -, -⟩ := cells2 HE3.out
  obtain ⟨t0, t1, g0, g1⟩ := cells2 HT3.out
  have HS2 := Lib.hid (set2 (x' := .int .i64 par) (y' := .slice av nv cv) HT3.out)
  have HFIN : Hid (NRowsAt w.heap.size ((W3.setCell ⟨N + 1, 0, none⟩ (.int .i64 par)).setCell ⟨N + 1, 1, none⟩ (.slice av nv cv)) (.slice av nv cv) rows ∧ RPost L w q2 ((W3.setCell ⟨N + 1, 0, none⟩ (.int .i64 par)).setCell ⟨N + 1, 1, none⟩ (.slice av nv cv))) := Lib.hid (by
    have hN := HNN.out; have hWsz := HW.out; have hbb := HBB.out; have hLM := HLM.out; have h2sz := HO2.out.lv.size
    have hb2 := (Array.getElem?_eq_some_iff.1 HZ2.out).1
    have hRP : RPost L w q2 w3 := ⟨HP3.out.1, (Leaves.of_below HB.out).trans (HO2.out.lv.trans HP3.out.2)⟩
    refine ⟨?_, ?_⟩
    · rw [← hW3]
      exact (((HNO.out.put hb2).put (by omega)).put (by omega)).more (by omega)
    · rw [← hW3]
      exact ((hRP.put hLM (by omega)).put hLM (by omega)).put hLM (by omega))
  clear z0 z1 f0 f1 hW3
  go_wp2_with fail
  obtain ⟨e0, e1, -, -⟩ := cells2 HS2.out
  exact bodyPost_ret (v := .agg #[.int .i64 par, .slice av nv cv]) (by simp [results, Tryd.f17, go_sem, e0, e1]) rfl ⟨_, rows, rfl, HMP.out, HFIN.out.1, HFIN.out.2⟩
/-- What readerOf leaves. -/
def OfPost (s : ByteArray) (w : World) (e : Ending) (w' : World) : Prop := ∃ L, e = .returned (rdV L) ∧ IsR w' L ⟨s, 0⟩ ∧ Below w.heap.size w w' ∧ w.heap.size ≤ L.a ∧ w.heap.size ≤ L.f
set_option maxHeartbeats 1600000 in
set_option maxRecDepth 1000000 in
theorem readerOf_any (s : ByteArray) (w : World) (hs : s.size ≤ 1000000000) : Calls Tryd.prog 16 #[.string s] w (OfPost s w) := by
  obtain ⟨N, hN⟩ : ∃ N, w.heap.size = N := ⟨_, rfl⟩
  go_enter Tryd.func16, Tryd.ntmps16
  go_wp2_with fail
  have h5 : ∀ (a b c d e : Obj), (((((w.alloc a).alloc b).alloc c).alloc d).alloc e).heap[N]? = some a ∧ (((((w.alloc a).alloc b).alloc c).alloc d).alloc e).heap[N + 1]? = some b ∧ (((((w.alloc a).alloc b).alloc c).alloc d).alloc e).heap[N + 1 + 1]? = some c ∧
      (((((w.alloc a).alloc b).alloc c).alloc d).alloc e).heap[N + 1 + 1 + 1]? = some d ∧ (((((w.alloc a).alloc b).alloc c).alloc d).alloc e).heap[N + 1 + 1 + 1 + 1]? = some e := fun a b c d e =>
    ⟨heap_old (heap_old (heap_old (heap_old (heap_last hN.symm)))), heap_old (heap_old (heap_old (heap_last (by simp [hN])))), heap_old (heap_old (heap_last (by simp [hN]))), heap_old (heap_last (by simp [hN])), heap_last (by simp [hN])⟩
  obtain ⟨a1, a2, a3, a4, a5⟩ := h5 (.cells #[.string s] 9) (.cells #[numV ⟨N, N + 1 + 1, N + 1 + 1 + 1, N + 1 + 1 + 1 + 1, N + 1 + 1 + 1 + 1 + 1⟩, withinV ⟨N, N + 1 + 1, N + 1 + 1 + 1, N + 1 + 1 + 1 + 1, N + 1 + 1 + 1 + 1 + 1⟩, textV ⟨N, N + 1 + 1, N + 1 + 1 + 1, N + 1 + 1 + 1 + 1, N + 1 + 1 + 1 + 1 + 1⟩, faultV ⟨N, N + 1 + 1, N + 1 + 1 + 1, N + 1 + 1 + 1 + 1, N + 1 + 1 + 1 + 1 + 1⟩] 41) (.cells #[.int .i64 0] 3) (.cells #[.int .i64 0] 25) (.cells #[numV ⟨N, N + 1 + 1, N + 1 + 1 + 1, N + 1 + 1 + 1 + 1, N + 1 + 1 + 1 + 1 + 1⟩] 36)
  have e0 := cell_of a2 (o := 0) rfl
  have e1 := cell_of a2 (o := 1) rfl
  have e2 := cell_of a2 (o := 2) rfl
  have e3 := cell_of a2 (o := 3) rfl
  unfold numV withinV textV faultV at e0 e1 e2 e3
  refine bodyPost_ret (v := rdV ⟨N, N + 1 + 1, N + 1 + 1 + 1, N + 1 + 1 + 1 + 1, N + 1 + 1 + 1 + 1 + 1⟩) (by unfold rdV numV withinV textV faultV; simp [results, Tryd.f16, go_sem, e0, e1, e2, e3]) rfl ⟨_, rfl, ⟨⟨s, 0, a1, a3, by omega, hs, by simp⟩, a4, a5, by dsimp only; omega, by dsimp only; omega, by dsimp only; omega, by dsimp only; omega, by simp [hN]⟩, ?_, by show w.heap.size ≤ N + 1 + 1; omega, by show w.heap.size ≤ N + 1 + 1 + 1; omega⟩
  exact ((((below_made w _).alloc (by simp) _).alloc (by simp; omega) _).alloc (by simp; omega) _).alloc (by simp; omega) _
end Go.Proofs.YtnelfokfgnikfaaDoor.pk
