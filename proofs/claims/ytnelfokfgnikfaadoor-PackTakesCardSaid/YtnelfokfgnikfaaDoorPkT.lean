/- What readRow answers at nodes, whatever reads the next one. -/
import Derived.Test.YtnelfokfgnikfaaDoorPkS
import Derived.Test.YtnelfokfgnikfaaDoorJbR
namespace Go.Proofs.YtnelfokfgnikfaaDoor.pk
set_option linter.unusedSimpArgs false
set_option linter.unusedVariables false
open Go.RowKit nam exp jb

/-- A node, the slice of what it reads, the slice of its X. -/
abbrev NRow := Nd × Value × Value
def rowCells (c : NRow) : List Value := [.string c.1.uid, .int .u8 (c.1.kind : Int), c.2.1, .int .u8 (c.1.x.op : Int), .int .i64 c.1.x.n, c.2.2, .int .i64 c.1.n]
def flatR (l : List NRow) : List Value := l.flatMap rowCells
theorem flatR_snoc (l : List NRow) (c : NRow) : flatR (l ++ [c]) = flatR l ++ rowCells c := by simp [flatR]
theorem flatR_get : ∀ (l : List NRow) (i j : Nat) (h : i < l.length), j < 7 → (flatR l)[i * 7 + j]? = (rowCells l[i])[j]?
  | [], i, j, h, hj => by simp at h
  | c :: l, 0, j, h, hj => by
    have e : flatR (c :: l) = rowCells c ++ flatR l := rfl
    have e7 : (rowCells c).length = 7 := rfl
    rw [e, List.getElem?_append_left (by omega)]
    simp
  | c :: l, i + 1, j, h, hj => by
    have e : flatR (c :: l) = rowCells c ++ flatR l := rfl
    have e7 : (rowCells c).length = 7 := rfl
    rw [e, List.getElem?_append_right (by omega), show (i + 1) * 7 + j - (rowCells c).length = i * 7 + j by omega, flatR_get l i j (by simpa using h) hj]
    rfl
def RowOk (H : Nat) (w : World) (c : NRow) : Prop := w.ownsRow H 3 1 c.2.1 c.1.ins.length (c.1.ins.map intV) ∧ Lies w (fun b => H ≤ b) c.2.2 c.1.x.args
/-- The row of nodes that are had, all on blocks from H on. -/
def NRowsAt (H : Nat) (w : World) (v : Value) (rows : List NRow) : Prop := w.ownsRow H 52 7 v rows.length (flatR rows) ∧ ∀ c ∈ rows, RowOk H w c
theorem NRowsAt.nil (H : Nat) (w : World) : NRowsAt H w (.slice none 0 0) [] := ⟨World.ownsRow_nil _ _ _ _, fun c hc => by cases hc⟩
theorem own_more {w : World} {B B' e size n : Nat} {v : Value} {xs : List Value} (h : w.ownsRow B e size v n xs) (hB : B' ≤ B) : w.ownsRow B' e size v n xs := by
  obtain ⟨k1, k2 | ⟨g, cap, cur, a0, a1, a2⟩⟩ := h
  · exact ⟨k1, .inl k2⟩
  · exact ⟨k1, .inr ⟨g, cap, cur, a0, Nat.le_trans hB a1, a2⟩⟩
theorem RowOk.more {H H' : Nat} {w : World} {c : NRow} (h : RowOk H w c) (hB : H' ≤ H) : RowOk H' w c := ⟨own_more h.1 hB, h.2.mono fun b hb => Nat.le_trans hB hb⟩
theorem RowOk.leaves {H : Nat} {L : Lay} {w w' : World} {q : St} {c : NRow} (h : RowOk H w c) (hl : Leaves L w w') (hr : IsR w L q) (hM : L.M ≤ H) : RowOk H w' c := ⟨hl.own hr hM h.1, hl.lies hr h.2⟩
theorem RowOk.but {H : Nat} {w w' : World} {v : Value} {c : NRow} {n : Nat} {xs : List Value} (h : RowOk H w c) (hv : w.ownsRow H 52 7 v n xs) (hb : But v.ownBlock w w') : RowOk H w' c := by
  refine ⟨hb.own h.1 fun g hg => ?_, h.2.frame fun b cc _ hbb => hb.2 b (Array.getElem?_eq_some_iff.1 hbb).1 (own_ty hv hbb (by decide))⟩
  obtain ⟨cur, hc⟩ := own_kind h.1 hg
  exact own_ty hv hc (by decide)
theorem NRowsAt.leaves {H : Nat} {L : Lay} {w w' : World} {q : St} {v : Value} {rows : List NRow} (h : NRowsAt H w v rows) (hl : Leaves L w w') (hr : IsR w L q) (hM : L.M ≤ H) : NRowsAt H w' v rows :=
  ⟨hl.own hr hM h.1, fun c hc => (h.2 c hc).leaves hl hr hM⟩
theorem NRowsAt.push {H : Nat} {w w5 : World} {v v' : Value} {rows : List NRow} {c : NRow} {o : Obj} (h : NRowsAt H w v rows) (hc : RowOk H w c) (hg : (w.alloc o).grownBy w5 v.ownBlock)
    (hrow : w5.ownsRow H 52 7 v' (rows.length + 1) (flatR rows ++ rowCells c)) : NRowsAt H w5 v' (rows ++ [c]) := by
  refine ⟨by rw [List.length_append, List.length_singleton, flatR_snoc]; exact hrow, fun d hd => ?_⟩
  rcases List.mem_append.1 hd with hd | hd
  · exact (h.2 d hd).but h.1 (But.of_grown hg)
  · rw [List.mem_singleton.1 hd]
    exact hc.but h.1 (But.of_grown hg)
theorem NRowsAt.nodes {H : Nat} {w : World} {v : Value} {rows : List NRow} (h : NRowsAt H w v rows) : Nodes w v (rows.map (·.1)) := by
  obtain ⟨hown, hok⟩ := h
  rcases hown.2 with ⟨rfl, h0⟩ | ⟨g, cap, cur, rfl, hB, hg, h1, h2, h3, h4⟩
  · rw [List.eq_nil_of_length_eq_zero h0]
    exact ⟨none, 0, rfl, by simp, fun h => by simp at h⟩
  · refine ⟨_, cap, by rw [List.length_map], by rw [List.length_map]; omega, fun _ => ⟨g, rfl, fun i hi => ?_⟩⟩
    have hi2 : i < rows.length := by simpa using hi
    obtain ⟨k1, k3⟩ := hok rows[i] (List.getElem_mem hi2)
    have hcell : ∀ j u, j < 7 → (rowCells rows[i])[j]? = some u → w.cell? ⟨g, i * 7 + j, none⟩ = some u := fun j u hj hu => (lg.Row.own hown).cellAt (by rw [flatR_get rows i j hi2 hj]; exact hu)
    rw [List.getElem_map]
    exact ⟨(Array.getElem?_eq_some_iff.1 hg).1, rows[i].2.1, rows[i].2.2, hcell 0 _ (by omega) rfl, hcell 1 _ (by omega) rfl, hcell 2 _ (by omega) rfl, hcell 3 _ (by omega) rfl, hcell 4 _ (by omega) rfl, hcell 5 _ (by omega) rfl, hcell 6 _ (by omega) rfl, own_irow k1, k3.mono fun _ _ => trivial⟩
theorem info_node : (Tryd.prog.info? 52).map (fun i => (i.zero, i.size, i.bytes)) = some (some (.agg #[.string ⟨#[]⟩, .int .u8 0, .slice none 0 0, .int .u8 0, .int .i64 0, .slice none 0 0, .int .i64 0]), 7, 96) := by kernel_rfl
set_option maxHeartbeats 1600000 in
set_option maxRecDepth 1000000 in
theorem row_node {w : World} {L : Lay} {q : St} {K : FuncId} {cp : Array Value} {f : St → Nd × St} (most : Int) (h0 : 0 ≤ most) (h12 : most ≤ 12) (h : IsR w L q) (hen : ∀ args w, (callFunc K args).run Tryd.prog w = .ok (.enter K args) w)
    (hK : ∀ q1 w1, IsR w1 L q1 → Leaves L w w1 → Calls Tryd.prog K cp w1 fun e w2 => ∃ vi va, e = .returned (nodeV (f q1).1 vi va) ∧ RowOk w1.heap.size w2 ((f q1).1, vi, va) ∧ RPost L w1 (f q1).2 w2) :
    Calls Tryd.prog 41 #[rdV L, .int .i64 most, .func (.func K) #[] cp] w fun e w' => ∃ v rows, e = .returned v ∧ rows.map (·.1) = (rowO f (withinO most 3 q).1.toNat (withinO most 3 q).2).1 ∧ NRowsAt w.heap.size w' v rows ∧ RPost L w (rowO f (withinO most 3 q).1.toNat (withinO most 3 q).2).2 w' := by
  obtain ⟨i0, hi, hz0, hz1, hz2⟩ := info_parts info_node
  obtain ⟨W, hW⟩ : ∃ W, w.alloc (.cells #[numV L, withinV L, textV L, faultV L] 41) = W := ⟨_, rfl⟩
  have hwb : Below w.heap.size w W := by rw [← hW]; exact below_made _ _
  have c1 : W.cell? ⟨w.heap.size, 1, none⟩ = some (withinV L) := cell_of (box4 hW) rfl
  have HW := Lib.hid (within_any most 3 (h.under hwb))
  have HB := Lib.hid hwb
  have HK := Lib.hid hK; have HM := Lib.hid h.lM
  obtain ⟨n, hn⟩ : ∃ m : Nat, (withinO most 3 q).1.toNat = m := ⟨_, rfl⟩
  have hm := nat_back (most := most) (why := 3) (q := q) h0
  have hr := within_range (most := most) (why := 3) (q := q) h0
  rw [hn] at hm ⊢
  rw [← hm] at HW hr
  obtain ⟨q1, hq1⟩ : ∃ q1, (withinO most 3 q).2 = q1 := ⟨_, rfl⟩
  rw [hq1] at HW ⊢
  have hn12 : n ≤ 12 := by omega
  unfold numV withinV textV faultV at *
  unfold rdV numV withinV textV faultV
  clear h hwb hm hr hn hq1 hK
  go_enter Tryd.func41, Tryd.ntmps41
  go_wp2_with fail
  refine HW.out.mono ?_
  rintro e w1 ⟨rfl, hp⟩
  have HP : Hid (RPost L w q1 w1) := Lib.hid ⟨hp.1, (Leaves.of_below HB.out).trans hp.2⟩
  clear hp
  go_wp2_with fail
  go_loopg [7, 12] n (fun g v7 v12 wr => ∃ (k : Nat) (rows : List NRow), k + g = n ∧ v12 = .int .i64 (k : Int) ∧ rows.length = k ∧ rows.map (·.1) = (rowO f k q1).1 ∧ NRowsAt w.heap.size wr v7 rows ∧ RPost L w (rowO f k q1).2 wr)
  case atStart => exact ⟨0, [], by omega, rfl, rfl, rfl, NRowsAt.nil _ _, HP.out⟩
  case round =>
    rename World => wr
    obtain ⟨k, rows, hk, rfl, hlen, hmap, hr, hp⟩ := hrel
    have HR := Lib.hid hr; have HQ := Lib.hid hp; have HMP := Lib.hid hmap; have HLN := Lib.hid hlen; clear hr hp hmap hlen
    by_cases hkn : k < n
    · have hki : (k : Int) < (n : Int) := by omega
      have HC := Lib.hid (HK.out _ wr HQ.out.1 HQ.out.2)
      have HS := Lib.hid (rowO_snoc (f := f) k q1)
      obtain ⟨l, hl⟩ : ∃ l, (rowO f k q1).1 = l := ⟨_, rfl⟩
      obtain ⟨qk, hqk⟩ : ∃ qk, (rowO f k q1).2 = qk := ⟨_, rfl⟩
      rw [hl] at HMP HS
      rw [hqk] at HQ HC HS
      obtain ⟨x, hx⟩ : ∃ x, (f qk).1 = x := ⟨_, rfl⟩
      obtain ⟨qj, hqj⟩ : ∃ qj, (f qk).2 = qj := ⟨_, rfl⟩
      rw [hx, hqj] at HC HS
      clear hl hqk hx hqj
      go_wp2_with fail
      refine HC.out.mono ?_
      rintro e w2 ⟨vi, va, rfl, hok, hp2⟩
      have HO := Lib.hid (HR.out.leaves hp2.2 HQ.out.1 HM.out)
      have HL := Lib.hid (HQ.out.2.trans hp2.2)
      have HI := Lib.hid hp2.1
      have hok1 : w2.ownsRow wr.heap.size 3 1 vi x.ins.length (x.ins.map intV) := hok.1
      have hok2 : Lies w2 (fun b => wr.heap.size ≤ b) va x.x.args := hok.2
      obtain ⟨aa, ca, rfl, -⟩ := hok2.form
      obtain ⟨ai, ci, rfl, -, -⟩ := own_slice hok1
      have HOK : Hid (RowOk w.heap.size w2 (x, .slice ai x.ins.length ci, .slice aa x.x.args.length ca)) := Lib.hid (hok.more (by have := HQ.out.2.size; omega))
      have HSZ : Hid (∀ o, w.heap.size ≤ (w2.alloc o).heap.size) := Lib.hid (fun o => by rw [World.size_alloc]; have := HL.out.size; omega)
      have HRW : Hid (∀ o, (w2.alloc o).ownsRow w.heap.size 52 7 u7 k (flatR rows)) := Lib.hid (fun o => by have h1 := own_below' HO.out.1 (below_made w2 o); rw [HLN.out] at h1; exact h1)
      clear hp2 hok hok1 hok2
      unfold nodeV
      go_wp2_with (at_builtin; refine wpList_append_own _ rfl (.tmp 14) (.tmp 17) 22 rfl w.heap.size 52 i0 (.agg #[.string ⟨#[]⟩, .int .u8 0, .slice none 0 0, .int .u8 0, .int .i64 0, .slice none 0 0, .int .i64 0]) 7 96 Tryd.underlying22 hi hz0 hz1 hz2 rfl (by decide) _ _ _ rfl (HRW.out _) ⟨_, 0, none⟩ 1 1 (rowCells (x, .slice ai x.ins.length ci, .slice aa x.x.args.length ca)) rfl rfl (cells_new _ (rowCells (x, .slice ai x.ins.length ci, .slice aa x.x.args.length ca)) _) (by simp [rowCells, Value.oneCell']) (by unfold maxLen; omega) (by omega) (HSZ.out _) ?_)
      intro v' w3 k4 g4 _
      have HG := Lib.hid (grown_leaves HI.out HM.out HL.out.size g4 (fun j hj => (HO.out.1.lt j hj).1))
      have HO2 : Hid (NRowsAt w.heap.size w3 v' (rows ++ [(x, .slice ai x.ins.length ci, .slice aa x.x.args.length ca)])) := Lib.hid (HO.out.push HOK.out g4 (by rw [HLN.out]; exact k4))
      clear k4 g4
      go_wp2
      go_roundg (gk - 1)
      case rel => exact ⟨k + 1, rows ++ [(x, .slice ai x.ins.length ci, .slice aa x.x.args.length ca)], by omega, by go_num, by simp [HLN.out], by rw [HS.out, List.map_append, HMP.out]; rfl, HO2.out, by rw [HS.out]; exact HG.out.1, HL.out.then HG.out.2⟩
      case measure => omega
    · have hki : ¬ (k : Int) < (n : Int) := by omega
      obtain rfl : k = n := by omega
      clear hkn
      go_wp2_with fail
      try rw [Exit.noGoto_ret]
      go_ret
      exact ⟨_, rfl, rows, HMP.out, HR.out, HQ.out⟩
end Go.Proofs.YtnelfokfgnikfaaDoor.pk
