/- A node's ways; whether some others read it, but not too many. -/
import Derived.Test.YtjmfneljgogohaaDoorJbL
namespace Go.Proofs.YtjmfneljgogohaaDoor.jb
set_option linter.unusedSimpArgs false
set_option linter.unusedVariables false
open Go.RowKit nam exp

/-- A block that holds these numbers. -/
def Ways (w : World) (g : Nat) (ws : List Int) : Prop := w.heap[g]? = some (.cells (ws.map intV).toArray 3 (0, 0))
theorem Ways.lt {w : World} {g : Nat} {ws : List Int} (h : Ways w g ws) : g < w.heap.size := (Array.getElem?_eq_some_iff.1 h).1
theorem Ways.on {w w' : World} {g : Nat} {ws : List Int} (h : Ways w g ws) (hb : Below w.heap.size w w') : Ways w' g ws := (hb.block g h.lt).trans h
theorem Ways.cell {w : World} {g i : Nat} {ws : List Int} (h : Ways w g ws) (hi : i < ws.length) : w.cell? ⟨g, i, none⟩ = some (.int .i64 ws[i]) := by
  refine cell_of h ?_
  simp [hi, intV]
theorem Ways.row {w : World} {g c : Nat} {ws : List Int} (h : Ways w g ws) : IRow w (.slice (some ⟨g, 0, none⟩) ws.length c) ws :=
  ⟨_, c, rfl, fun _ => ⟨g, 0, rfl, h.lt, fun i hi => by rw [Nat.zero_add]; exact h.cell hi⟩⟩
theorem Ways.free {w : World} {g i : Nat} {ws : List Int} (h : Ways w g ws) : w.frozen? ⟨g, i, none⟩ = false := by simp [World.frozen?, show w.heap[g]? = _ from h]
theorem Ways.put {w : World} {g i : Nat} {ws : List Int} (h : Ways w g ws) (x : Int) : Ways (w.setCell ⟨g, i, none⟩ (.int .i64 x)) g (ws.set i x) := by
  unfold Ways
  rw [heap_setCell_same w g i _ _ _ h]
  congr 2
  apply Array.toList_inj.1
  simp [List.map_set, intV]
theorem Ways.made (w : World) (n : Nat) : Ways (w.alloc (.cells (madeCells #[.int .i64 0] n) 3)) w.heap.size (List.replicate n 0) := by
  unfold Ways
  rw [heap_last rfl]
  congr 2
  apply Array.toList_inj.1
  rw [toList_madeCells_one]
  simp [intV]
theorem sum_drop (ws : List Int) {l : List Int} {k : Nat} (h : k < l.length) (s : Int) : (l.drop k).foldl (fun s i => s + ws.getD i.toNat 0) s = (l.drop (k + 1)).foldl (fun s i => s + ws.getD i.toNat 0) (s + ws.getD l[k].toNat 0) := by
  rw [List.drop_eq_getElem_cons h]; rfl
theorem getD_bound {ws : List Int} (hw : ∀ x ∈ ws, 0 ≤ x ∧ x ≤ 64) (i : Nat) : 0 ≤ ws.getD i 0 ∧ ws.getD i 0 ≤ 64 := by
  rw [List.getD_eq_getElem?_getD]
  cases hx : ws[i]? with
  | none => simp
  | some x => exact hw x (List.mem_of_getElem? hx)
set_option maxHeartbeats 1600000 in
set_option maxRecDepth 1000000 in
theorem waysTo_any {w : World} {u wv : Value} {nd : Nd} {ws : List Int} (h : NodeIs w u nd) (hr : IRow w wv ws) (hin : ∀ i ∈ nd.ins, 0 ≤ i ∧ i < ws.length) (hl : nd.ins.length ≤ 1000) (hw : ∀ x ∈ ws, 0 ≤ x ∧ x ≤ 64) :
    Calls Tryd.prog 34 #[u, wv] w fun e w' => e = .returned (.int .i64 (wayOf nd ws)) ∧ Below w.heap.size w w' := by
  obtain ⟨vi, va, rfl, hi, -⟩ := h
  obtain ⟨s, c, rfl, h2⟩ := hr
  obtain ⟨ai, ci, rfl, h3⟩ := hi
  obtain ⟨W, hW⟩ : ∃ W, w.alloc (.cells #[.string nd.uid, .int .u8 (nd.kind : Int), .slice ai nd.ins.length ci, .int .u8 (nd.x.op : Int), .int .i64 nd.x.n, va, .int .i64 nd.n] 30) = W := ⟨_, rfl⟩
  have hwb : Below w.heap.size w W := by rw [← hW]; exact below_made _ _
  obtain ⟨d0, d1, d2, d3, d4, d5, d6⟩ := box7 hW
  have HB := Lib.hid hwb
  have HC : Hid (∀ i (h : i < nd.ins.length), ∃ b o, ai = some ⟨b, o, none⟩ ∧ W.cell? ⟨b, o + i, none⟩ = some (.int .i64 nd.ins[i])) := Lib.hid (fun i hi => by
    obtain ⟨b, o, g1, g2, g3⟩ := h3 (by omega)
    exact ⟨b, o, g1, (hwb.cell (p := ⟨b, o + i, none⟩) g2).trans (g3 i hi)⟩)
  have HD : Hid (∀ i, i < ws.length → ∃ b o, s = some ⟨b, o, none⟩ ∧ W.cell? ⟨b, o + i, none⟩ = some (.int .i64 (ws.getD i 0))) := Lib.hid (fun i hi => by
    obtain ⟨b, o, g1, g2, g3⟩ := h2 (by omega)
    refine ⟨b, o, g1, (hwb.cell (p := ⟨b, o + i, none⟩) g2).trans ?_⟩
    rw [g3 i hi, List.getD_eq_getElem?_getD, List.getElem?_eq_getElem hi]; rfl)
  have HIN := Lib.hid hin; have HGB := Lib.hid (getD_bound hw)
  obtain ⟨m, hm⟩ : ∃ m, ws.length = m := ⟨_, rfl⟩
  have HM := Lib.hid hm
  rw [hm]
  obtain ⟨uid, kind, ins, x, n⟩ := nd
  simp only at *
  obtain ⟨n', hn⟩ : ∃ n, ins.length = n := ⟨_, rfl⟩
  have HN := Lib.hid hn
  rw [hn] at d2 hl
  unfold nodeV
  simp only
  rw [hn]
  rw [hn] at hW
  clear h2 h3 hin hw hwb hm hn
  by_cases hk1 : kind = 1
  · have hk1' : ((kind : Int) == 1) = true := by simp [hk1]
    have HR : Hid (wayOf ⟨uid, kind, ins, x, n⟩ ws = 1) := Lib.hid (by unfold wayOf; rw [if_pos hk1])
    rw [HR.out]
    clear hk1 HR
    go_enter Tryd.func34, Tryd.ntmps34
    go_wp2_with fail
    go_ret
    exact ⟨rfl, HB.out⟩
  · have hk1' : ((kind : Int) == 1) = false := by rw [beq_eq_false_iff_ne]; omega
    have HR : Hid (wayOf ⟨uid, kind, ins, x, n⟩ ws = if kind = 4 then sumAt ws ins * 4 else sumAt ws ins) := Lib.hid (by unfold wayOf; rw [if_neg hk1])
    rw [HR.out]
    obtain ⟨res, hres⟩ : ∃ r, (if kind = 4 then sumAt ws ins * 4 else sumAt ws ins) = r := ⟨_, rfl⟩
    have HRES := Lib.hid hres
    rw [hres]
    clear hk1 HR hres
    go_enter Tryd.func34, Tryd.ntmps34
    go_wp2_with fail
    go_loopg [5, 14] n' (fun g v5 v14 wr => ∃ (k : Nat) (q : Int), k + g = n' ∧ v14 = .int .i64 k ∧ v5 = .int .i64 q ∧ (ins.drop k).foldl (fun s i => s + ws.getD i.toNat 0) q = sumAt ws ins ∧ 0 ≤ q ∧ q ≤ 64 * k ∧ wr = W)
    case atStart => exact ⟨0, 0, by omega, rfl, rfl, rfl, by omega, by omega, rfl⟩
    case round =>
      obtain ⟨k, q, hk, rfl, rfl, hf, hq1, hq2, rfl⟩ := hrel
      have HF := Lib.hid hf; clear hf
      by_cases hkn : k < n'
      · have hkl : k < ins.length := by rw [HN.out]; exact hkn
        have hki : (k : Int) < (n' : Int) := by omega
        obtain ⟨b, o, rfl, hc⟩ := HC.out k hkl
        obtain ⟨hi0, hi1⟩ := HIN.out _ (List.getElem_mem hkl)
        have HS := Lib.hid (sum_drop ws hkl q)
        obtain ⟨i, hi⟩ : ∃ i : Nat, ins[k] = (i : Int) := ⟨ins[k].toNat, by omega⟩
        rw [hi] at hc hi0 hi1 HS
        obtain ⟨b', o', rfl, hd⟩ := HD.out i (by omega)
        have hgb := HGB.out i
        have him : (i : Int) < (m : Int) := by rw [← HM.out]; exact hi1
        rw [Int.toNat_natCast] at HS
        obtain ⟨y, hy⟩ : ∃ y, ws.getD i 0 = y := ⟨_, rfl⟩
        rw [hy] at hd hgb HS
        obtain ⟨hgb1, hgb2⟩ := hgb
        clear hkl hi hy hi1
        go_wp2_with fail
        go_roundg (gk - 1)
        case rel => exact ⟨k + 1, q + y, by omega, by go_num, by go_num, by rw [← HS.out]; exact HF.out, by omega, by push_cast; omega, rfl⟩
        case measure => omega
      · have hki : ¬ (k : Int) < (n' : Int) := by omega
        have HE : Hid (q = sumAt ws ins) := Lib.hid (by rw [← HF.out, List.drop_eq_nil_of_le (by rw [HN.out]; omega)]; rfl)
        clear hkn
        by_cases hk4 : kind = 4
        · have hk4' : ((kind : Int) == 4) = true := by simp [hk4]
          have HE4 : Hid (q * 4 = res) := Lib.hid (by rw [← HRES.out, if_pos hk4, HE.out])
          clear hk4
          have hq3 : q ≤ 64000 := by omega
          go_wp2_with fail
          try rw [Exit.noGoto_ret]
          go_ret
          exact ⟨ret_int (by rw [← HE4.out]), HB.out⟩
        · have hk4' : ((kind : Int) == 4) = false := by rw [beq_eq_false_iff_ne]; omega
          have HE4 : Hid (q = res) := Lib.hid (by rw [← HRES.out, if_neg hk4, HE.out])
          clear hk4
          go_wp2_with fail
          try rw [Exit.noGoto_ret]
          go_ret
          exact ⟨ret_int (by rw [← HE4.out]), HB.out⟩
theorem readWell_any {w : World} {v : Value} {l : List Nd} (p : Int) (h : Nodes w v l) (hl : l.length ≤ 1000000) (hi : ∀ nd ∈ l, nd.ins.length ≤ 1000000) :
    Calls Tryd.prog 35 #[v, .int .i64 p] w fun e w' => e = .returned (.bool (decide (1 ≤ (readersI l p).length) && decide ((readersI l p).length ≤ 3))) ∧ Below w.heap.size w w' := by
  have HF := Lib.hid (readers_any p h hl hi)
  obtain ⟨m, hm⟩ : ∃ m, (readersI l p).length = m := ⟨_, rfl⟩
  have HM := Lib.hid hm
  rw [hm]
  clear h hl hi hm
  have hor : (¬ (1 : Int) ≤ (m : Int)) ∨ ((1 : Int) ≤ (m : Int)) := by omega
  rcases hor with h1 | h1
  all_goals
    go_enter Tryd.func35, Tryd.ntmps35
    go_wp2_with fail
    refine HF.out.mono ?_
    rintro e w1 ⟨u, rfl, h2, h3⟩
    rw [HM.out] at h2
    obtain ⟨a, cap, rfl, _, _⟩ := own_slice h2
    have HX := Lib.hid h3; clear h2 h3
    go_wp2_with fail
    go_ret
    exact ⟨ret_bool (by rw [Bool.eq_iff_iff]; simp; omega), HX.out⟩
end Go.Proofs.YtjmfneljgogohaaDoor.jb
