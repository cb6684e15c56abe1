/- A node's ways; whether some others read it, but not too many. The first node that does not hang together with the others. What May, Readers and Find answer. -/
import Derived.Test.YtepdecnegihhhaaGreatDoorMJc
set_option linter.unusedSimpArgs false
set_option linter.unusedVariables false
namespace Go.Proofs.YtepdecnegihhhaaGreatDoor.jb
section
open Go.RowKit nam exp
def Ways (w : World) (g : Nat) (ws : List Int) : Prop := w.heap[g]? = some (.cells (ws.map intV).toArray 3 (0, 0))
theorem Ways.lt {w : World} {g : Nat} {ws : List Int} (h : Ways w g ws) : g < w.heap.size := (Array.getElem?_eq_some_iff.1 h).1
theorem Ways.on {w w' : World} {g : Nat} {ws : List Int} (h : Ways w g ws) (hb : Below w.heap.size w w') : Ways w' g ws := (hb.block g h.lt).trans h
theorem Ways.cell {w : World} {g i : Nat} {ws : List Int} (h : Ways w g ws) (hi : i < ws.length) : w.cell? ⟨g, i, none⟩ = some (.int .i64 ws[i]) := by
 refine cell_of h ?_
 simp [hi, intV]
theorem Ways.row {w : World} {g c : Nat} {ws : List Int} (h : Ways w g ws) : IRow w (.slice (some ⟨g, 0, none⟩) ws.length c) ws :=
 ⟨_, c, rfl, fun _ => ⟨g, 0, rfl, h.lt, fun i hi => by rw [Nat.zero_add]; exact h.cell hi⟩⟩
theorem Ways.free {w : World} {g i : Nat} {ws : List Int} (h : Ways w g ws) : w.frozen? ⟨g, i, none⟩ = false := by simp [World.frozen?, show w.heap[g]? = _ from h]
theorem Ways.put {w : World} {g i : Nat} {ws : List Int} (h : Ways w g ws) (x : Int) : Ways (w.setCell ⟨g, i, none⟩ (.int .i64 x)) g (ws.set i x) := by
 unfold Ways
 rw [heap_setCell_same w g i _ _ _ h]
 congr 2
 apply Array.toList_inj.1
 simp [List.map_set, intV]
theorem Ways.made (w : World) (n : Nat) : Ways (w.alloc (.cells (madeCells #[.int .i64 0] n) 3)) w.heap.size (List.replicate n 0) := by
 unfold Ways
 rw [heap_last rfl]
 congr 2
 apply Array.toList_inj.1
 rw [toList_madeCells_one]
 simp [intV]
theorem sum_drop (ws : List Int) {l : List Int} {k : Nat} (h : k < l.length) (s : Int) : (l.drop k).foldl (fun s i => s + ws.getD i.toNat 0) s = (l.drop (k + 1)).foldl (fun s i => s + ws.getD i.toNat 0) (s + ws.getD l[k].toNat 0) := by
 rw [List.drop_eq_getElem_cons h]; rfl
theorem getD_bound {ws : List Int} (hw : ∀ x ∈ ws, 0 ≤ x ∧ x ≤ 64) (i : Nat) : 0 ≤ ws.getD i 0 ∧ ws.getD i 0 ≤ 64 := by
 rw [List.getD_eq_getElem?_getD]
 cases hx : ws[i]? with
 | none => simp
 | some x => exact hw x (List.mem_of_getElem? hx)
set_option maxHeartbeats 1600000 in
set_option maxRecDepth 1000000 in
theorem waysTo_any {w : World} {u wv : Value} {nd : Nd} {ws : List Int} (h : NodeIs w u nd) (hr : IRow w wv ws) (hin : ∀ i ∈ nd.ins, 0 ≤ i ∧ i < ws.length) (hl : nd.ins.length ≤ 1000) (hw : ∀ x ∈ ws, 0 ≤ x ∧ x ≤ 64) :
  Calls Tryz.prog 93 #[u, wv] w fun e w' => e = .returned (.int .i64 (wayOf nd ws)) ∧ Below w.heap.size w w' := by
 obtain ⟨vi, va, rfl, hi, -⟩ := h
 obtain ⟨s, c, rfl, h2⟩ := hr
 obtain ⟨ai, ci, rfl, h3⟩ := hi
 obtain ⟨W, hW⟩ : ∃ W, w.alloc (.cells #[.string nd.uid, .int .u8 (nd.kind : Int), .slice ai nd.ins.length ci, .int .u8 (nd.x.op : Int), .int .i64 nd.x.n, va, .int .i64 nd.n] 48) = W := ⟨_, rfl⟩
 have hwb : Below w.heap.size w W := by rw [← hW]; exact below_made _ _
 obtain ⟨d0, d1, d2, d3, d4, d5, d6⟩ := box7 hW
 have HB := Lib.hid hwb
 have HC : Hid (∀ i (h : i < nd.ins.length), ∃ b o, ai = some ⟨b, o, none⟩ ∧ W.cell? ⟨b, o + i, none⟩ = some (.int .i64 nd.ins[i])) := Lib.hid (fun i hi => by
  obtain ⟨b, o, g1, g2, g3⟩ := h3 (by omega)
  exact ⟨b, o, g1, (hwb.cell (p := ⟨b, o + i, none⟩) g2).trans (g3 i hi)⟩)
 have HD : Hid (∀ i, i < ws.length → ∃ b o, s = some ⟨b, o, none⟩ ∧ W.cell? ⟨b, o + i, none⟩ = some (.int .i64 (ws.getD i 0))) := Lib.hid (fun i hi => by
  obtain ⟨b, o, g1, g2, g3⟩ := h2 (by omega)
  refine ⟨b, o, g1, (hwb.cell (p := ⟨b, o + i, none⟩) g2).trans ?_⟩
  rw [g3 i hi, List.getD_eq_getElem?_getD, List.getElem?_eq_getElem hi]; rfl)
 have HIN := Lib.hid hin; have HGB := Lib.hid (getD_bound hw)
 obtain ⟨m, hm⟩ : ∃ m, ws.length = m := ⟨_, rfl⟩
 have HM := Lib.hid hm
 rw [hm]
 obtain ⟨uid, kind, ins, x, n⟩ := nd
 simp only at *
 obtain ⟨n', hn⟩ : ∃ n, ins.length = n := ⟨_, rfl⟩
 have HN := Lib.hid hn
 rw [hn] at d2 hl
 unfold nodeV
 simp only
 rw [hn]
 rw [hn] at hW
 clear h2 h3 hin hw hwb hm hn
 by_cases hk1 : kind = 1
 · have hk1' : ((kind : Int) == 1) = true := by simp [hk1]
   have HR : Hid (wayOf ⟨uid, kind, ins, x, n⟩ ws = 1) := Lib.hid (by unfold wayOf; rw [if_pos hk1])
   rw [HR.out]
   clear hk1 HR
   go_enter Tryz.func93, Tryz.ntmps93
   go_wp2_with fail
   go_ret
   exact ⟨rfl, HB.out⟩
 · have hk1' : ((kind : Int) == 1) = false := by rw [beq_eq_false_iff_ne]; omega
   have HR : Hid (wayOf ⟨uid, kind, ins, x, n⟩ ws = if kind = 4 then sumAt ws ins * 4 else sumAt ws ins) := Lib.hid (by unfold wayOf; rw [if_neg hk1])
   rw [HR.out]
   obtain ⟨res, hres⟩ : ∃ r, (if kind = 4 then sumAt ws ins * 4 else sumAt ws ins) = r := ⟨_, rfl⟩
   have HRES := Lib.hid hres
   rw [hres]
   clear hk1 HR hres
   go_enter Tryz.func93, Tryz.ntmps93
   go_wp2_with fail
   go_loopg [5, 14] n' (fun g v5 v14 wr => ∃ (k : Nat) (q : Int), k + g = n' ∧ v14 = .int .i64 k ∧ v5 = .int .i64 q ∧ (ins.drop k).foldl (fun s i => s + ws.getD i.toNat 0) q = sumAt ws ins ∧ 0 ≤ q ∧ q ≤ 64 * k ∧ wr = W)
   case atStart => exact ⟨0, 0, by omega, rfl, rfl, rfl, by omega, by omega, rfl⟩
   case round =>
    obtain ⟨k, q, hk, rfl, rfl, hf, hq1, hq2, rfl⟩ := hrel
    have HF := Lib.hid hf; clear hf
    by_cases hkn : k < n'
    · have hkl : k < ins.length := by rw [HN.out]; exact hkn
      have hki : (k : Int) < (n' : Int) := by omega
      obtain ⟨b, o, rfl, hc⟩ := HC.out k hkl
      obtain ⟨hi0, hi1⟩ := HIN.out _ (List.getElem_mem hkl)
      have HS := Lib.hid (sum_drop ws hkl q)
      obtain ⟨i, hi⟩ : ∃ i : Nat, ins[k] = (i : Int) := ⟨ins[k].toNat, by omega⟩
      rw [hi] at hc hi0 hi1 HS
      obtain ⟨b', o', rfl, hd⟩ := HD.out i (by omega)
      have hgb := HGB.out i
      have him : (i : Int) < (m : Int) := by rw [← HM.out]; exact hi1
      rw [Int.toNat_natCast] at HS
      obtain ⟨y, hy⟩ : ∃ y, ws.getD i 0 = y := ⟨_, rfl⟩
      rw [hy] at hd hgb HS
      obtain ⟨hgb1, hgb2⟩ := hgb
      clear hkl hi hy hi1
      go_wp2_with fail
      go_roundg (gk - 1)
      case rel => exact ⟨k + 1, q + y, by omega, by go_num, by go_num, by rw [← HS.out]; exact HF.out, by omega, by push_cast; omega, rfl⟩
      case measure => omega
    · have hki : ¬ (k : Int) < (n' : Int) := by omega
      have HE : Hid (q = sumAt ws ins) := Lib.hid (by rw [← HF.out, List.drop_eq_nil_of_le (by rw [HN.out]; omega)]; rfl)
      clear hkn
      by_cases hk4 : kind = 4
      · have hk4' : ((kind : Int) == 4) = true := by simp [hk4]
        have HE4 : Hid (q * 4 = res) := Lib.hid (by rw [← HRES.out, if_pos hk4, HE.out])
        clear hk4
        have hq3 : q ≤ 64000 := by omega
        go_wp2_with fail
        try rw [Exit.noGoto_ret]
        go_ret
        exact ⟨ret_int (by rw [← HE4.out]), HB.out⟩
      · have hk4' : ((kind : Int) == 4) = false := by rw [beq_eq_false_iff_ne]; omega
        have HE4 : Hid (q = res) := Lib.hid (by rw [← HRES.out, if_neg hk4, HE.out])
        clear hk4
        go_wp2_with fail
        try rw [Exit.noGoto_ret]
        go_ret
        exact ⟨ret_int (by rw [← HE4.out]), HB.out⟩
theorem readWell_any {w : World} {v : Value} {l : List Nd} (p : Int) (h : Nodes w v l) (hl : l.length ≤ 1000000) (hi : ∀ nd ∈ l, nd.ins.length ≤ 1000000) :
  Calls Tryz.prog 94 #[v, .int .i64 p] w fun e w' => e = .returned (.bool (decide (1 ≤ (readersI l p).length) && decide ((readersI l p).length ≤ 3))) ∧ Below w.heap.size w w' := by
 have HF := Lib.hid (readers_any p h hl hi)
 obtain ⟨m, hm⟩ : ∃ m, (readersI l p).length = m := ⟨_, rfl⟩
 have HM := Lib.hid hm
 rw [hm]
 clear h hl hi hm
 have hor : (¬ (1 : Int) ≤ (m : Int)) ∨ ((1 : Int) ≤ (m : Int)) := by omega
 rcases hor with h1 | h1
 all_goals
  go_enter Tryz.func94, Tryz.ntmps94
  go_wp2_with fail
  refine HF.out.mono ?_
  rintro e w1 ⟨u, rfl, h2, h3⟩
  rw [HM.out] at h2
  obtain ⟨a, cap, rfl, _, _⟩ := own_slice h2
  have HX := Lib.hid h3; clear h2 h3
  go_wp2_with fail
  go_ret
  exact ⟨ret_bool (by rw [Bool.eq_iff_iff]; simp; omega), HX.out⟩
end
section
open Go.RowKit nam exp
theorem shapeAt_eq {l : List Nd} {k : Nat} (h : k < l.length) : shapeAt l k = if shapeB l k l[k] then 122 else 0 := by
 unfold shapeAt; rw [List.getElem?_eq_getElem h]
def waysP (l : List Nd) (k : Nat) : List Int := waysL l k ++ List.replicate (l.length - k) 0
theorem waysP_len {l : List Nd} {k : Nat} (h : k ≤ l.length) : (waysP l k).length = l.length := by
 unfold waysP; rw [List.length_append, waysL_len, List.length_replicate]; omega
theorem waysP_getD (l : List Nd) (k i : Nat) : (waysP l k).getD i 0 = (waysL l k).getD i 0 := by
 unfold waysP
 rw [List.getD_eq_getElem?_getD, List.getD_eq_getElem?_getD]
 by_cases h : i < (waysL l k).length
 · rw [List.getElem?_append_left h]
 · rw [List.getElem?_append_right (by omega), List.getElem?_eq_none (by omega : (waysL l k).length ≤ i)]
   cases hr : (List.replicate (l.length - k) (0 : Int))[i - (waysL l k).length]? with
   | none => rfl
   | some z =>
    have := List.mem_of_getElem? hr
    rw [List.mem_replicate] at this
    simp [this.2]
theorem way_same (nd : Nd) (l : List Nd) (k : Nat) : wayOf nd (waysP l k) = wayOf nd (waysL l k) := by
 have e : sumAt (waysP l k) nd.ins = sumAt (waysL l k) nd.ins := by
  unfold sumAt
  congr 1
  funext s i
  rw [waysP_getD]
 unfold wayOf
 rw [e]
theorem waysP_set {l : List Nd} {k : Nat} (h : k < l.length) : (waysP l k).set k (wayOf l[k] (waysL l k)) = waysP l (k + 1) := by
 unfold waysP
 rw [waysL_succ h, List.set_append_right _ _ (by rw [waysL_len]; omega), waysL_len, Nat.sub_self, show l.length - k = (l.length - (k + 1)) + 1 by omega, List.replicate_succ, List.set_cons_zero, List.append_assoc]
 rfl
theorem waysP_mem {l : List Nd} {k : Nat} (hw : ∀ x ∈ waysL l k, 0 ≤ x ∧ x ≤ 64) : ∀ x ∈ waysP l k, 0 ≤ x ∧ x ≤ 64 := fun x hx => by
 unfold waysP at hx
 rcases List.mem_append.1 hx with h | h
 · exact hw x h
 · rw [List.mem_replicate] at h; omega
theorem way_pos {nd : Nd} {ws : List Int} (hw : ∀ x ∈ ws, 0 ≤ x ∧ x ≤ 64) : 0 ≤ wayOf nd ws := by
 have h := sum_bound hw nd.ins 0
 have e : sumAt ws nd.ins = nd.ins.foldl (fun s i => s + ws.getD i.toNat 0) 0 := rfl
 unfold wayOf
 split
 · omega
 split <;> (rw [e]; omega)
theorem cell_set {w : World} {b o n i : Nat} {u v : Value} (h : w.cell? ⟨n, i, none⟩ = some v) (hb : n ≠ b) : (w.setCell ⟨b, o, none⟩ u).cell? ⟨n, i, none⟩ = some v := by
 have e := Below.heap_setCell w ⟨b, o, none⟩ u n hb
 unfold World.cell? at h ⊢
 rw [e]
 exact h
set_option maxHeartbeats 6400000 in
set_option maxRecDepth 1000000 in
theorem together_any {w : World} {v : Value} {l : List Nd} (h : Nodes w v l) (hl : l.length ≤ 1000000) (hin : ∀ k (hk : k < l.length), ∀ i ∈ l[k].ins, 0 ≤ i ∧ i < k) (hi3 : ∀ nd ∈ l, nd.ins.length ≤ 1000) :
  Calls Tryz.prog 56 #[v] w fun e w' => e = .returned (.tuple #[.int .i64 (togetherO l).1, .int .i64 (togetherO l).2]) ∧ Below w.heap.size w w' := by
 obtain ⟨i0, hi, hz0, hz1, hz2⟩ := info_parts info3
 have HNS := Lib.hid h; have HI3 := Lib.hid hi3; have HIN := Lib.hid hin
 obtain ⟨a, c, rfl, hlc, h2⟩ := h
 have HC := Lib.hid h2
 clear h2 hi3 hin
 obtain ⟨n, hn⟩ : ∃ n, l.length = n := ⟨_, rfl⟩
 have HN := Lib.hid hn
 rw [hn] at hl hlc HNS
 rw [hn]
 have HA : Hid (togetherO l = firstErr (shapeAt l) n 0) := Lib.hid (by unfold togetherO; rw [hn])
 have hmk := run_makeSlice (P := Tryz.prog) (w := w) 43 3 i0 (.int .i64 0) Tryz.underlying43 hi hz0 .i64 .i64 (n : Int) (n : Int) (by omega) (by omega) (by rw [hz1]; simp; omega) (by rw [hz2]; omega) (by omega)
 rw [hz1, Int.toNat_natCast, Nat.mul_one, show (Value.int IntKind.i64 0).cells = #[.int .i64 0] from rfl] at hmk
 obtain ⟨W, hW⟩ : ∃ W, w.alloc (.cells (madeCells #[.int .i64 0] n) 3) = W := ⟨_, rfl⟩
 have hww := Ways.made w n
 rw [hW] at hmk hww
 have hwb : Below w.heap.size w W := by rw [← hW]; exact below_made _ _
 obtain ⟨G, hG⟩ : ∃ G, w.heap.size = G := ⟨_, rfl⟩
 rw [hG] at hmk hww
 have HST : Hid (Ways W G (waysP l 0) ∧ Below w.heap.size w W) := Lib.hid ⟨by unfold waysP; rw [hn]; exact hww, hwb⟩
 have HG := Lib.hid hG
 clear hn hW hww hwb hi hz0 hz1 hz2 hG
 go_enter Tryz.func56, Tryz.ntmps56
 go_wp2_with fail
 clear hmk
 go_loopg [13] n (fun g v13 wr => ∃ k : Nat, k + g = n ∧ v13 = .int .i64 k ∧ firstErr (shapeAt l) g k = togetherO l ∧ Ways wr G (waysP l k) ∧ (∀ x ∈ waysL l k, 0 ≤ x ∧ x ≤ 64) ∧ Below w.heap.size w wr)
 case atStart => exact ⟨0, by omega, rfl, HA.out.symm, HST.out.1, (fun x hx => by cases hx), HST.out.2⟩
 case round =>
  obtain ⟨k, hk, rfl, hf, hws, hwm, hb⟩ := hrel
  have HF := Lib.hid hf; have HB := Lib.hid hb; have HWS := Lib.hid hws; have HWM := Lib.hid hwm; clear hf hb hws hwm
  by_cases hkn : k < n
  · obtain ⟨g, rfl⟩ : ∃ g, gk = g + 1 := ⟨gk - 1, by omega⟩
    have hkl : k < l.length := by rw [HN.out]; exact hkn
    have hki : (k : Int) < (n : Int) := by omega
    have hkc : (k : Int) ≤ (c : Int) := by omega
    have hn1 : (1 : Int) ≤ (n : Int) := by omega
    obtain ⟨b, rfl, hat⟩ := HC.out (by omega)
    obtain ⟨-, vi, va, c0, c1, c2, c3, c4, c5, c6, hvi, hva⟩ := (hat k hkl).on HB.out
    have HE := Lib.hid (shapeAt_eq hkl)
    have HTK := Lib.hid (HNS.out.take (k := k) (by rw [HN.out]; omega))
    have hmem := List.getElem_mem hkl
    have HWY := Lib.hid (waysP_set hkl)
    have HI2 := Lib.hid (HIN.out k hkl)
    have HWL := Lib.hid (waysL_succ hkl)
    obtain ⟨nd, hx⟩ : ∃ x, l[k] = x := ⟨_, rfl⟩
    rw [hx] at c0 c1 c3 c4 c6 hvi hva HE HWY HI2 HWL hmem
    obtain ⟨ai, ci, hvie, -⟩ := id hvi
    obtain ⟨aa, ca, hvae, -⟩ := hva.form
    subst hvie
    subst hvae
    have HBM : Hid (Below wr.heap.size wr (wr.alloc (.cells #[.string nd.uid, .int .u8 (nd.kind : Int), .slice ai nd.ins.length ci, .int .u8 (nd.x.op : Int), .int .i64 nd.x.n, .slice aa nd.x.args.length ca, .int .i64 nd.n] 48))) := Lib.hid (below_made wr _)
    have HB1 := Lib.hid (HB.out.trans (HBM.out.mono HB.out.size))
    have hbx := @nd_box wr nd (.slice ai nd.ins.length ci) (.slice aa nd.x.args.length ca)
    have HBX := Lib.hid hbx
    obtain ⟨d0, d1, d2, d3, d4, d5, d6⟩ := hbx
    have hpl : (waysP l k).length = n := by rw [waysP_len (by omega), HN.out]
    have HY := Lib.hid (waysTo_any (⟨_, _, rfl, hvi.on HBM.out, hva.under HBM.out⟩ : NodeIs _ (nodeV nd _ _) nd) ((HWS.out.on HBM.out).row (c := n)) (fun i h => by have := HI2.out i h; rw [hpl]; omega) (HI3.out nd hmem) (waysP_mem HWM.out))
    rw [way_same, hpl] at HY
    obtain ⟨y, hy⟩ : ∃ y, wayOf nd (waysL l k) = y := ⟨_, rfl⟩
    have HY0 : Hid (0 ≤ y) := Lib.hid (by rw [← hy]; exact way_pos HWM.out)
    rw [hy] at HY HWY HWL
    unfold nodeV at HY
    -- what the tests come to
    obtain ⟨s1, hs1⟩ : ∃ b, ((nd.kind : Int) == 1) = b := ⟨_, rfl⟩
    obtain ⟨z0, hz⟩ : ∃ b, ((k : Int) == 0) = b := ⟨_, rfl⟩
    obtain ⟨s9, hs9⟩ : ∃ b, ((nd.kind : Int) == 9) = b := ⟨_, rfl⟩
    obtain ⟨la, hla⟩ : ∃ b, ((k : Int) == (n : Int) - 1) = b := ⟨_, rfl⟩
    obtain ⟨k4, hk4⟩ : ∃ b, ((nd.kind : Int) == 4) = b := ⟨_, rfl⟩
    obtain ⟨rb, hrb⟩ : ∃ b, (decide (1 ≤ (readersI l k).length) && decide ((readersI l k).length ≤ 3)) = b := ⟨_, rfl⟩
    obtain ⟨fn, hfn⟩ : ∃ m, flatsN (l.take k) = m := ⟨_, rfl⟩
    have HSH : Hid (shapeB l k nd = ((s1 != z0) || (s9 != la) || (!la && !rb) || (k4 && decide (2 ≤ fn)) || decide (64 < y))) := Lib.hid (by
     unfold shapeB
     have t1 : decide (nd.kind = 1) = s1 := by rw [← hs1, Bool.eq_iff_iff]; simp; omega
     have t2 : decide (k = 0) = z0 := by rw [← hz, Bool.eq_iff_iff]; simp
     have t3 : decide (nd.kind = 9) = s9 := by rw [← hs9, Bool.eq_iff_iff]; simp; omega
     have t4 : decide (k + 1 = l.length) = la := by rw [← hla, HN.out, Bool.eq_iff_iff]; simp; omega
     have t5 : decide (nd.kind = 4) = k4 := by rw [← hk4, Bool.eq_iff_iff]; simp; omega
     rw [t1, t2, t3, t4, t5, hrb, hfn, hy])
    have HBAD : Hid (shapeB l k nd = true → Ending.returned (.tuple #[.int .i64 (k : Int), .int .i64 122]) = .returned (.tuple #[.int .i64 (togetherO l).1, .int .i64 (togetherO l).2])) := Lib.hid (fun hsh => by
     have e0 : shapeAt l k = 122 := by rw [HE.out, if_pos hsh]
     rw [← HF.out, firstErr_stop (by rw [e0]; decide), e0])
    have HON : Hid (shapeB l k nd = false → y ≤ 64 → firstErr (shapeAt l) g (k + 1) = togetherO l ∧ ∀ x ∈ waysL l (k + 1), 0 ≤ x ∧ x ≤ 64) := Lib.hid (fun hsh hy64 => by
     have e0 : shapeAt l k = 0 := by rw [HE.out, if_neg (by rw [hsh]; simp)]
     refine ⟨by rw [← HF.out, firstErr_step e0], fun x hx => ?_⟩
     rw [HWL.out] at hx
     rcases List.mem_append.1 hx with h | h
     · exact HWM.out x h
     · rw [List.mem_singleton.1 h]; exact ⟨HY0.out, hy64⟩)
    have HRW : Hid (∀ w', Below w.heap.size w w' → Calls Tryz.prog 94 #[.slice (some ⟨b, 0, none⟩) n c, .int .i64 (k : Int)] w' fun e w'' => e = .returned (.bool rb) ∧ Below w'.heap.size w' w'') := Lib.hid (fun w' hb => by
     have := readWell_any (k : Int) (HNS.out.on hb) (by rw [HN.out]; exact hl) (fun m hm => by have := HI3.out m hm; omega)
     rw [hrb] at this
     exact this)
    have HFL : Hid (∀ w', Below w.heap.size w w' → Calls Tryz.prog 95 #[.slice (some ⟨b, 0, none⟩) k c] w' fun e w'' => e = .returned (.int .i64 (fn : Int)) ∧ Below w'.heap.size w' w'') := Lib.hid (fun w' hb => by
     have := flats_any (HTK.out.on hb) (by rw [List.length_take]; omega)
     rw [hfn] at this
     exact this)
    clear hx hkl hvi hva hat hmem hpl hrb hfn hy HE HI2 HWL
    go_wp2_with fail
    refine HY.out.mono ?_
    rintro e w1 ⟨rfl, hb1⟩
    have hbw := below_on' HBM.out hb1
    have hw1 := HWS.out.on hbw
    have HKL : Hid (k < (waysP l k).length) := Lib.hid (by rw [waysP_len (by rw [HN.out]; omega), HN.out]; omega)
    have cy := hw1.cell HKL.out
    have cf := hw1.free (i := k)
    have HW1 := Lib.hid (And.intro hw1 (And.intro (HB.out.trans (hbw.mono HB.out.size)) (HBX.out.on hb1)))
    have HGM : Hid (G < wr.heap.size) := Lib.hid HWS.out.lt
    have HM1 : Hid (wr.heap.size < w1.heap.size) := Lib.hid (by have := hb1.size; rw [World.size_alloc] at this; omega)
    clear hb1 hbw hw1 d0 d1 d2 d3 d4 d5 d6 c0 c1 c2 c3 c4 c5 c6
    go_upto_region 6 with fail
    obtain ⟨w2, hw2⟩ : ∃ w2, w1.setCell ⟨G, k, none⟩ (.int .i64 y) = w2 := ⟨_, rfl⟩
    rw [hw2]
    have HZ : Hid (Ways w2 G (waysP l (k + 1)) ∧ Below w.heap.size w w2 ∧ Box7 w2 wr.heap.size (.string nd.uid) (.int .u8 (nd.kind : Int)) (.slice ai nd.ins.length ci) (.int .u8 (nd.x.op : Int)) (.int .i64 nd.x.n) (.slice aa nd.x.args.length ca) (.int .i64 nd.n)) := Lib.hid (by
     obtain ⟨h1, h2, h3⟩ := HW1.out
     have hGM := HGM.out
     have hne : wr.heap.size ≠ G := by omega
     rw [← hw2]
     refine ⟨by rw [← HWY.out]; exact h1.put y, h2.setCell (by show w.heap.size ≤ G; rw [HG.out]; exact Nat.le_refl _) _, ?_⟩
     obtain ⟨t0, t1, t2, t3, t4, t5, t6⟩ := h3
     exact ⟨cell_set t0 hne, cell_set t1 hne, cell_set t2 hne, cell_set t3 hne, cell_set t4 hne, cell_set t5 hne, cell_set t6 hne⟩)
    have HYC : Hid (∀ w', Ways w' G (waysP l (k + 1)) → w'.cell? ⟨G, k, none⟩ = some (.int .i64 y)) := Lib.hid (fun w' hw => by
     have hkk : k < (waysP l (k + 1)).length := by rw [← HWY.out, List.length_set]; exact HKL.out
     rw [hw.cell hkk]
     have : (waysP l (k + 1))[k]? = some y := by rw [← HWY.out]; simp [HKL.out]
     rw [List.getElem?_eq_getElem hkk] at this
     rw [Option.some.inj this])
    clear hw2 cy cf
    obtain ⟨-, m1, -, -, -, -, -⟩ := HZ.out.2.2
    have cy := HYC.out _ HZ.out.1
    have hq1 : s1 = z0 ∨ s1 = !z0 := by cases s1 <;> cases z0 <;> simp
    rcases hq1 with rfl | rfl
    · cases s1
      all_goals
       have hq9 : s9 = la ∨ s9 = !la := by cases s9 <;> cases la <;> simp
       rcases hq9 with rfl | rfl
       · cases s9 with
         | true =>
          cases k4 with
          | false =>
           by_cases hbig : 64 < y
           · have hbig2 := hbig
             go_wp2_with fail
             try rw [Exit.noGoto_ret]
             go_ret2
             exact ⟨HBAD.out (by rw [HSH.out]; first | rfl | (simp; done) | (simp; omega)), HZ.out.2.1⟩
           · have hbig2 := hbig
             go_wp2_with fail
             go_roundg g
             case rel => exact ⟨k + 1, by omega, by go_num, (HON.out (by rw [HSH.out]; first | rfl | (simp; done) | (simp; omega)) (by omega)).1, HZ.out.1, (HON.out (by rw [HSH.out]; first | rfl | (simp; done) | (simp; omega)) (by omega)).2, HZ.out.2.1⟩
             case measure => omega
          | true =>
           have HF4 := Lib.hid (HFL.out w2 HZ.out.2.1)
           go_wp2_with fail
           refine HF4.out.mono ?_
           rintro e w4 ⟨rfl, hb3⟩
           have HZf := Lib.hid (And.intro (HZ.out.1.on hb3) (And.intro (HZ.out.2.1.trans (hb3.mono HZ.out.2.1.size)) (HZ.out.2.2.on hb3)))
           clear hb3 m1 cy
           obtain ⟨-, m1, -, -, -, -, -⟩ := HZf.out.2.2
           have cy := HYC.out _ HZf.out.1
           by_cases hfl : 2 ≤ fn
           · have hfl2 : (2 : Int) ≤ (fn : Int) := by omega
             go_wp2_with fail
             try rw [Exit.noGoto_ret]
             go_ret2
             exact ⟨HBAD.out (by rw [HSH.out]; first | rfl | (simp; done) | (simp; omega)), HZf.out.2.1⟩
           · have hfl2 : ¬ (2 : Int) ≤ (fn : Int) := by omega
             by_cases hbig : 64 < y
             · have hbig2 := hbig
               go_wp2_with fail
               try rw [Exit.noGoto_ret]
               go_ret2
               exact ⟨HBAD.out (by rw [HSH.out]; first | rfl | (simp; done) | (simp; omega)), HZf.out.2.1⟩
             · have hbig2 := hbig
               go_wp2_with fail
               go_roundg g
               case rel => exact ⟨k + 1, by omega, by go_num, (HON.out (by rw [HSH.out]; first | rfl | (simp; done) | (simp; omega)) (by omega)).1, HZf.out.1, (HON.out (by rw [HSH.out]; first | rfl | (simp; done) | (simp; omega)) (by omega)).2, HZf.out.2.1⟩
               case measure => omega
         | false =>
          have HR4 := Lib.hid (HRW.out w2 HZ.out.2.1)
          go_wp2_with fail
          refine HR4.out.mono ?_
          rintro e w3 ⟨rfl, hb3⟩
          have HZr := Lib.hid (And.intro (HZ.out.1.on hb3) (And.intro (HZ.out.2.1.trans (hb3.mono HZ.out.2.1.size)) (HZ.out.2.2.on hb3)))
          clear hb3 m1 cy
          obtain ⟨-, m1, -, -, -, -, -⟩ := HZr.out.2.2
          have cy := HYC.out _ HZr.out.1
          cases rb with
          | false =>
           go_wp2_with fail
           try rw [Exit.noGoto_ret]
           go_ret2
           exact ⟨HBAD.out (by rw [HSH.out]; first | rfl | (simp; done) | (simp; omega)), HZr.out.2.1⟩
          | true =>
           cases k4 with
           | false =>
            by_cases hbig : 64 < y
            · have hbig2 := hbig
              go_wp2_with fail
              try rw [Exit.noGoto_ret]
              go_ret2
              exact ⟨HBAD.out (by rw [HSH.out]; first | rfl | (simp; done) | (simp; omega)), HZr.out.2.1⟩
            · have hbig2 := hbig
              go_wp2_with fail
              go_roundg g
              case rel => exact ⟨k + 1, by omega, by go_num, (HON.out (by rw [HSH.out]; first | rfl | (simp; done) | (simp; omega)) (by omega)).1, HZr.out.1, (HON.out (by rw [HSH.out]; first | rfl | (simp; done) | (simp; omega)) (by omega)).2, HZr.out.2.1⟩
              case measure => omega
           | true =>
            have HF4 := Lib.hid (HFL.out w3 HZr.out.2.1)
            go_wp2_with fail
            refine HF4.out.mono ?_
            rintro e w4 ⟨rfl, hb3⟩
            have HZrf := Lib.hid (And.intro (HZr.out.1.on hb3) (And.intro (HZr.out.2.1.trans (hb3.mono HZr.out.2.1.size)) (HZr.out.2.2.on hb3)))
            clear hb3 m1 cy
            obtain ⟨-, m1, -, -, -, -, -⟩ := HZrf.out.2.2
            have cy := HYC.out _ HZrf.out.1
            by_cases hfl : 2 ≤ fn
            · have hfl2 : (2 : Int) ≤ (fn : Int) := by omega
              go_wp2_with fail
              try rw [Exit.noGoto_ret]
              go_ret2
              exact ⟨HBAD.out (by rw [HSH.out]; first | rfl | (simp; done) | (simp; omega)), HZrf.out.2.1⟩
            · have hfl2 : ¬ (2 : Int) ≤ (fn : Int) := by omega
              by_cases hbig : 64 < y
              · have hbig2 := hbig
                go_wp2_with fail
                try rw [Exit.noGoto_ret]
                go_ret2
                exact ⟨HBAD.out (by rw [HSH.out]; first | rfl | (simp; done) | (simp; omega)), HZrf.out.2.1⟩
              · have hbig2 := hbig
                go_wp2_with fail
                go_roundg g
                case rel => exact ⟨k + 1, by omega, by go_num, (HON.out (by rw [HSH.out]; first | rfl | (simp; done) | (simp; omega)) (by omega)).1, HZrf.out.1, (HON.out (by rw [HSH.out]; first | rfl | (simp; done) | (simp; omega)) (by omega)).2, HZrf.out.2.1⟩
                case measure => omega
       · cases la
         all_goals
          go_wp2_with fail
          try rw [Exit.noGoto_ret]
          go_ret2
          exact ⟨HBAD.out (by rw [HSH.out]; first | rfl | (simp; done) | (simp; omega)), HZ.out.2.1⟩
    · cases z0
      all_goals
       go_wp2_with fail
       try rw [Exit.noGoto_ret]
       go_ret2
       exact ⟨HBAD.out (by rw [HSH.out]; first | rfl | (simp; done) | (simp; omega)), HZ.out.2.1⟩
  · have hki : ¬ (k : Int) < (n : Int) := by omega
    have hg0 : gk = 0 := by omega
    subst hg0
    have HE : Hid (Ending.returned (.tuple #[.int .i64 0, .int .i64 0]) = .returned (.tuple #[.int .i64 (togetherO l).1, .int .i64 (togetherO l).2])) := Lib.hid (by rw [← HF.out]; rfl)
    clear hkn
    go_wp2_with fail
    try rw [Exit.noGoto_ret]
    go_ret2
    exact ⟨HE.out, HB.out⟩
end
section
open Go.RowKit nam exp
theorem many3 (k : Nat) : (askR k).many ≤ 3 := by
 match k with
 | 0 | 1 | 2 | 3 | 4 | 5 | 6 | 7 | 8 | 9 => exact of_decide_eq_true rfl
 | k + 10 => exact of_decide_eq_true (show decide (ask0.many ≤ 3) = true from rfl)
theorem may_ins {nd : Nd} {p : Nat} (h : mayB nd p = true) : (∀ i ∈ nd.ins, 0 ≤ i ∧ i < p) ∧ nd.ins.length ≤ 3 := by
 have h1 := (mayB_iff.1 h).2.2.1
 refine ⟨fun i hi => takesIn_mem h1 hi, ?_⟩
 unfold takesInB at h1
 rw [Bool.and_eq_true, decide_eq_true_eq] at h1
 have := many3 nd.kind
 omega
theorem bounded_len {par : Int} {l : List Nd} (h : boundedB par l = true) : l.length ≤ 12 ∧ ∀ nd ∈ l, nd.x.size ≤ 1000 := by
 unfold boundedB at h
 rw [Bool.and_eq_true, decide_eq_true_eq, decide_eq_true_eq] at h
 exact ⟨h.1.2.2.2, fun nd hn => by have := room_mem h.2 nd hn; omega⟩
theorem alone_all {l : List Nd} (h : (aloneO l).2 = 0) : (∀ k (hk : k < l.length), ∀ i ∈ l[k].ins, 0 ≤ i ∧ i < k) ∧ ∀ nd ∈ l, nd.ins.length ≤ 1000 := by
 refine ⟨fun k hk => (may_ins (alone_ok h hk)).1, fun nd hn => ?_⟩
 obtain ⟨k, hk, rfl⟩ := List.mem_iff_getElem.1 hn
 have := (may_ins (alone_ok h hk)).2
 omega
set_option maxHeartbeats 1600000 in
set_option maxRecDepth 1000000 in
theorem may_job {w : World} {v : Value} {l : List Nd} (par : Int) (ht : Tab w) (h : Nodes w v l) :
  Calls Tryz.prog 23 #[.agg #[.int .i64 par, v]] w fun e w' => e = .returned (.tuple #[.int .i64 (mayO par l).1, .int .i64 (mayO par l).2]) ∧ Below w.heap.size w w' := by
 obtain ⟨a, c, rfl, -, -⟩ := id h
 obtain ⟨n, hn⟩ : ∃ n, l.length = n := ⟨_, rfl⟩
 rw [hn] at h ⊢
 obtain ⟨W, hW⟩ : ∃ W, w.alloc (.cells #[.int .i64 par, .slice a n c] 28) = W := ⟨_, rfl⟩
 have hwb : Below w.heap.size w W := by rw [← hW]; exact below_made _ _
 obtain ⟨c0, c1⟩ := box2 hW
 have HBO := Lib.hid (bounded_any par (h.on hwb))
 have HB := Lib.hid hwb; have HT := Lib.hid (ht.on hwb); have HNS := Lib.hid (h.on hwb)
 have HC0 := Lib.hid c0; have HC1 := Lib.hid c1
 obtain ⟨bb, hbb⟩ : ∃ b, boundedB par l = b := ⟨_, rfl⟩
 rw [hbb] at HBO
 cases bb with
 | false =>
  have HR : Hid (mayO par l = (0, 2)) := Lib.hid (by unfold mayO; rw [if_pos hbb])
  rw [HR.out]
  clear ht h hwb hn hbb HR
  go_enter Tryz.func23, Tryz.ntmps23
  go_wp2_with fail
  refine HBO.out.mono ?_
  rintro e w1 ⟨rfl, hb1⟩
  have HX := Lib.hid (HB.out.trans (hb1.mono HB.out.size)); clear hb1
  go_wp2_with fail
  go_ret2
  exact ⟨rfl, HX.out⟩
 | true =>
  obtain ⟨hl12, hsz⟩ := bounded_len hbb
  have HAL : Hid (∀ w', Below W.heap.size W w' → Calls Tryz.prog 55 #[.slice a n c] w' fun e w'' => e = .returned (.tuple #[.int .i64 (aloneO l).1, .int .i64 (aloneO l).2]) ∧ Below w'.heap.size w' w'') := Lib.hid (fun w' hb => alone_any (HT.out.on hb) (HNS.out.on hb) (by omega) (fun nd hn => by have := hsz nd hn; omega))
  obtain ⟨p, hp⟩ : ∃ p, (aloneO l).1 = p := ⟨_, rfl⟩
  obtain ⟨q, hq⟩ : ∃ q, (aloneO l).2 = q := ⟨_, rfl⟩
  rw [hp, hq] at HAL
  by_cases hq0 : q = 0
  · have HTO : Hid (∀ w', Below W.heap.size W w' → Calls Tryz.prog 56 #[.slice a n c] w' fun e w'' => e = .returned (.tuple #[.int .i64 (togetherO l).1, .int .i64 (togetherO l).2]) ∧ Below w'.heap.size w' w'') := Lib.hid (fun w' hb => by
     have := alone_all (l := l) (by rw [hq]; exact hq0)
     exact together_any (HNS.out.on hb) (by omega) this.1 this.2)
    have HR : Hid (mayO par l = togetherO l) := Lib.hid (by unfold mayO; rw [if_neg (by rw [hbb]; simp), if_neg (by rw [hq]; simp [hq0])])
    rw [HR.out]
    obtain ⟨p2, hp2⟩ : ∃ p, (togetherO l).1 = p := ⟨_, rfl⟩
    obtain ⟨q2, hq2⟩ : ∃ q, (togetherO l).2 = q := ⟨_, rfl⟩
    rw [hp2, hq2] at HTO ⊢
    subst hq0
    clear ht h hwb hn hbb HR hp hq hp2 hq2 hl12 hsz
    go_enter Tryz.func23, Tryz.ntmps23
    go_wp2_with fail
    refine HBO.out.mono ?_
    rintro e w1 ⟨rfl, hb1⟩
    have e1 := cell_on HC1.out hb1
    have HX := Lib.hid hb1; clear hb1 c0 c1
    have HA1 := Lib.hid (HAL.out w1 HX.out)
    go_wp2_with fail
    refine HA1.out.mono ?_
    rintro e w2 ⟨rfl, hb2⟩
    have HX2 := Lib.hid (HX.out.trans (hb2.mono HX.out.size)); clear hb2 e1
    have e1 := cell_on HC1.out HX2.out
    have HA2 := Lib.hid (HTO.out w2 HX2.out)
    go_wp2_with fail
    refine HA2.out.mono ?_
    rintro e w3 ⟨rfl, hb3⟩
    have HX3 := Lib.hid (HB.out.trans ((HX2.out.trans (hb3.mono HX2.out.size)).mono HB.out.size)); clear hb3 e1
    go_wp2_with fail
    go_ret2
    exact ⟨rfl, HX3.out⟩
  · have HR : Hid (mayO par l = (p, q)) := Lib.hid (by unfold mayO; rw [if_neg (by rw [hbb]; simp), if_pos (by rw [hq]; exact hq0), ← hp, ← hq])
    rw [HR.out]
    have hne : (q != 0) = true := by simp [hq0]
    clear ht h hwb hn hbb HR hp hq hl12 hsz hq0
    go_enter Tryz.func23, Tryz.ntmps23
    go_wp2_with fail
    refine HBO.out.mono ?_
    rintro e w1 ⟨rfl, hb1⟩
    have e1 := cell_on HC1.out hb1
    have HX := Lib.hid hb1; clear hb1 c0 c1
    have HA1 := Lib.hid (HAL.out w1 HX.out)
    go_wp2_with fail
    refine HA1.out.mono ?_
    rintro e w2 ⟨rfl, hb2⟩
    have HX2 := Lib.hid (HB.out.trans ((HX.out.trans (hb2.mono HX.out.size)).mono HB.out.size)); clear hb2 e1
    go_wp2_with fail
    go_ret2
    exact ⟨rfl, HX2.out⟩
theorem find_job {w : World} {v : Value} {l : List Nd} (par : Int) (uid : ByteArray) (h : Nodes w v l) (hl : l.length ≤ 1000000) :
  Calls Tryz.prog 26 #[.agg #[.int .i64 par, v], .string uid] w fun e w' => e = .returned (.int .i64 (findI l uid)) ∧ Below w.heap.size w w' := by
 obtain ⟨W, hW⟩ : ∃ W, w.alloc (.cells #[.int .i64 par, v] 28) = W := ⟨_, rfl⟩
 have hwb : Below w.heap.size w W := by rw [← hW]; exact below_made _ _
 obtain ⟨c0, c1⟩ := box2 hW
 have HN := Lib.hid (named_any uid (h.on hwb) hl)
 have HB := Lib.hid hwb
 clear h hwb
 go_enter Tryz.func26, Tryz.ntmps26
 go_wp2_with fail
 refine HN.out.mono ?_
 rintro e w1 ⟨rfl, hb1⟩
 have HX := Lib.hid (HB.out.trans (hb1.mono HB.out.size)); clear hb1
 go_wp2_with fail
 go_ret
 exact ⟨rfl, HX.out⟩
end
end Go.Proofs.YtepdecnegihhhaaGreatDoor.jb
