/- The first node that does not hang together with the others. -/
import Derived.Test.YtjmfneljgogohaaDoorJbN
namespace Go.Proofs.YtjmfneljgogohaaDoor.jb
set_option linter.unusedSimpArgs false
set_option linter.unusedVariables false
open Go.RowKit nam exp

theorem shapeAt_eq {l : List Nd} {k : Nat} (h : k < l.length) : shapeAt l k = if shapeB l k l[k] then 122 else 0 := by
  unfold shapeAt; rw [List.getElem?_eq_getElem h]
/-- The ways of the first nodes, and room for the others'. -/
def waysP (l : List Nd) (k : Nat) : List Int := waysL l k ++ List.replicate (l.length - k) 0
theorem waysP_len {l : List Nd} {k : Nat} (h : k ≤ l.length) : (waysP l k).length = l.length := by
  unfold waysP; rw [List.length_append, waysL_len, List.length_replicate]; omega
theorem waysP_getD (l : List Nd) (k i : Nat) : (waysP l k).getD i 0 = (waysL l k).getD i 0 := by
  unfold waysP
  rw [List.getD_eq_getElem?_getD, List.getD_eq_getElem?_getD]
  by_cases h : i < (waysL l k).length
  · rw [List.getElem?_append_left h]
  · rw [List.getElem?_append_right (by omega), List.getElem?_eq_none (by omega : (waysL l k).length ≤ i)]
    cases hr : (List.replicate (l.length - k) (0 : Int))[i - (waysL l k).length]? with
    | none => rfl
    | some z =>
      have := List.mem_of_getElem? hr
      rw [List.mem_replicate] at this
      simp [this.2]
theorem way_same (nd : Nd) (l : List Nd) (k : Nat) : wayOf nd (waysP l k) = wayOf nd (waysL l k) := by
  have e : sumAt (waysP l k) nd.ins = sumAt (waysL l k) nd.ins := by
    unfold sumAt
    congr 1
    funext s i
    rw [waysP_getD]
  unfold wayOf
  rw [e]
theorem waysP_set {l : List Nd} {k : Nat} (h : k < l.length) : (waysP l k).set k (wayOf l[k] (waysL l k)) = waysP l (k + 1) := by
  unfold waysP
  rw [waysL_succ h, List.set_append_right _ _ (by rw [waysL_len]; omega), waysL_len, Nat.sub_self, show l.length - k = (l.length - (k + 1)) + 1 by omega, List.replicate_succ, List.set_cons_zero, List.append_assoc]
  rfl
theorem waysP_mem {l : List Nd} {k : Nat} (hw : ∀ x ∈ waysL l k, 0 ≤ x ∧ x ≤ 64) : ∀ x ∈ waysP l k, 0 ≤ x ∧ x ≤ 64 := fun x hx => by
  unfold waysP at hx
  rcases List.mem_append.1 hx with h | h
  · exact hw x h
  · rw [List.mem_replicate] at h; omega
theorem way_pos {nd : Nd} {ws : List Int} (hw : ∀ x ∈ ws, 0 ≤ x ∧ x ≤ 64) : 0 ≤ wayOf nd ws := by
  have h := sum_bound hw nd.ins 0
  have e : sumAt ws nd.ins = nd.ins.foldl (fun s i => s + ws.getD i.toNat 0) 0 := rfl
  unfold wayOf
  split
  · omega
  split <;> (rw [e]; omega)
theorem cell_set {w : World} {b o n i : Nat} {u v : Value} (h : w.cell? ⟨n, i, none⟩ = some v) (hb : n ≠ b) : (w.setCell ⟨b, o, none⟩ u).cell? ⟨n, i, none⟩ = some v := by
  have e := Below.heap_setCell w ⟨b, o, none⟩ u n hb
  unfold World.cell? at h ⊢
  rw [e]
  exact h
set_option maxHeartbeats 6400000 in
set_option maxRecDepth 1000000 in
theorem together_any {w : World} {v : Value} {l : List Nd} (h : Nodes w v l) (hl : l.length ≤ 1000000) (hin : ∀ k (hk : k < l.length), ∀ i ∈ l[k].ins, 0 ≤ i ∧ i < k) (hi3 : ∀ nd ∈ l, nd.ins.length ≤ 1000) :
    Calls Tryd.prog 20 #[v] w fun e w' => e = .returned (.tuple #[.int .i64 (togetherO l).1, .int .i64 (togetherO l).2]) ∧ Below w.heap.size w w' := by
  obtain ⟨i0, hi, hz0, hz1, hz2⟩ := info_parts info3
  have HNS := Lib.hid h; have HI3 := Lib.hid hi3; have HIN := Lib.hid hin
  obtain ⟨a, c, rfl, hlc, h2⟩ := h
  have HC := Lib.hid h2
  clear h2 hi3 hin
  obtain ⟨n, hn⟩ : ∃ n, l.length = n := ⟨_, rfl⟩
  have HN := Lib.hid hn
  rw [hn] at hl hlc HNS
  rw [hn]
  have HA : Hid (togetherO l = firstErr (shapeAt l) n 0) := Lib.hid (by unfold togetherO; rw [hn])
  have hmk := run_makeSlice (P := Tryd.prog) (w := w) 25 3 i0 (.int .i64 0) Tryd.underlying25 hi hz0 .i64 .i64 (n : Int) (n : Int) (by omega) (by omega) (by rw [hz1]; simp; omega) (by rw [hz2]; omega) (by omega)
  rw [hz1, Int.toNat_natCast, Nat.mul_one, show (Value.int IntKind.i64 0).cells = #[.int .i64 0] from rfl] at hmk
  obtain ⟨W, hW⟩ : ∃ W, w.alloc (.cells (madeCells #[.int .i64 0] n) 3) = W := ⟨_, rfl⟩
  have hww := Ways.made w n
  rw [hW] at hmk hww
  have hwb : Below w.heap.size w W := by rw [← hW]; exact below_made _ _
  obtain ⟨G, hG⟩ : ∃ G, w.heap.size = G := ⟨_, rfl⟩
  rw [hG] at hmk hww
  have HST : Hid (Ways W G (waysP l 0) ∧ Below w.heap.size w W) := Lib.hid ⟨by unfold waysP; rw [hn]; exact hww, hwb⟩
  have HG := Lib.hid hG
  clear hn hW hww hwb hi hz0 hz1 hz2 hG
  go_enter Tryd.func20, Tryd.ntmps20
  go_wp2_with fail
  clear hmk
  go_loopg [13] n (fun g v13 wr => ∃ k : Nat, k + g = n ∧ v13 = .int .i64 k ∧ firstErr (shapeAt l) g k = togetherO l ∧ Ways wr G (waysP l k) ∧ (∀ x ∈ waysL l k, 0 ≤ x ∧ x ≤ 64) ∧ Below w.heap.size w wr)
  case atStart => exact ⟨0, by omega, rfl, HA.out.symm, HST.out.1, (fun x hx => by cases hx), HST.out.2⟩
  case round =>
    obtain ⟨k, hk, rfl, hf, hws, hwm, hb⟩ := hrel
    have HF := Lib.hid hf; have HB := Lib.hid hb; have HWS := Lib.hid hws; have HWM := Lib.hid hwm; clear hf hb hws hwm
    by_cases hkn : k < n
    · obtain ⟨g, rfl⟩ : ∃ g, gk = g + 1 := ⟨gk - 1, by omega⟩
      have hkl : k < l.length := by rw [HN.out]; exact hkn
      have hki : (k : Int) < (n : Int) := by omega
      have hkc : (k : Int) ≤ (c : Int) := by omega
      have hn1 : (1 : Int) ≤ (n : Int) := by omega
      obtain ⟨b, rfl, hat⟩ := HC.out (by omega)
      obtain ⟨-, vi, va, c0, c1, c2, c3, c4, c5, c6, hvi, hva⟩ := (hat k hkl).on HB.out
      have HE := Lib.hid (shapeAt_eq hkl)
      have HTK := Lib.hid (HNS.out.take (k := k) (by rw [HN.out]; omega))
      have hmem := List.getElem_mem hkl
      have HWY := Lib.hid (waysP_set hkl)
      have HI2 := Lib.hid (HIN.out k hkl)
      have HWL := Lib.hid (waysL_succ hkl)
      obtain ⟨nd, hx⟩ : ∃ x, l[k] = x := ⟨_, rfl⟩
      rw [hx] at c0 c1 c3 c4 c6 hvi hva HE HWY HI2 HWL hmem
      obtain ⟨ai, ci, hvie, -⟩ := id hvi
      obtain ⟨aa, ca, hvae, -⟩ := hva.form
      subst hvie
      subst hvae
      have HBM : Hid (Below wr.heap.size wr (wr.alloc (.cells #[.string nd.uid, .int .u8 (nd.kind : Int), .slice ai nd.ins.length ci, .int .u8 (nd.x.op : Int), .int .i64 nd.x.n, .slice aa nd.x.args.length ca, .int .i64 nd.n] 30))) := Lib.hid (below_made wr _)
      have HB1 := Lib.hid (HB.out.trans (HBM.out.mono HB.out.size))
      have hbx := @nd_box wr nd (.slice ai nd.ins.length ci) (.slice aa nd.x.args.length ca)
      have HBX := Lib.hid hbx
      obtain ⟨d0, d1, d2, d3, d4, d5, d6⟩ := hbx
      have hpl : (waysP l k).length = n := by rw [waysP_len (by omega), HN.out]
      have HY := Lib.hid (waysTo_any (⟨_, _, rfl, hvi.on HBM.out, hva.under HBM.out⟩ : NodeIs _ (nodeV nd _ _) nd) ((HWS.out.on HBM.out).row (c := n)) (fun i h => by have := HI2.out i h; rw [hpl]; omega) (HI3.out nd hmem) (waysP_mem HWM.out))
      rw [way_same, hpl] at HY
      obtain ⟨y, hy⟩ : ∃ y, wayOf nd (waysL l k) = y := ⟨_, rfl⟩
      have HY0 : Hid (0 ≤ y) := Lib.hid (by rw [← hy]; exact way_pos HWM.out)
      rw [hy] at HY HWY HWL
      unfold nodeV at HY
      -- what the tests come to
      obtain ⟨s1, hs1⟩ : ∃ b, ((nd.kind : Int) == 1) = b := ⟨_, rfl⟩
      obtain ⟨z0, hz⟩ : ∃ b, ((k : Int) == 0) = b := ⟨_, rfl⟩
      obtain ⟨s9, hs9⟩ : ∃ b, ((nd.kind : Int) == 9) = b := ⟨_, rfl⟩
      obtain ⟨la, hla⟩ : ∃ b, ((k : Int) == (n : Int) - 1) = b := ⟨_, rfl⟩
      obtain ⟨k4, hk4⟩ : ∃ b, ((nd.kind : Int) == 4) = b := ⟨_, rfl⟩
      obtain ⟨rb, hrb⟩ : ∃ b, (decide (1 ≤ (readersI l k).length) && decide ((readersI l k).length ≤ 3)) = b := ⟨_, rfl⟩
      obtain ⟨fn, hfn⟩ : ∃ m, flatsN (l.take k) = m := ⟨_, rfl⟩
      have HSH : Hid (shapeB l k nd = ((s1 != z0) || (s9 != la) || (!la && !rb) || (k4 && decide (2 ≤ fn)) || decide (64 < y))) := Lib.hid (by
        unfold shapeB
        have t1 : decide (nd.kind = 1) = s1 := by rw [← hs1, Bool.eq_iff_iff]; simp; omega
        have t2 : decide (k = 0) = z0 := by rw [← hz, Bool.eq_iff_iff]; simp
        have t3 : decide (nd.kind = 9) = s9 := by rw [← hs9, Bool.eq_iff_iff]; simp; omega
        have t4 : decide (k + 1 = l.length) = la := by rw [← hla, HN.out, Bool.eq_iff_iff]; simp; omega
        have t5 : decide (nd.kind = 4) = k4 := by rw [← hk4, Bool.eq_iff_iff]; simp; omega
        rw [t1, t2, t3, t4, t5, hrb, hfn, hy])
      have HBAD : Hid (shapeB l k nd = true → Ending.returned (.tuple #[.int .i64 (k : Int), .int .i64 122]) = .returned (.tuple #[.int .i64 (togetherO l).1, .int .i64 (togetherO l).2])) := Lib.hid (fun hsh => by
        have e0 : shapeAt l k = 122 := by rw [HE.out, if_pos hsh]
        rw [← HF.out, firstErr_stop (by rw [e0]; decide), e0])
      have HON : Hid (shapeB l k nd = false → y ≤ 64 → firstErr (shapeAt l) g (k + 1) = togetherO l ∧ ∀ x ∈ waysL l (k + 1), 0 ≤ x ∧ x ≤ 64) := Lib.hid (fun hsh hy64 => by
        have e0 : shapeAt l k = 0 := by rw [HE.out, if_neg (by rw [hsh]; simp)]
        refine ⟨by rw [← HF.out, firstErr_step e0], fun x hx => ?_⟩
        rw [HWL.out] at hx
        rcases List.mem_append.1 hx with h | h
        · exact HWM.out x h
        · rw [List.mem_singleton.1 h]; exact ⟨HY0.out, hy64⟩)
      have HRW : Hid (∀ w', Below w.heap.size w w' → Calls Tryd.prog 35 #[.slice (some ⟨b, 0, none⟩) n c, .int .i64 (k : Int)] w' fun e w'' => e = .returned (.bool rb) ∧ Below w'.heap.size w' w'') := Lib.hid (fun w' hb => by
        have := readWell_any (k : Int) (HNS.out.on hb) (by rw [HN.out]; exact hl) (fun m hm => by have := HI3.out m hm; omega)
        rw [hrb] at this
        exact this)
      have HFL : Hid (∀ w', Below w.heap.size w w' → Calls Tryd.prog 36 #[.slice (some ⟨b, 0, none⟩) k c] w' fun e w'' => e = .returned (.int .i64 (fn : Int)) ∧ Below w'.heap.size w' w'') := Lib.hid (fun w' hb => by
        have := flats_any (HTK.out.on hb) (by rw [List.length_take]; omega)
        rw [hfn] at this
        exact this)
      clear hx hkl hvi hva hat hmem hpl hrb hfn hy HE HI2 HWL
      go_wp2_with fail
      refine HY.out.mono ?_
      rintro e w1 ⟨rfl, hb1⟩
      have hbw := below_on' HBM.out hb1
      have hw1 := HWS.out.on hbw
      have HKL : Hid (k < (waysP l k).length) := Lib.hid (by rw [waysP_len (by rw [HN.out]; omega), HN.out]; omega)
      have cy := hw1.cell HKL.out
      have cf := hw1.free (i := k)
      have HW1 := Lib.hid (And.intro hw1 (And.intro (HB.out.trans (hbw.mono HB.out.size)) (HBX.out.on hb1)))
      have HGM : Hid (G < wr.heap.size) := Lib.hid HWS.out.lt
      have HM1 : Hid (wr.heap.size < w1.heap.size) := Lib.hid (by have := hb1.size; rw [World.size_alloc] at this; omega)
      clear hb1 hbw hw1 d0 d1 d2 d3 d4 d5 d6 c0 c1 c2 c3 c4 c5 c6
      go_upto_region 6 with fail
      obtain ⟨w2, hw2⟩ : ∃ w2, w1.setCell ⟨G, k, none⟩ (.int .i64 y) = w2 := ⟨_, rfl⟩
      rw [hw2]
      have HZ : Hid (Ways w2 G (waysP l (k + 1)) ∧ Below w.heap.size w w2 ∧ Box7 w2 wr.heap.size (.string nd.uid) (.int .u8 (nd.kind : Int)) (.slice ai nd.ins.length ci) (.int .u8 (nd.x.op : Int)) (.int .i64 nd.x.n) (.slice aa nd.x.args.length ca) (.int .i64 nd.n)) := Lib.hid (by
        obtain ⟨h1, h2, h3⟩ := HW1.out
        have hGM := HGM.out
        have hne : wr.heap.size ≠ G := by omega
        rw [← hw2]
        refine ⟨by rw [← HWY.out]; exact h1.put y, h2.setCell (by show w.heap.size ≤ G; rw [HG.out]; exact Nat.le_refl _) _, ?_⟩
        obtain ⟨t0, t1, t2, t3, t4, t5, t6⟩ := h3
        exact ⟨cell_set t0 hne, cell_set t1 hne, cell_set t2 hne, cell_set t3 hne, cell_set t4 hne, cell_set t5 hne, cell_set t6 hne⟩)
      have HYC : Hid (∀ w', Ways w' G (waysP l (k + 1)) → w'.cell? ⟨G, k, none⟩ = some (.int .i64 y)) := Lib.hid (fun w' hw => by
        have hkk : k < (waysP l (k + 1)).length := by rw [← HWY.out, List.length_set]; exact HKL.out
        rw [hw.cell hkk]
        have : (waysP l (k + 1))[k]? = some y := by rw [← HWY.out]; simp [HKL.out]
        rw [List.getElem?_eq_getElem hkk] at this
        rw [Option.some.inj this])
      clear hw2 cy cf
      obtain ⟨-, m1, -, -, -, -, -⟩ := HZ.out.2.2
      have cy := HYC.out _ HZ.out.1
      have hq1 : s1 = z0 ∨ s1 = !z0 := by cases s1 <;> cases z0 <;> simp
      rcases hq1 with rfl | rfl
      · cases s1
        all_goals
          have hq9 : s9 = la ∨ s9 = !la := by cases s9 <;> cases la <;> simp
          rcases hq9 with rfl | rfl
          · cases s9 with
            | true =>
              cases k4 with
              | false =>
                by_cases hbig : 64 < y
                · have hbig2 := hbig
                  go_wp2_with fail
                  try rw [Exit.noGoto_ret]
                  go_ret2
                  exact ⟨HBAD.out (by rw [HSH.out]; first | rfl | (simp; done) | (simp; omega)), HZ.out.2.1⟩
                · have hbig2 := hbig
                  go_wp2_with fail
                  go_roundg g
                  case rel => exact ⟨k + 1, by omega, by go_num, (HON.out (by rw [HSH.out]; first | rfl | (simp; done) | (simp; omega)) (by omega)).1, HZ.out.1, (HON.out (by rw [HSH.out]; first | rfl | (simp; done) | (simp; omega)) (by omega)).2, HZ.out.2.1⟩
                  case measure => omega
              | true =>
                have HF4 := Lib.hid (HFL.out w2 HZ.out.2.1)
                go_wp2_with fail
                refine HF4.out.mono ?_
                rintro e w4 ⟨rfl, hb3⟩
                have HZf := Lib.hid (And.intro (HZ.out.1.on hb3) (And.intro (HZ.out.2.1.trans (hb3.mono HZ.out.2.1.size)) (HZ.out.2.2.on hb3)))
                clear hb3 m1 cy
                obtain ⟨-, m1, -, -, -, -, -⟩ := HZf.out.2.2
                have cy := HYC.out _ HZf.out.1
                by_cases hfl : 2 ≤ fn
                · have hfl2 : (2 : Int) ≤ (fn : Int) := by omega
                  go_wp2_with fail
                  try rw [Exit.noGoto_ret]
                  go_ret2
                  exact ⟨HBAD.out (by rw [HSH.out]; first | rfl | (simp; done) | (simp; omega)), HZf.out.2.1⟩
                · have hfl2 : ¬ (2 : Int) ≤ (fn : Int) := by omega
                  by_cases hbig : 64 < y
                  · have hbig2 := hbig
                    go_wp2_with fail
                    try rw [Exit.noGoto_ret]
                    go_ret2
                    exact ⟨HBAD.out (by rw [HSH.out]; first | rfl | (simp; done) | (simp; omega)), HZf.out.2.1⟩
                  · have hbig2 := hbig
                    go_wp2_with fail
                    go_roundg g
                    case rel => exact ⟨k + 1, by omega, by go_num, (HON.out (by rw [HSH.out]; first | rfl | (simp; done) | (simp; omega)) (by omega)).1, HZf.out.1, (HON.out (by rw [HSH.out]; first | rfl | (simp; done) | (simp; omega)) (by omega)).2, HZf.out.2.1⟩
                    case measure => omega
            | false =>
              have HR4 := Lib.hid (HRW.out w2 HZ.out.2.1)
              go_wp2_with fail
              refine HR4.out.mono ?_
              rintro e w3 ⟨rfl, hb3⟩
              have HZr := Lib.hid (And.intro (HZ.out.1.on hb3) (And.intro (HZ.out.2.1.trans (hb3.mono HZ.out.2.1.size)) (HZ.out.2.2.on hb3)))
              clear hb3 m1 cy
              obtain ⟨-, m1, -, -, -, -, -⟩ := HZr.out.2.2
              have cy := HYC.out _ HZr.out.1
              cases rb with
              | false =>
                go_wp2_with fail
                try rw [Exit.noGoto_ret]
                go_ret2
                exact ⟨HBAD.out (by rw [HSH.out]; first | rfl | (simp; done) | (simp; omega)), HZr.out.2.1⟩
              | true =>
                cases k4 with
                | false =>
                  by_cases hbig : 64 < y
                  · have hbig2 := hbig
                    go_wp2_with fail
                    try rw [Exit.noGoto_ret]
                    go_ret2
                    exact ⟨HBAD.out (by rw [HSH.out]; first | rfl | (simp; done) | (simp; omega)), HZr.out.2.1⟩
                  · have hbig2 := hbig
                    go_wp2_with fail
                    go_roundg g
                    case rel => exact ⟨k + 1, by omega, by go_num, (HON.out (by rw [HSH.out]; first | rfl | (simp; done) | (simp; omega)) (by omega)).1, HZr.out.1, (HON.out (by rw [HSH.out]; first | rfl | (simp; done) | (simp; omega)) (by omega)).2, HZr.out.2.1⟩
                    case measure => omega
                | true =>
                  have HF4 := Lib.hid (HFL.out w3 HZr.out.2.1)
                  go_wp2_with fail
                  refine HF4.out.mono ?_
                  rintro e w4 ⟨rfl, hb3⟩
                  have HZrf := Lib.hid (And.intro (HZr.out.1.on hb3) (And.intro (HZr.out.2.1.trans (hb3.mono HZr.out.2.1.size)) (HZr.out.2.2.on hb3)))
                  clear hb3 m1 cy
                  obtain ⟨-, m1, -, -, -, -, -⟩ := HZrf.out.2.2
                  have cy := HYC.out _ HZrf.out.1
                  by_cases hfl : 2 ≤ fn
                  · have hfl2 : (2 : Int) ≤ (fn : Int) := by omega
                    go_wp2_with fail
                    try rw [Exit.noGoto_ret]
                    go_ret2
                    exact ⟨HBAD.out (by rw [HSH.out]; first | rfl | (simp; done) | (simp; omega)), HZrf.out.2.1⟩
                  · have hfl2 : ¬ (2 : Int) ≤ (fn : Int) := by omega
                    by_cases hbig : 64 < y
                    · have hbig2 := hbig
                      go_wp2_with fail
                      try rw [Exit.noGoto_ret]
                      go_ret2
                      exact ⟨HBAD.out (by rw [HSH.out]; first | rfl | (simp; done) | (simp; omega)), HZrf.out.2.1⟩
                    · have hbig2 := hbig
                      go_wp2_with fail
                      go_roundg g
                      case rel => exact ⟨k + 1, by omega, by go_num, (HON.out (by rw [HSH.out]; first | rfl | (simp; done) | (simp; omega)) (by omega)).1, HZrf.out.1, (HON.out (by rw [HSH.out]; first | rfl | (simp; done) | (simp; omega)) (by omega)).2, HZrf.out.2.1⟩
                      case measure => omega
          · cases la
            all_goals
              go_wp2_with fail
              try rw [Exit.noGoto_ret]
              go_ret2
              exact ⟨HBAD.out (by rw [HSH.out]; first | rfl | (simp; done) | (simp; omega)), HZ.out.2.1⟩
      · cases z0
        all_goals
          go_wp2_with fail
          try rw [Exit.noGoto_ret]
          go_ret2
          exact ⟨HBAD.out (by rw [HSH.out]; first | rfl | (simp; done) | (simp; omega)), HZ.out.2.1⟩
    · have hki : ¬ (k : Int) < (n : Int) := by omega
      have hg0 : gk = 0 := by omega
      subst hg0
      have HE : Hid (Ending.returned (.tuple #[.int .i64 0, .int .i64 0]) = .returned (.tuple #[.int .i64 (togetherO l).1, .int .i64 (togetherO l).2])) := Lib.hid (by rw [← HF.out]; rfl)
      clear hkn
      go_wp2_with fail
      try rw [Exit.noGoto_ret]
      go_ret2
      exact ⟨HE.out, HB.out⟩
end Go.Proofs.YtjmfneljgogohaaDoor.jb
