/- What the reference's Of answers. -/
import Derived.Test.YtghpbhcnblninaaTcR
namespace Go.Proofs.Ytghpbhcnblninaa.tbl
set_option linter.unusedSimpArgs false
set_option linter.unusedVariables false
open Go.RowKit
attribute [local go_sem ↓] Go.wp_at_zero Go.wp_at_succ
open Go.Proofs.Ytghpbhcnblninaa.grp (gof gof_in fits fits_wf IRow intV below_on' below_made ret_bool own_below ret_int rof_any below_drewN)
open ref (Bld)
def ROfRel (w wr : World) (u : Nat) (gs : List Int) (j : Nat) (rs : List Rw) : Prop := ∃ v qs, Bld wr u (u + 1) v qs ∧ qs.map Rw.p = ofL ((rs.take j).map Rw.p) gs ∧ qs.length ≤ j ∧ Below w.heap.size w wr
theorem ofL_snoc (L : Rows) (p : Int × Cl) (gs : List Int) : ofL (L ++ [p]) gs = ofL L gs ++ (if gof p.1 ∈ gs then [p] else []) := by
  unfold ofL
  rw [List.filter_append]
  by_cases h : gof p.1 ∈ gs
  · rw [if_pos h]; simp [h]
  · rw [if_neg h]; simp [h]
theorem of_take {rs : List Rw} {j : Nat} (h : j < rs.length) (gs : List Int) : ofL ((rs.take (j + 1)).map Rw.p) gs = ofL ((rs.take j).map Rw.p) gs ++ (if gof rs[j].key ∈ gs then [rs[j].p] else []) := by
  rw [List.take_succ_eq_append_getElem h, List.map_append]
  exact ofL_snoc _ _ _
theorem in_more {gs : List Int} {i : Nat} (h : i < gs.length) (g : Int) : decide (g ∈ gs.take (i + 1)) = (decide (g ∈ gs.take i) || gs[i] == g) := by
  rw [List.take_succ_eq_append_getElem h]
  rw [Bool.eq_iff_iff]
  simp only [List.mem_append, List.mem_singleton, decide_eq_true_eq, Bool.or_eq_true, beq_iff_eq]
  exact or_congr Iff.rfl eq_comm
set_option maxHeartbeats 6400000 in
set_option maxRecDepth 1000000 in
theorem rof_table {w : World} {r : Nat} {rs : List Rw} (h : IsRs w r rs) (hG : Good (rs.map Rw.p)) {gs : List Int} {gv : Value} (hv : IRow w gv gs) (hgl : gs.length ≤ 1000000) :
    Calls Try.prog 25 #[.pointer (some ⟨r, 0, none⟩), gv] w fun e w' => ∃ u, e = .returned (.pointer (some ⟨u, 0, none⟩)) ∧ IsRef w' u (ofL (rs.map Rw.p) gs) ∧ w.heap.size ≤ u ∧ Below w.heap.size w w' := by
  obtain ⟨ga, gc, rfl, hgv⟩ := hv
  have HGV := Lib.hid hgv
  obtain ⟨gn, hgn⟩ : ∃ n, gs.length = n := ⟨_, rfl⟩
  have HGN := Lib.hid hgn
  rw [hgn] at hgl ⊢
  obtain ⟨vv, hr, hs, hna⟩ := h
  have HS := Lib.hid hs
  have HNAS := Lib.hid hna
  have c0 := cell_of_row w r 0 _ _ _ hr
  have hlen : rs.length ≤ 320 := by have := hG.len; rwa [List.length_map] at this
  have HL3 := Lib.hid hlen
  have HGD := Lib.hid hG
  have HKF : Hid (∀ j (h : j < rs.length), fits rs[j].key) := Lib.hid (fun j hj => hG.key rs[j].p (List.mem_map_of_mem (List.getElem_mem hj)))
  obtain ⟨n, hn⟩ : ∃ n, rs.length = n := ⟨_, rfl⟩
  have HN := Lib.hid hn
  obtain ⟨a0, c1, hv0⟩ := hs.len
  rw [hn] at hlen hv0
  have HV := Lib.hid hv0
  rw [hv0] at c0
  change w.cell? ⟨r, 0, none⟩ = some (.slice a0 n c1) at c0
  have HC0 := Lib.hid c0
  have hb1 := below_made w (.cells #[.slice none 0 0] 45)
  have hu1 := Go.heap_alloc_new w (.cells #[.slice none 0 0] 45)
  have hr0 : ROfRel w (w.alloc (.cells #[.slice none 0 0] 45)) w.heap.size gs 0 rs := ⟨_, [], ⟨hu1, World.ownsRow_nil _ _ _ _, by simp⟩, rfl, Nat.le_refl _, hb1⟩
  obtain ⟨W1, hW1⟩ : ∃ W, w.alloc (.cells #[.slice none 0 0] 45) = W := ⟨_, rfl⟩
  obtain ⟨u, hu⟩ : ∃ u, w.heap.size = u := ⟨_, rfl⟩
  have HW1 := Lib.hid hW1
  have HUE := Lib.hid hu
  have HU : Hid (w.heap.size ≤ u) := Lib.hid (by omega)
  rw [hW1, hu] at hr0
  have HR0 := Lib.hid hr0
  clear hgv hgn hr hs hna c0 hG hn hv0 hb1 hu1 hr0 hW1 hu
  go_enter Try.func25, Try.ntmps25
  go_wp2_with fail
  rw [HW1.out, HUE.out]
  go_loopg [6] n (fun g v6 wr => ∃ j : Nat, j + g = n ∧ v6 = .int .i64 j ∧ ROfRel w wr u gs j rs)
  case atStart => exact ⟨0, by omega, rfl, HR0.out⟩
  case round =>
    rename World => wr
    obtain ⟨j, hjg, rfl, v, qs, hbl, hqm, hql, hbw⟩ := hrel
    have HBL := Lib.hid hbl
    have HQM := Lib.hid hqm
    have HQL := Lib.hid hql
    have HBW := Lib.hid hbw
    have HJN := Lib.hid hjg
    have hc := (hbw.cell (p := ⟨r, 0, none⟩) (World.block_lt_of_cell? w _ HC0.out)).trans HC0.out
    clear hbl hqm hql hbw
    cases gk with
    | zero =>
      have hjz : ¬ ((j : Int) < (n : Int)) := by omega
      have HF : Hid (IsRef wr u (ofL (rs.map Rw.p) gs)) := Lib.hid ⟨HGD.out.of gs, qs, by rw [HQM.out, List.take_of_length_le (by have := HN.out; have := HJN.out; omega)], HBL.out.isRs⟩
      clear hjg
      go_wp2_with fail
      go_ret
      exact ⟨u, rfl, HF.out, HU.out, HBW.out⟩
    | succ g =>
      have hjn : j < rs.length := by have := HN.out; omega
      have hjz : (j : Int) < (n : Int) := by omega
      have hj0 : (0 : Int) ≤ (j : Int) := by omega
      obtain ⟨gb, o, c2, hv2, e1, e2, e3⟩ := HS.out.at hjn
      rw [HN.out] at hv2
      rw [HV.out] at hv2
      obtain ⟨rfl, rfl⟩ : a0 = some ⟨gb, o, none⟩ ∧ c1 = c2 := by injection hv2 with h1 h2 h3; exact ⟨h1, h3⟩
      have HC := HC0
      have HGB : Hid (gb < w.heap.size) := Lib.hid (World.block_lt_of_cell? w _ e1)
      have hck := (HBW.out.cell (p := ⟨gb, o + j * 3, none⟩) HGB.out).trans e1
      have HRG0 : Hid (w.rangeAt gb (o + j * 3) [.int .i64 rs[j].key, .int .i64 rs[j].acc, .slice rs[j].a rs[j].ns.length rs[j].cap]) := Lib.hid (fun i y hi => by
        match i, hi with
        | 0, hi => simp at hi; subst hi; exact e1
        | 1, hi => simp at hi; subst hi; exact e2
        | 2, hi => simp at hi; subst hi; exact e3)
      have HNA0 := Lib.hid ((HNAS.out _ (List.getElem_mem hjn)).keep (.of_below HBW.out))
      have HOF := Lib.hid (fun w => rof_any rs[j].key w (HKF.out j hjn))
      have HMO := Lib.hid (of_take hjn gs)
      obtain ⟨q, hq⟩ : ∃ q, rs[j] = q := ⟨_, rfl⟩
      rw [hq] at hck HRG0 HNA0 HMO
      simp only [hq] at HOF
      obtain ⟨key, x, va, ns, vc⟩ := q
      dsimp only at hck HRG0 HNA0 HMO HOF
      obtain ⟨gx, hgx⟩ : ∃ y, gof key = y := ⟨_, rfl⟩
      simp only [hgx] at HOF HMO
      clear hq hgx e1 e2 e3 hv2 hjn hjg
      go_wp2_with fail
      go_loopg [7, 8] gn (fun g v7 v8 wy => ∃ i : Nat, i + g = gn ∧ v8 = .int .i64 i ∧ v7 = .bool (decide (gx ∈ gs.take i)) ∧ ∃ d, wy = wr.drewN d)
      case atStart => exact ⟨0, by omega, rfl, by simp, 0, rfl⟩
      case round =>
        rename World => wy
        obtain ⟨i, hig, rfl, rfl, d, hwy⟩ := hrel
        have HWY := Lib.hid hwy
        have HBY : Hid (Below w.heap.size w wy) := Lib.hid (by rw [hwy]; exact HBW.out.trans ((below_drewN wr d).mono HBW.out.size))
        have hcy : wy.cell? ⟨r, 0, none⟩ = some (.slice (some ⟨gb, o, none⟩) n c1) := by rw [hwy]; exact hc
        have hky : wy.cell? ⟨gb, o + j * 3, none⟩ = some (.int .i64 key) := by rw [hwy]; exact hck
        clear hwy
        cases gk with
        | succ gi =>
          have hin : i < gs.length := by have := HGN.out; omega
          have hiz : (i : Int) < (gn : Int) := by omega
          have hi0 : (0 : Int) ≤ (i : Int) := by omega
          obtain ⟨gg, og, rfl, hg1, hg2⟩ := HGV.out (by omega)
          have hgy : wy.cell? ⟨gg, og + i, none⟩ = some (.int .i64 gs[i]) := (HBY.out.cell (p := ⟨gg, og + i, none⟩) hg1).trans (hg2 i hin)
          have HIN := Lib.hid (in_more hin gx)
          have HIG := Lib.hid hig
          obtain ⟨y, hy⟩ : ∃ y, gs[i] = y := ⟨_, rfl⟩
          rw [hy] at hgy HIN
          clear hy hg2 hin hig
          cases hbi : decide (gx ∈ gs.take i) with
          | true =>
            rw [hbi] at HIN
            clear hbi
            go_wp2_with fail
            go_quiet (fail)
            go_wp2_with fail
            go_roundg gi
            case measure => omega
            case rel => exact ⟨i + 1, by have := HIG.out; omega, by go_num, by rw [HIN.out]; rfl, d + nq, by rw [HWY.out, World.drewN_drewN]⟩
          | false =>
            rw [hbi] at HIN
            clear hbi
            go_wp2_with fail
            go_quiet ((go_at_call 50; exact Calls.quiet_of_same (HOF.out _)))
            go_wp2_with fail
            go_roundg gi
            case measure => omega
            case rel => exact ⟨i + 1, by have := HIG.out; omega, by go_num, by rw [HIN.out]; rfl, d + nq, by rw [HWY.out, World.drewN_drewN]⟩
        | zero =>
          have hiz : ¬ ((i : Int) < (gn : Int)) := by omega
          have hit : gs.take i = gs := List.take_of_length_le (by have := HGN.out; omega)
          rw [hit]
          have hwy := HWY.out.symm
          have HBL : Hid (Bld wy u (u + 1) v qs) := Lib.hid (hwy ▸ (show Bld (wr.drewN d) u (u + 1) v qs from HBL.out))
          have HBW := HBY
          have HNA : Hid (NA wy va vc ns) := Lib.hid (hwy ▸ (show NA (wr.drewN d) va vc ns from HNA0.out))
          have HCU : Hid (wy.cell? ⟨u, 0, none⟩ = some v) := Lib.hid (by rw [cell_of_row wy u 0 _ _ _ HBL.out.1]; rfl)
          clear hit hwy hig hc hck HNA0
          cases hbi : decide (gx ∈ gs) with
          | false =>
            have hnot : ¬ gx ∈ gs := of_decide_eq_false hbi
            have HREL : Hid (ROfRel w wy u gs (j + 1) rs) := Lib.hid ⟨v, qs, HBL.out, by rw [HMO.out, if_neg hnot, List.append_nil]; exact HQM.out, Nat.le_succ_of_le HQL.out, HBW.out⟩
            clear hbi hnot
            go_wp2_with fail
            go_roundg g
            case measure => omega
            case rel => exact ⟨j + 1, by have := HJN.out; omega, by go_num, HREL.out⟩
          | true =>
            have hyes : gx ∈ gs := of_decide_eq_true hbi
            have HMORE : Hid ((qs ++ [(⟨key, x, va, ns, vc⟩ : Rw)]).map Rw.p = ofL ((rs.take (j + 1)).map Rw.p) gs) := Lib.hid (by rw [HMO.out, if_pos hyes, List.map_append, HQM.out]; rfl)
            have HSRN0 := Lib.hid (ref.sr_new wy.drew ⟨key, x, va, ns, vc⟩)
            obtain ⟨vn, hvn⟩ : ∃ l, ns.length = l := ⟨_, rfl⟩
            dsimp only at HSRN0 HRG0
            rw [hvn] at HSRN0 HRG0
            have HSRN := HSRN0
            have HRG := HRG0
            have q0 := HCU.out
            clear hbi hyes HSRN0 HRG0 hvn
            have hbd : Bld wy.drew u (u + 1) v qs := HBL.out
            obtain ⟨v9, w9, hr9, ho9, hg9⟩ := ref.app3_run (ref.own_below3 (show wy.drew.ownsRow (u + 1) 89 3 v qs.length (cells3 qs) from HBL.out.2.1) (below_made wy.drew (.cells #[.int .i64 key, .int .i64 x, .slice va vn vc] 89))) HSRN.out (by have := HQL.out; have := HL3.out; have := HJN.out; simp only [List.length_cons, List.length_nil]; omega) (by rw [World.size_alloc]; exact Nat.le_succ_of_le (lt_of_get HBL.out.1)) 43
            have hmo := hbd.more (x := ⟨key, x, va, ns, vc⟩) HNA.out (by rw [show cells3 [(⟨key, x, va, ns, vc⟩ : Rw)] = (⟨key, x, va, ns, vc⟩ : Rw).cells by simp [cells3]] at ho9; exact ho9) hg9 (Nat.lt_succ_self u)
            obtain ⟨a9, c9, hv9⟩ := (Sr.own hmo.1.2.1).2.len
            subst hv9
            have HREL : Hid (ROfRel w (w9.setCell ⟨u, 0, none⟩ (.slice a9 (qs ++ [(⟨key, x, va, ns, vc⟩ : Rw)]).length c9)) u gs (j + 1) rs) := Lib.hid (by
              have hon : Only (fun i => i = u ∨ u + 1 ≤ i) wy (w9.setCell ⟨u, 0, none⟩ (.slice a9 (qs ++ [(⟨key, x, va, ns, vc⟩ : Rw)]).length c9)) := ⟨hmo.2.1.os, hmo.2.1.tape, hmo.2.1.output, hmo.2.1.size, hmo.2.1.block⟩
              refine ⟨_, qs ++ [⟨key, x, va, ns, vc⟩], hmo.1, HMORE.out, ?_, HBW.out.trans (hon.below HBW.out.size (fun i hi => by have := HU.out; omega))⟩
              simp only [List.length_append, List.length_cons, List.length_nil]
              have := HQL.out; omega)
            have z0 : w9.cell? ⟨u, 0, none⟩ = some v := by rw [cell_of_row w9 u 0 _ _ _ hmo.2.2]; rfl
            have zf := frozen_of_row w9 u 0 _ _ hmo.2.2
            have hb8n := below_made wy.drew (.cells #[.int .i64 key, .int .i64 x, .slice va vn vc] 89)
            have hbk : ∀ W, Only (fun i => i = u ∨ u + 1 ≤ i) wy W → W.cell? ⟨r, 0, none⟩ = some (.slice (some ⟨gb, o, none⟩) n c1) ∧ W.rangeAt gb (o + j * 3) [.int .i64 key, .int .i64 x, .slice va vn vc] := fun W hon => by
              have hb : Below w.heap.size w W := HBW.out.trans (hon.below HBW.out.size (fun i hi => by have := HU.out; omega))
              exact ⟨(hb.cell (p := ⟨r, 0, none⟩) (World.block_lt_of_cell? w _ HC.out)).trans HC.out, fun i y hy => (hb.cell (p := ⟨gb, o + j * 3 + i, none⟩) (HGB.out)).trans (HRG.out i y hy)⟩
            have P1 : wy.drew.cell? ⟨u, 0, none⟩ = some v ∧ wy.drew.cell? ⟨r, 0, none⟩ = some (.slice (some ⟨gb, o, none⟩) n c1) ∧ wy.drew.rangeAt gb (o + j * 3) [.int .i64 key, .int .i64 x, .slice va vn vc] := ⟨HCU.out, hbk _ ((Only.refl _ wy).then ⟨rfl, rfl, rfl, Nat.le_refl _, fun _ _ _ => rfl⟩)⟩
            have h8 : Only (fun i => i = u ∨ u + 1 ≤ i) wy (wy.drew.alloc (.cells #[.int .i64 key, .int .i64 x, .slice va vn vc] 89)) := ⟨rfl, rfl, rfl, hb8n.size, fun i hi _ => hb8n.block i hi⟩
            have P2 : (wy.drew.alloc (.cells #[.int .i64 key, .int .i64 x, .slice va vn vc] 89)).cell? ⟨u, 0, none⟩ = some v ∧ (wy.drew.alloc (.cells #[.int .i64 key, .int .i64 x, .slice va vn vc] 89)).cell? ⟨r, 0, none⟩ = some (.slice (some ⟨gb, o, none⟩) n c1) ∧ (wy.drew.alloc (.cells #[.int .i64 key, .int .i64 x, .slice va vn vc] 89)).rangeAt gb (o + j * 3) [.int .i64 key, .int .i64 x, .slice va vn vc] := ⟨(hb8n.cell (p := ⟨u, 0, none⟩) (lt_of_get HBL.out.1)).trans HCU.out, hbk _ h8⟩
            have P3 : w9.cell? ⟨u, 0, none⟩ = some v ∧ w9.cell? ⟨r, 0, none⟩ = some (.slice (some ⟨gb, o, none⟩) n c1) ∧ w9.rangeAt gb (o + j * 3) [.int .i64 key, .int .i64 x, .slice va vn vc] := ⟨z0, hbk _ (h8.then (.of_grown hg9 (fun i hi => .inr (by obtain ⟨cur, _, h2⟩ := ref.own_blk3 HBL.out.2.1 hi; exact h2))))⟩
            have HR9 : Hid ((Builtin.append_ #[43, 43] 43 #[v, .slice (some ⟨wy.drew.heap.size, 0, none⟩) 1 1]).run Try.prog (wy.drew.alloc (.cells #[.int .i64 key, .int .i64 x, .slice va vn vc] 89)) = .ok (.slice a9 (qs ++ [(⟨key, x, va, ns, vc⟩ : Rw)]).length c9) w9) := Lib.hid hr9
            obtain ⟨L9, hL9⟩ : ∃ l, (qs ++ [(⟨key, x, va, ns, vc⟩ : Rw)]).length = l := ⟨_, rfl⟩
            rw [hL9] at HREL HR9
            clear hbd hr9 ho9 hg9 hmo hb8n hbk h8 hL9
            go_wp2_with fail
            refine dsk.wp_region_peel2 (by kernel_rfl) (by simp only [List.dropLast_cons_cons, List.dropLast_singleton]; exact rfl) rfl (by kernel_rfl) ?_
            refine wpAny_of_held (S := fun w' => w'.cell? ⟨u, 0, none⟩ = some v ∧ w'.cell? ⟨r, 0, none⟩ = some (.slice (some ⟨gb, o, none⟩) n c1) ∧ w'.rangeAt gb (o + j * 3) [.int .i64 key, .int .i64 x, .slice va vn vc]) _ _ _ _ ?_
            have hHeld := P1
            refine wpAnyH_take (i := 0) (v := ?v1) rfl (by kernel_rfl) (by kernel_rfl) (by kernel_rfl) (fun _ _ _ h => h) (Or.inl ⟨by rfl, ?hy1⟩) (by assumption) ?rest1
            case hy1 => (intro w0 hSw; (try dsimp only at hSw); go_simp; try with_reducible rfl)
            try simp only [Act.put, List.getElem_toArray, List.getElem_cons_zero, List.getElem_cons_succ, List.setIfInBounds_toArray, List.set_cons_zero, List.set_cons_succ]
            refine wpAnyH_take (i := 1) (v := ?v2) rfl (by kernel_rfl) (by kernel_rfl) (by kernel_rfl) (fun _ _ _ h => h) (Or.inl ⟨by rfl, ?hy2⟩) (by assumption) ?rest2
            case hy2 => (intro w0 hSw; (try dsimp only at hSw); go_simp; try with_reducible rfl)
            try simp only [Act.put, List.getElem_toArray, List.getElem_cons_zero, List.getElem_cons_succ, List.setIfInBounds_toArray, List.set_cons_zero, List.set_cons_succ]
            refine wpAnyH_take (i := 2) (v := ?v3) rfl (by kernel_rfl) (by kernel_rfl) (by kernel_rfl) (fun _ _ _ h => h) (Or.inl ⟨by rfl, ?hy3⟩) (by assumption) ?rest3
            case hy3 => (intro w0 hSw; (try dsimp only at hSw); go_simp; try with_reducible rfl)
            try simp only [Act.put, List.getElem_toArray, List.getElem_cons_zero, List.getElem_cons_succ, List.setIfInBounds_toArray, List.set_cons_zero, List.set_cons_succ]
            refine wpAnyH_take (i := 3) (v := ?v4) rfl (by kernel_rfl) (by kernel_rfl) (by kernel_rfl) (fun _ _ _ h => h) (Or.inl ⟨by rfl, ?hy4⟩) (by assumption) ?rest4
            case hy4 => (intro w0 hSw; (try dsimp only at hSw); go_simp; try with_reducible rfl)
            try simp only [Act.put, List.getElem_toArray, List.getElem_cons_zero, List.getElem_cons_succ, List.setIfInBounds_toArray, List.set_cons_zero, List.set_cons_succ]
            refine wpAnyH_take (i := 4) (v := ?v5) rfl (by kernel_rfl) (by kernel_rfl) (by kernel_rfl) (fun _ _ _ h => h) (Or.inl ⟨by rfl, ?hy5⟩) (by assumption) ?rest5
            case hy5 => (intro w0 hSw; (try dsimp only at hSw); go_simp; try with_reducible rfl)
            try simp only [Act.put, List.getElem_toArray, List.getElem_cons_zero, List.getElem_cons_succ, List.setIfInBounds_toArray, List.set_cons_zero, List.set_cons_succ]
            refine wpAnyH_take (i := 5) (v := ?v6) rfl (by kernel_rfl) (by kernel_rfl) (by kernel_rfl) (fun _ _ _ h => h) (Or.inl ⟨by rfl, ?hy6⟩) (by assumption) ?rest6
            case hy6 => (intro w0 hSw; (try dsimp only at hSw); go_simp; try with_reducible rfl)
            try simp only [Act.put, List.getElem_toArray, List.getElem_cons_zero, List.getElem_cons_succ, List.setIfInBounds_toArray, List.set_cons_zero, List.set_cons_succ]
            refine wpAnyH_take (i := 6) (v := ?v7) rfl (by kernel_rfl) (by kernel_rfl) (by kernel_rfl) (fun _ _ _ h => h) (Or.inl ⟨by rfl, ?hy7⟩) (by assumption) ?rest7
            case hy7 => (intro w0 hSw; (try dsimp only at hSw); go_simp; try with_reducible rfl)
            try simp only [Act.put, List.getElem_toArray, List.getElem_cons_zero, List.getElem_cons_succ, List.setIfInBounds_toArray, List.set_cons_zero, List.set_cons_succ]
            refine wpAnyH_take (i := 7) (v := ?v8) rfl (by kernel_rfl) (by kernel_rfl) (by kernel_rfl) (fun _ _ _ h => h) (Or.inl ⟨by rfl, ?hy8⟩) (by assumption) ?rest8
            case hy8 => (intro w0 hSw; (try dsimp only at hSw); go_simp; try with_reducible rfl)
            try simp only [Act.put, List.getElem_toArray, List.getElem_cons_zero, List.getElem_cons_succ, List.setIfInBounds_toArray, List.set_cons_zero, List.set_cons_succ]
            refine wpAnyH_take (i := 8) (v := ?v9) rfl (by kernel_rfl) (by kernel_rfl) (by kernel_rfl) (fun _ _ _ h => h) (Or.inl ⟨by rfl, ?hy9⟩) (by assumption) ?rest9
            case hy9 => (intro w0 hSw; (try dsimp only at hSw); go_simp; try with_reducible rfl)
            try simp only [Act.put, List.getElem_toArray, List.getElem_cons_zero, List.getElem_cons_succ, List.setIfInBounds_toArray, List.set_cons_zero, List.set_cons_succ]
            refine wpAnyH_take (i := 9) (v := ?v10) rfl (by kernel_rfl) (by kernel_rfl) (by kernel_rfl) (fun _ _ _ h => h) (Or.inl ⟨by rfl, ?hy10⟩) (by assumption) ?rest10
            case hy10 => (intro w0 hSw; (try dsimp only at hSw); go_simp; try with_reducible rfl)
            try simp only [Act.put, List.getElem_toArray, List.getElem_cons_zero, List.getElem_cons_succ, List.setIfInBounds_toArray, List.set_cons_zero, List.set_cons_succ]
            refine wpAnyH_take (i := 10) (v := ?v11) rfl (by kernel_rfl) (by kernel_rfl) (by kernel_rfl) (fun _ _ _ h => h) (Or.inl ⟨by rfl, ?hy11⟩) (by assumption) ?rest11
            case hy11 => (intro w0 hSw; (try dsimp only at hSw); go_simp; try with_reducible rfl)
            try simp only [Act.put, List.getElem_toArray, List.getElem_cons_zero, List.getElem_cons_succ, List.setIfInBounds_toArray, List.set_cons_zero, List.set_cons_succ]
            refine wpAnyH_take (i := 11) (v := .agg ([.int .i64 key, .int .i64 x, .slice va vn vc] : List Value).toArray) rfl (by kernel_rfl) (by kernel_rfl) (by kernel_rfl) (fun _ _ _ h => h) (yieldsIf_load_mid (by rfl) 89 (.tmp 54) rfl gb (o + j * 3) rfl [.int .i64 key, .int .i64 x, .slice va vn vc] _ (fun w0 hw0 => hw0.2.2) Try.underlying89 rfl info89s) (by assumption) ?_
            try simp only [Act.put, List.getElem_toArray, List.getElem_cons_zero, List.getElem_cons_succ, List.setIfInBounds_toArray, List.set_cons_zero, List.set_cons_succ]
            refine wpAnyH_ready (rs := [12]) (by kernel_rfl) (by simp) ?_
            refine AllReadyH.cons rfl (fun KQ hKQ => ?_) AllReadyH.nil
            go_simp
            refine hKQ.out _ _ ?_ (fun hHeld => ?_)
            · exact P2
            clear hKQ KQ
            try simp only [Act.put, List.getElem_toArray, List.getElem_cons_zero, List.getElem_cons_succ, List.setIfInBounds_toArray, List.set_cons_zero, List.set_cons_succ]
            refine wpAnyH_ready (rs := [13]) (by kernel_rfl) (by simp) ?_
            refine AllReadyH.cons rfl (fun KQ hKQ => ?_) AllReadyH.nil
            refine step_app rfl (.tmp 48) (.tmp 56) 43 rfl rfl (by rfl) HR9.out ?_
            refine hKQ.out _ _ ?_ (fun hHeld => ?_)
            · exact P3
            clear hKQ KQ
            try simp only [Act.put, List.getElem_toArray, List.getElem_cons_zero, List.getElem_cons_succ, List.setIfInBounds_toArray, List.set_cons_zero, List.set_cons_succ]
            refine wpAnyH_take (i := 14) (v := ?v12) rfl (by kernel_rfl) (by kernel_rfl) (by kernel_rfl) (fun _ _ _ h => h) (Or.inl ⟨by rfl, ?hy12⟩) (by assumption) ?rest12
            case hy12 => (intro w0 hSw; (try dsimp only at hSw); go_simp; try with_reducible rfl)
            try simp only [Act.put, List.getElem_toArray, List.getElem_cons_zero, List.getElem_cons_succ, List.setIfInBounds_toArray, List.set_cons_zero, List.set_cons_succ]
            refine wpAnyH_take (i := 15) (v := ?v13) rfl (by kernel_rfl) (by kernel_rfl) (by kernel_rfl) (fun _ _ _ h => h) (Or.inl ⟨by rfl, ?hy13⟩) (by assumption) ?rest13
            case hy13 => (intro w0 hSw; (try dsimp only at hSw); go_simp; try with_reducible rfl)
            try simp only [Act.put, List.getElem_toArray, List.getElem_cons_zero, List.getElem_cons_succ, List.setIfInBounds_toArray, List.set_cons_zero, List.set_cons_succ]
            refine wpAnyH_done (by kernel_rfl) ?_ _
            change wpList _ _ _ _ _ _
            clear P1 P2 P3 hHeld
            go_wp2_with fail
            go_roundg g
            case measure => omega
            case rel => exact ⟨j + 1, by have := HJN.out; omega, by go_num, HREL.out⟩
end Go.Proofs.Ytghpbhcnblninaa.tbl
