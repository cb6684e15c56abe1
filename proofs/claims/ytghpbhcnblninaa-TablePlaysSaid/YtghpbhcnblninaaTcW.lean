/- Any calls: each answer, all keys and all bytes are the reference's. -/
import Derived.Test.YtghpbhcnblninaaTcU
namespace Go.Proofs.Ytghpbhcnblninaa.tbl
set_option linter.unusedSimpArgs false
set_option linter.unusedVariables false
open Go.RowKit
attribute [local go_sem ↓] Go.wp_at_zero Go.wp_at_succ
open Go.Proofs.Ytghpbhcnblninaa.grp (gof gof_in fits fits_wf IRow intV below_on' below_made ret_bool own_below irow_new below_drewN EqPost eq_yes eq_no)
open Go.Proofs.Ytghpbhcnblninaa.byt (txt bl)
set_option maxHeartbeats 12800000 in
set_option maxRecDepth 1000000 in
theorem law_plays (l : List Opn) (a : Option Addr) (cap : Nat) (w : World) (hr : Ops w w.heap.size a l) (hl : l.length ≤ cap) (hc : cap ≤ maxLen) :
    Calls Try.prog 4 #[.slice a l.length cap] w fun e w' => e = .returned (.bool true) ∧ Below w.heap.size w w' := by
  obtain ⟨i0, hi, hz0, hz1, hz2⟩ := info_parts grp.infoI
  have HH := Lib.hid (heavy_any l a cap w hr hl (by unfold maxLen at hc; omega))
  have HR := Lib.hid hr
  clear hr
  go_enter Try.func4, Try.ntmps4
  go_wp2_with fail
  refine HH.out.mono ?_
  rintro e w1 ⟨⟨hv, rfl, hn⟩, hb⟩
  have HB := Lib.hid hb
  have HN := Lib.hid hn
  clear hb hn
  cases hv with
  | true =>
    go_wp2_with fail
    refine (works_any _).mono ?_
    rintro e w2 ⟨rfl, hb⟩
    have HB := Lib.hid (below_on' HB.out hb)
    clear hb
    go_wp2_with fail
    go_ret
    exact ⟨rfl, HB.out⟩
  | false =>
    have HNV := Lib.hid (HN.out rfl)
    have h300 := HNV.out.1
    clear HN
    go_wp2_with fail
    refine (new_any w1).mono ?_
    rintro e w2 ⟨t0, b0', rfl, ht, hwt, hwb, hb⟩
    have hb3 := below_made w2 (.cells #[.slice none 0 0] 45)
    have HPS : Hid (PSt w (w2.alloc (.cells #[.slice none 0 0] 45)) t0 b0' w2.heap.size [] []) := Lib.hid ⟨ht.below hb3, ref_new w2, by have := HB.out.size; omega, by have := HB.out.size; omega, by have := HB.out.size; have := hb.size; omega, below_on' (below_on' HB.out hb) hb3⟩
    obtain ⟨r, hr⟩ : ∃ r, w2.heap.size = r := ⟨_, rfl⟩
    obtain ⟨W2, hW2⟩ : ∃ W, w2.alloc (.cells #[.slice none 0 0] 45) = W := ⟨_, rfl⟩
    rw [hr, hW2] at HPS
    have HRR := Lib.hid hr
    have HWW := Lib.hid hW2
    clear hb3 hb ht hwt hwb hr hW2
    go_wp2_with fail
    rw [HWW.out, HRR.out]
    go_loopg [3, 28] l.length (fun g v3 v28 wr => ∃ (k t b : Nat) (L : Rows), k + g = l.length ∧ v28 = .int .i64 k ∧ v3 = .pointer (some ⟨t, 0, none⟩) ∧ PSt w wr t b r L L)
    case atStart => exact ⟨0, t0, b0', [], by omega, rfl, rfl, HPS.out⟩
    case round =>
      rename World => wr
      obtain ⟨k, t, b, L, hkg, rfl, rfl, hst⟩ := hrel
      cases gk with
      | succ g =>
        have hlt : k < l.length := by omega
        have hb := hst.below
        obtain ⟨b0, o, rfl, hbl, hcs⟩ := HR.out.1 (by rintro rfl; simp at hlt)
        have hpm := HR.out.2 _ (getD_mem hlt)
        have hpl := HNV.out.2 _ (getD_mem hlt)
        obtain ⟨p, ep⟩ : ∃ p, l.getD k noOp = p := ⟨_, rfl⟩
        rw [ep] at hpm hpl
        have hck : wr.rangeAt b0 (o + k * 4) p.cells := by
          intro j v hv
          rw [← ep] at hv
          exact (hb.cell (p := ⟨b0, o + k * 4 + j, none⟩) hbl).trans (hcs k hlt j v hv)
        obtain ⟨kd, key, acc, pa, ns, pc⟩ := p
        obtain ⟨hrw, hfk, hfy, hfa, hfn⟩ := hpm
        dsimp only at hrw hpl hfk hfy hfa hfn
        have HKF := Lib.hid hfy
        have HAF := Lib.hid hfa
        have HNF := Lib.hid hfn
        have HC := Lib.hid hck
        unfold Opn.cells at HC
        dsimp only at HC
        have HSL : Hid (∀ W, Below w.heap.size w W → Sl W pa pc ns) := Lib.hid (fun W hbw => (hrw.below hbw).sl hbw.size)
        have HAT : Hid (∀ t, w.heap.size ≤ t → 0 < ns.length → ∀ ad, pa = some ad → ad.block ≠ t) := Lib.hid (fun t ht => hrw.ne ht)
        have H100 : Hid (ns.length ≤ 1000) := Lib.hid (by omega)
        obtain ⟨pn, hpn⟩ : ∃ n, ns.length = n := ⟨_, rfl⟩
        have HNL := Lib.hid hpn
        rw [hpn] at HC
        have hbx := below_made wr (.cells #[.int .i64 kd, .int .i64 key, .int .i64 acc, .slice pa pn pc] 47)
        have HX0 := Lib.hid (Box4.new wr kd key acc pa pn pc)
        have HS0 := Lib.hid (hst.on hbx)
        have HKG := Lib.hid hkg
        obtain ⟨x0, x1, x2, x3⟩ := HX0.out.facts
        obtain ⟨N, hN⟩ : ∃ N, wr.heap.size = N := ⟨_, rfl⟩
        obtain ⟨W0, hW0⟩ : ∃ W, wr.alloc (.cells #[.int .i64 kd, .int .i64 key, .int .i64 acc, .slice pa pn pc] 47) = W := ⟨_, rfl⟩
        rw [hN] at HX0
        rw [hW0] at HX0 HS0
        have HNN := Lib.hid hN
        have HW0 := Lib.hid hW0
        clear hcs hck ep hb hrw hpl hfk hfy hfa hfn hbx hst hN hW0 hpn hkg
        by_cases h0 : kd = 0
        · subst h0
          obtain ⟨c, L', hO⟩ : ∃ c L', putO L key (acc, ns) = (c, L') := ⟨_, _, rfl⟩
          have HO := Lib.hid hO
          have HSd : Hid (PSt w W0.drew t b r L L) := Lib.hid (HS0.out.on (below_drewN W0 1))
          have HXd : Hid (Box4 W0.drew N 0 key acc pa pn pc) := HX0
          clear hO
          go_wp2_with (first | (refine wpList_load_mid rfl 47 (.tmp 30) rfl b0 (o + k * 4) rfl [.int .i64 0, .int .i64 key, .int .i64 acc, .slice pa pn pc] _ HC.out Try.underlying47 rfl info47 ?_))
          rw [HW0.out, HNN.out]
          refine dsk.wp_region_peel2 (by kernel_rfl) (by simp only [List.dropLast_cons_cons, List.dropLast_singleton]; exact rfl) rfl (by kernel_rfl) ?_
          refine wpAny_of_held (S := fun w' => w'.cell? ⟨N, 1, none⟩ = some (.int .i64 key) ∧ w'.rangeAt N 2 [.int .i64 acc, .slice pa pn pc]) _ _ _ _ ?_
          have hHeld := (show W0.drew.cell? ⟨N, 1, none⟩ = some (.int .i64 key) ∧ W0.drew.rangeAt N 2 [.int .i64 acc, .slice pa pn pc] from ⟨HXd.out.facts.2.1, HXd.out.row⟩)
          refine wpAnyH_take (i := 0) (v := ?v1) rfl (by kernel_rfl) (by kernel_rfl) (by kernel_rfl) (fun _ _ _ h => h) (Or.inl ⟨by rfl, ?hy1⟩) (by assumption) ?rest1
          case hy1 => (intro w0 hSw; (try dsimp only at hSw); go_simp; try with_reducible rfl)
          try simp only [Act.put, List.getElem_toArray, List.getElem_cons_zero, List.getElem_cons_succ, List.setIfInBounds_toArray, List.set_cons_zero, List.set_cons_succ]
          refine wpAnyH_take (i := 1) (v := ?v2) rfl (by kernel_rfl) (by kernel_rfl) (by kernel_rfl) (fun _ _ _ h => h) (Or.inl ⟨by rfl, ?hy2⟩) (by assumption) ?rest2
          case hy2 => (intro w0 hSw; (try dsimp only at hSw); go_simp; try with_reducible rfl)
          try simp only [Act.put, List.getElem_toArray, List.getElem_cons_zero, List.getElem_cons_succ, List.setIfInBounds_toArray, List.set_cons_zero, List.set_cons_succ]
          refine wpAnyH_take (i := 2) (v := ?v3) rfl (by kernel_rfl) (by kernel_rfl) (by kernel_rfl) (fun _ _ _ h => h) (Or.inl ⟨by rfl, ?hy3⟩) (by assumption) ?rest3
          case hy3 => (intro w0 hSw; (try dsimp only at hSw); go_simp; try with_reducible rfl)
          try simp only [Act.put, List.getElem_toArray, List.getElem_cons_zero, List.getElem_cons_succ, List.setIfInBounds_toArray, List.set_cons_zero, List.set_cons_succ]
          refine wpAnyH_take (i := 3) (v := ?v4) rfl (by kernel_rfl) (by kernel_rfl) (by kernel_rfl) (fun _ _ _ h => h) (Or.inl ⟨by rfl, ?hy4⟩) (by assumption) ?rest4
          case hy4 => (intro w0 hSw; (try dsimp only at hSw); go_simp; try with_reducible rfl)
          try simp only [Act.put, List.getElem_toArray, List.getElem_cons_zero, List.getElem_cons_succ, List.setIfInBounds_toArray, List.set_cons_zero, List.set_cons_succ]
          refine wpAnyH_take (i := 4) (v := .agg ([.int .i64 acc, .slice pa pn pc] : List Value).toArray) rfl (by kernel_rfl) (by kernel_rfl) (by kernel_rfl) (fun _ _ _ h => h) (yieldsIf_load_mid (by rfl) 32 (.tmp 39) rfl N (2) rfl [.int .i64 acc, .slice pa pn pc] _ (fun w0 hw0 => hw0.2) Try.underlying32 rfl (by kernel_rfl)) (by assumption) ?_
          try simp only [Act.put, List.getElem_toArray, List.getElem_cons_zero, List.getElem_cons_succ, List.setIfInBounds_toArray, List.set_cons_zero, List.set_cons_succ]
          refine wpAnyH_take (i := 6) (v := ?v5) rfl (by kernel_rfl) (by kernel_rfl) (by kernel_rfl) (fun _ _ _ h => h) (Or.inl ⟨by rfl, ?hy5⟩) (by assumption) ?rest5
          case hy5 => (intro w0 hSw; (try dsimp only at hSw); go_simp; try with_reducible rfl)
          try simp only [Act.put, List.getElem_toArray, List.getElem_cons_zero, List.getElem_cons_succ, List.setIfInBounds_toArray, List.set_cons_zero, List.set_cons_succ]
          refine wpAnyH_take (i := 7) (v := ?v6) rfl (by kernel_rfl) (by kernel_rfl) (by kernel_rfl) (fun _ _ _ h => h) (Or.inl ⟨by rfl, ?hy6⟩) (by assumption) ?rest6
          case hy6 => (intro w0 hSw; (try dsimp only at hSw); go_simp; try with_reducible rfl)
          try simp only [Act.put, List.getElem_toArray, List.getElem_cons_zero, List.getElem_cons_succ, List.setIfInBounds_toArray, List.set_cons_zero, List.set_cons_succ]
          refine wpAnyH_take (i := 8) (v := ?v7) rfl (by kernel_rfl) (by kernel_rfl) (by kernel_rfl) (fun _ _ _ h => h) (Or.inl ⟨by rfl, ?hy7⟩) (by assumption) ?rest7
          case hy7 => (intro w0 hSw; (try dsimp only at hSw); go_simp; try with_reducible rfl)
          try simp only [Act.put, List.getElem_toArray, List.getElem_cons_zero, List.getElem_cons_succ, List.setIfInBounds_toArray, List.set_cons_zero, List.set_cons_succ]
          refine wpAnyH_take (i := 9) (v := ?v8) rfl (by kernel_rfl) (by kernel_rfl) (by kernel_rfl) (fun _ _ _ h => h) (Or.inl ⟨by rfl, ?hy8⟩) (by assumption) ?rest8
          case hy8 => (intro w0 hSw; (try dsimp only at hSw); go_simp; try with_reducible rfl)
          try simp only [Act.put, List.getElem_toArray, List.getElem_cons_zero, List.getElem_cons_succ, List.setIfInBounds_toArray, List.set_cons_zero, List.set_cons_succ]
          refine wpAnyH_take (i := 10) (v := .agg ([.int .i64 acc, .slice pa pn pc] : List Value).toArray) rfl (by kernel_rfl) (by kernel_rfl) (by kernel_rfl) (fun _ _ _ h => h) (yieldsIf_load_mid (by rfl) 32 (.tmp 45) rfl N (2) rfl [.int .i64 acc, .slice pa pn pc] _ (fun w0 hw0 => hw0.2) Try.underlying32 rfl (by kernel_rfl)) (by assumption) ?_
          try simp only [Act.put, List.getElem_toArray, List.getElem_cons_zero, List.getElem_cons_succ, List.setIfInBounds_toArray, List.set_cons_zero, List.set_cons_succ]
          refine wpAnyH_ready (rs := [5]) (by kernel_rfl) (by simp) ?_
          refine AllReadyH.cons rfl (fun KQ hKQ => ?_) AllReadyH.nil
          go_simp
          refine (put_at HO.out HNL.out HSd.out.tab HKF.out HAF.out HNF.out (HSL.out _ HSd.out.below) (HAT.out _ HSd.out.ht) H100.out).mono ?_
          rintro e W1 ⟨rfl, ht1, ho1⟩
          have HS1 := Lib.hid (HSd.out.tabStep ht1 ho1)
          have HX1 := Lib.hid (HXd.out.only HSd.out.tab ho1)
          refine hKQ.out _ _ ?_ (fun hHeld => ?_)
          · exact ⟨HX1.out.facts.2.1, HX1.out.row⟩
          clear hKQ KQ
          try simp only [Act.put, List.getElem_toArray, List.getElem_cons_zero, List.getElem_cons_succ, List.setIfInBounds_toArray, List.set_cons_zero, List.set_cons_succ]
          refine wpAnyH_ready (rs := [11]) (by kernel_rfl) (by simp) ?_
          refine AllReadyH.cons rfl (fun KQ hKQ => ?_) AllReadyH.nil
          go_simp
          refine (rput_at HO.out HNL.out HS1.out.rf HKF.out HAF.out HNF.out (HSL.out _ HS1.out.below)).mono ?_
          rintro e W2 ⟨rfl, hr2, ho2⟩
          have HS2 := Lib.hid (HS1.out.refStep hr2 ho2)
          have HX2 := Lib.hid (HX1.out.onlyR HS1.out.rf ho2)
          refine hKQ.out _ _ ?_ (fun hHeld => ?_)
          · exact ⟨HX2.out.facts.2.1, HX2.out.row⟩
          clear hKQ KQ
          try simp only [Act.put, List.getElem_toArray, List.getElem_cons_zero, List.getElem_cons_succ, List.setIfInBounds_toArray, List.set_cons_zero, List.set_cons_succ]
          refine wpAnyH_take (i := 12) (v := ?v9) rfl (by kernel_rfl) (by kernel_rfl) (by kernel_rfl) (fun _ _ _ h => h) (Or.inl ⟨by rfl, ?hy9⟩) (by assumption) ?rest9
          case hy9 => (intro w0 hSw; (try dsimp only at hSw); go_simp; try with_reducible rfl)
          try simp only [Act.put, List.getElem_toArray, List.getElem_cons_zero, List.getElem_cons_succ, List.setIfInBounds_toArray, List.set_cons_zero, List.set_cons_succ]
          refine wpAnyH_done (by kernel_rfl) ?_ _
          change wpList _ _ _ _ _ _
          clear hHeld ht1 ho1 hr2 ho2
          obtain ⟨-, y21, -, -⟩ := HX2.out.facts
          go_wp2_with fail
          obtain ⟨x9, ns9, hgo⟩ : ∃ x ns, gotO L' key = (x, ns) := ⟨_, _, rfl⟩
          obtain ⟨f9, hf9⟩ : ∃ f, (look L' key).isSome = f := ⟨_, rfl⟩
          obtain ⟨n9, hn9⟩ : ∃ n, ns9.length = n := ⟨_, rfl⟩
          have H16 : Hid (n9 ≤ 16) := Lib.hid (by have := got_fine HS2.out.tab.good key; rw [hgo] at this; dsimp only at this; omega)
          have HGO := Lib.hid hgo
          have HF9 := Lib.hid hf9
          have HN9 := Lib.hid hn9
          clear hgo hf9 hn9
          refine (tget_at HGO.out HN9.out HF9.out HS2.out.tab HKF.out).mono ?_
          rintro e w5 ⟨a5, c5, rfl, hna5, hb5⟩
          have HS5 := Lib.hid (HS2.out.on hb5)
          have HX5 := Lib.hid (HX2.out.below hb5)
          have hb6 := below_made w5 (.cells #[.int .i64 x9, .slice a5 n9 c5] 32)
          have HS6 := Lib.hid (HS5.out.on hb6)
          have HX6 := Lib.hid (HX5.out.below hb6)
          have HNA6 := Lib.hid (hna5.keep (.of_below hb6))
          have HC6 := Lib.hid (Box2.new w5 (x9, a5, n9, c5))
          obtain ⟨N6, hN6⟩ : ∃ n, w5.heap.size = n := ⟨_, rfl⟩
          have HN6 := Lib.hid hN6
          obtain ⟨W6, hW6⟩ : ∃ W, w5.alloc (.cells #[.int .i64 x9, .slice a5 n9 c5] 32) = W := ⟨_, rfl⟩
          have HW6 := Lib.hid hW6
          obtain ⟨-, x61, -, -⟩ := HX6.out.facts
          dsimp only at HC6
          rw [hW6] at HS6 HX6 HNA6 HC6
          rw [hN6] at HC6
          clear hna5 hb5 hb6 hN6 hW6
          go_wp2_with fail
          rw [HW6.out, HN6.out]
          refine (rget_at HGO.out HN9.out HF9.out HS6.out.rf HKF.out).mono ?_
          rintro e w7 ⟨a7, c7, rfl, hna7, hb7⟩
          have HS7 := Lib.hid (HS6.out.on hb7)
          have HNA7 := Lib.hid (HNA6.out.keep (.of_below hb7))
          have HC7 := Lib.hid (HC6.out.below hb7)
          have hb8 := below_made w7 (.cells #[.int .i64 x9, .slice a7 n9 c7] 32)
          have HS8 := Lib.hid (HS7.out.on hb8)
          have HNA8 := Lib.hid (HNA7.out.keep (.of_below hb8))
          have HNB8 := Lib.hid (hna7.keep (.of_below hb8))
          have HC8 := Lib.hid (HC7.out.below hb8)
          have HD8 := Lib.hid (Box2.new w7 (x9, a7, n9, c7))
          obtain ⟨p0, p1, -, -⟩ := HC8.out.facts
          obtain ⟨q0, q1, -, -⟩ := HD8.out.facts
          obtain ⟨W8, hW8⟩ : ∃ W, w7.alloc (.cells #[.int .i64 x9, .slice a7 n9 c7] 32) = W := ⟨_, rfl⟩
          have HW8 := Lib.hid hW8
          dsimp only at p0 p1 q0 q1
          rw [hW8] at HS8 HNA8 HNB8
          clear hna7 hb7 hb8 hW8 x61
          go_wp2_with fail
          rw [HW8.out]
          refine (same_at HN9.out HNA8.out HNB8.out H16.out).mono ?_
          rintro e w9 ⟨rfl, hb9⟩
          have HS9 := Lib.hid (HS8.out.on hb9)
          clear hb9 p0 p1 q0 q1
          go_wp2_with fail
          refine (keys_at rfl HS9.out.tab).mono ?_
          rintro e w10 ⟨v10, rfl, hv10, hb10⟩
          have HS10 := Lib.hid (HS9.out.on hb10)
          have HV10 := Lib.hid hv10
          have HGL := Lib.hid HS9.out.tab.good.len
          clear hv10 hb10
          go_wp2_with fail
          refine (rkeys_at HS10.out.rf).mono ?_
          rintro e w11 ⟨v11, rfl, hv11, hb11⟩
          have HS11 := Lib.hid (HS10.out.on hb11)
          have HV11 := Lib.hid (HV10.out.on hb11)
          have HU11 := Lib.hid hv11
          clear hv11 hb11
          go_wp2_with fail
          refine (equal_nums_same HV11.out HU11.out (by rw [List.length_map]; have := HGL.out; omega)).mono ?_
          rintro e w12 ⟨rfl, hb12⟩
          have HS12 := Lib.hid (HS11.out.on hb12)
          clear hb12
          go_wp2_with fail
          go_roundg g
          case measure => omega
          case rel => exact ⟨k + 1, t, b, L', by have := HKG.out; omega, by go_num, rfl, HS12.out⟩
        by_cases h1 : kd = 1
        · subst h1
          obtain ⟨f, hf⟩ : ∃ f, (look L key).isSome = f := ⟨_, rfl⟩
          have HSd : Hid (PSt w W0.drew t b r L L) := Lib.hid (HS0.out.on (below_drewN W0 1))
          have HXd : Hid (Box4 W0.drew N 1 key acc pa pn pc) := HX0
          have HDA := Lib.hid (tdrop_at HSd.out.tab HKF.out)
          have HDB := Lib.hid (fun (W : World) (h : IsRef W r L) => rdrop_at h HKF.out)
          simp only [hf] at HDA HDB
          clear hf
          go_wp2_with (first | (refine wpList_load_mid rfl 47 (.tmp 30) rfl b0 (o + k * 4) rfl [.int .i64 1, .int .i64 key, .int .i64 acc, .slice pa pn pc] _ HC.out Try.underlying47 rfl info47 ?_))
          rw [HW0.out, HNN.out]
          refine dsk.wp_region_peel2 (by kernel_rfl) (by simp only [List.dropLast_cons_cons, List.dropLast_singleton]; exact rfl) rfl (by kernel_rfl) ?_
          refine wpAny_of_held (S := fun w' => w'.cell? ⟨N, 1, none⟩ = some (.int .i64 key)) _ _ _ _ ?_
          have hHeld := (show W0.drew.cell? ⟨N, 1, none⟩ = some (.int .i64 key) from HXd.out.facts.2.1)
          refine wpAnyH_take (i := 0) (v := ?v10) rfl (by kernel_rfl) (by kernel_rfl) (by kernel_rfl) (fun _ _ _ h => h) (Or.inl ⟨by rfl, ?hy10⟩) (by assumption) ?rest10
          case hy10 => (intro w0 hSw; (try dsimp only at hSw); go_simp; try with_reducible rfl)
          try simp only [Act.put, List.getElem_toArray, List.getElem_cons_zero, List.getElem_cons_succ, List.setIfInBounds_toArray, List.set_cons_zero, List.set_cons_succ]
          refine wpAnyH_take (i := 1) (v := ?v11) rfl (by kernel_rfl) (by kernel_rfl) (by kernel_rfl) (fun _ _ _ h => h) (Or.inl ⟨by rfl, ?hy11⟩) (by assumption) ?rest11
          case hy11 => (intro w0 hSw; (try dsimp only at hSw); go_simp; try with_reducible rfl)
          try simp only [Act.put, List.getElem_toArray, List.getElem_cons_zero, List.getElem_cons_succ, List.setIfInBounds_toArray, List.set_cons_zero, List.set_cons_succ]
          refine wpAnyH_take (i := 2) (v := ?v12) rfl (by kernel_rfl) (by kernel_rfl) (by kernel_rfl) (fun _ _ _ h => h) (Or.inl ⟨by rfl, ?hy12⟩) (by assumption) ?rest12
          case hy12 => (intro w0 hSw; (try dsimp only at hSw); go_simp; try with_reducible rfl)
          try simp only [Act.put, List.getElem_toArray, List.getElem_cons_zero, List.getElem_cons_succ, List.setIfInBounds_toArray, List.set_cons_zero, List.set_cons_succ]
          refine wpAnyH_take (i := 4) (v := ?v13) rfl (by kernel_rfl) (by kernel_rfl) (by kernel_rfl) (fun _ _ _ h => h) (Or.inl ⟨by rfl, ?hy13⟩) (by assumption) ?rest13
          case hy13 => (intro w0 hSw; (try dsimp only at hSw); go_simp; try with_reducible rfl)
          try simp only [Act.put, List.getElem_toArray, List.getElem_cons_zero, List.getElem_cons_succ, List.setIfInBounds_toArray, List.set_cons_zero, List.set_cons_succ]
          refine wpAnyH_take (i := 5) (v := ?v14) rfl (by kernel_rfl) (by kernel_rfl) (by kernel_rfl) (fun _ _ _ h => h) (Or.inl ⟨by rfl, ?hy14⟩) (by assumption) ?rest14
          case hy14 => (intro w0 hSw; (try dsimp only at hSw); go_simp; try with_reducible rfl)
          try simp only [Act.put, List.getElem_toArray, List.getElem_cons_zero, List.getElem_cons_succ, List.setIfInBounds_toArray, List.set_cons_zero, List.set_cons_succ]
          refine wpAnyH_take (i := 6) (v := ?v15) rfl (by kernel_rfl) (by kernel_rfl) (by kernel_rfl) (fun _ _ _ h => h) (Or.inl ⟨by rfl, ?hy15⟩) (by assumption) ?rest15
          case hy15 => (intro w0 hSw; (try dsimp only at hSw); go_simp; try with_reducible rfl)
          try simp only [Act.put, List.getElem_toArray, List.getElem_cons_zero, List.getElem_cons_succ, List.setIfInBounds_toArray, List.set_cons_zero, List.set_cons_succ]
          refine wpAnyH_ready (rs := [3]) (by kernel_rfl) (by simp) ?_
          refine AllReadyH.cons rfl (fun KQ hKQ => ?_) AllReadyH.nil
          go_simp
          refine HDA.out.mono ?_
          rintro e W1 ⟨rfl, ht1, ho1⟩
          have HS1 := Lib.hid (HSd.out.tabStep ht1 ho1)
          have HX1 := Lib.hid (HXd.out.only HSd.out.tab ho1)
          refine hKQ.out _ _ ?_ (fun hHeld => ?_)
          · exact HX1.out.facts.2.1
          clear hKQ KQ
          try simp only [Act.put, List.getElem_toArray, List.getElem_cons_zero, List.getElem_cons_succ, List.setIfInBounds_toArray, List.set_cons_zero, List.set_cons_succ]
          refine wpAnyH_ready (rs := [7]) (by kernel_rfl) (by simp) ?_
          refine AllReadyH.cons rfl (fun KQ hKQ => ?_) AllReadyH.nil
          go_simp
          refine (HDB.out _ HS1.out.rf).mono ?_
          rintro e W2 ⟨rfl, hr2, ho2⟩
          have HS2 := Lib.hid (HS1.out.refStep hr2 ho2)
          have HX2 := Lib.hid (HX1.out.onlyR HS1.out.rf ho2)
          refine hKQ.out _ _ ?_ (fun hHeld => ?_)
          · exact HX2.out.facts.2.1
          clear hKQ KQ
          try simp only [Act.put, List.getElem_toArray, List.getElem_cons_zero, List.getElem_cons_succ, List.setIfInBounds_toArray, List.set_cons_zero, List.set_cons_succ]
          refine wpAnyH_take (i := 8) (v := ?v16) rfl (by kernel_rfl) (by kernel_rfl) (by kernel_rfl) (fun _ _ _ h => h) (Or.inl ⟨by rfl, ?hy16⟩) (by assumption) ?rest16
          case hy16 => (intro w0 hSw; (try dsimp only at hSw); go_simp; try with_reducible rfl)
          try simp only [Act.put, List.getElem_toArray, List.getElem_cons_zero, List.getElem_cons_succ, List.setIfInBounds_toArray, List.set_cons_zero, List.set_cons_succ]
          refine wpAnyH_done (by kernel_rfl) ?_ _
          change wpList _ _ _ _ _ _
          clear hHeld ht1 ho1 hr2 ho2
          obtain ⟨-, y21, -, -⟩ := HX2.out.facts
          obtain ⟨L', hL'⟩ : ∃ X, delL L key = X := ⟨_, rfl⟩
          rw [hL'] at HS2
          clear hL'
          go_wp2_with fail
          obtain ⟨x9, ns9, hgo⟩ : ∃ x ns, gotO L' key = (x, ns) := ⟨_, _, rfl⟩
          obtain ⟨f9, hf9⟩ : ∃ f, (look L' key).isSome = f := ⟨_, rfl⟩
          obtain ⟨n9, hn9⟩ : ∃ n, ns9.length = n := ⟨_, rfl⟩
          have H16 : Hid (n9 ≤ 16) := Lib.hid (by have := got_fine HS2.out.tab.good key; rw [hgo] at this; dsimp only at this; omega)
          have HGO := Lib.hid hgo
          have HF9 := Lib.hid hf9
          have HN9 := Lib.hid hn9
          clear hgo hf9 hn9
          refine (tget_at HGO.out HN9.out HF9.out HS2.out.tab HKF.out).mono ?_
          rintro e w5 ⟨a5, c5, rfl, hna5, hb5⟩
          have HS5 := Lib.hid (HS2.out.on hb5)
          have HX5 := Lib.hid (HX2.out.below hb5)
          have hb6 := below_made w5 (.cells #[.int .i64 x9, .slice a5 n9 c5] 32)
          have HS6 := Lib.hid (HS5.out.on hb6)
          have HX6 := Lib.hid (HX5.out.below hb6)
          have HNA6 := Lib.hid (hna5.keep (.of_below hb6))
          have HC6 := Lib.hid (Box2.new w5 (x9, a5, n9, c5))
          obtain ⟨N6, hN6⟩ : ∃ n, w5.heap.size = n := ⟨_, rfl⟩
          have HN6 := Lib.hid hN6
          obtain ⟨W6, hW6⟩ : ∃ W, w5.alloc (.cells #[.int .i64 x9, .slice a5 n9 c5] 32) = W := ⟨_, rfl⟩
          have HW6 := Lib.hid hW6
          obtain ⟨-, x61, -, -⟩ := HX6.out.facts
          dsimp only at HC6
          rw [hW6] at HS6 HX6 HNA6 HC6
          rw [hN6] at HC6
          clear hna5 hb5 hb6 hN6 hW6
          go_wp2_with fail
          rw [HW6.out, HN6.out]
          refine (rget_at HGO.out HN9.out HF9.out HS6.out.rf HKF.out).mono ?_
          rintro e w7 ⟨a7, c7, rfl, hna7, hb7⟩
          have HS7 := Lib.hid (HS6.out.on hb7)
          have HNA7 := Lib.hid (HNA6.out.keep (.of_below hb7))
          have HC7 := Lib.hid (HC6.out.below hb7)
          have hb8 := below_made w7 (.cells #[.int .i64 x9, .slice a7 n9 c7] 32)
          have HS8 := Lib.hid (HS7.out.on hb8)
          have HNA8 := Lib.hid (HNA7.out.keep (.of_below hb8))
          have HNB8 := Lib.hid (hna7.keep (.of_below hb8))
          have HC8 := Lib.hid (HC7.out.below hb8)
          have HD8 := Lib.hid (Box2.new w7 (x9, a7, n9, c7))
          obtain ⟨p0, p1, -, -⟩ := HC8.out.facts
          obtain ⟨q0, q1, -, -⟩ := HD8.out.facts
          obtain ⟨W8, hW8⟩ : ∃ W, w7.alloc (.cells #[.int .i64 x9, .slice a7 n9 c7] 32) = W := ⟨_, rfl⟩
          have HW8 := Lib.hid hW8
          dsimp only at p0 p1 q0 q1
          rw [hW8] at HS8 HNA8 HNB8
          clear hna7 hb7 hb8 hW8 x61
          go_wp2_with fail
          rw [HW8.out]
          refine (same_at HN9.out HNA8.out HNB8.out H16.out).mono ?_
          rintro e w9 ⟨rfl, hb9⟩
          have HS9 := Lib.hid (HS8.out.on hb9)
          clear hb9 p0 p1 q0 q1
          go_wp2_with fail
          refine (keys_at rfl HS9.out.tab).mono ?_
          rintro e w10 ⟨v10, rfl, hv10, hb10⟩
          have HS10 := Lib.hid (HS9.out.on hb10)
          have HV10 := Lib.hid hv10
          have HGL := Lib.hid HS9.out.tab.good.len
          clear hv10 hb10
          go_wp2_with fail
          refine (rkeys_at HS10.out.rf).mono ?_
          rintro e w11 ⟨v11, rfl, hv11, hb11⟩
          have HS11 := Lib.hid (HS10.out.on hb11)
          have HV11 := Lib.hid (HV10.out.on hb11)
          have HU11 := Lib.hid hv11
          clear hv11 hb11
          go_wp2_with fail
          refine (equal_nums_same HV11.out HU11.out (by rw [List.length_map]; have := HGL.out; omega)).mono ?_
          rintro e w12 ⟨rfl, hb12⟩
          have HS12 := Lib.hid (HS11.out.on hb12)
          clear hb12
          go_wp2_with fail
          go_roundg g
          case measure => omega
          case rel => exact ⟨k + 1, t, b, L', by have := HKG.out; omega, by go_num, rfl, HS12.out⟩
        by_cases h2 : kd = 2
        · subst h2
          have hK := HKF.out
          obtain ⟨Q, hQ⟩ : ∃ Q, IntKind.u64.wrap key = Q := ⟨_, rfl⟩
          have hQ0 : 0 ≤ Q ∧ Q < 18446744073709551616 := by
            rw [← hQ, IntKind.wrap_u64]
            have h0 := Int.emod_nonneg key (show (18446744073709551616 : Int) ≠ 0 by omega)
            have h1 := Int.emod_lt_of_pos key (show (0 : Int) < 18446744073709551616 by omega)
            exact ⟨h0, h1⟩
          obtain ⟨G, hG⟩ : ∃ G, Q.tmod 8 = G := ⟨_, rfl⟩
          have hG0 : 0 ≤ G ∧ G < 8 := by
            rw [← hG, Int.tmod_eq_emod_of_nonneg hQ0.1]; omega
          have hgu : IntKind.u64.wrap G = G := by rw [IntKind.wrap_u64]; omega
          have hgi : IntKind.i64.wrap G = G := by rw [IntKind.wrap_i64]; omega
          have HG8 := Lib.hid hG0
          clear hK hQ0
          go_wp2_with (first | (refine wpList_load_mid rfl 47 (.tmp 30) rfl b0 (o + k * 4) rfl [.int .i64 2, .int .i64 key, .int .i64 acc, .slice pa pn pc] _ HC.out Try.underlying47 rfl info47 ?_))
          rw [HW0.out, HNN.out]
          clear hQ hG hgu hgi
          go_loopg [9, 67] 8 (fun g v9 v67 wy => ∃ i : Nat, i + g = 8 ∧ v67 = .int .i64 i ∧ wy.ownsRow W0.heap.size 3 1 v9 (restL G i).length ((restL G i).map intV) ∧ Below W0.heap.size W0 wy)
          case atStart => exact ⟨0, by omega, rfl, World.ownsRow_nil _ _ _ _, Below.refl _ _⟩
          case round =>
            rename World => wy
            obtain ⟨i, hig, rfl, hown, hby⟩ := hrel
            have HOWN := Lib.hid hown
            have HBY := Lib.hid hby
            have HIG := Lib.hid hig
            have HRS := Lib.hid (rest_snoc G i)
            have HRL := Lib.hid (rest_len G i)
            clear hown hby
            cases gk with
            | succ gi =>
              have hi8 : (i : Int) < 8 := by omega
              have hi0 : (0 : Int) ≤ (i : Int) := by omega
              by_cases hiG : (i : Int) = G
              · have hq1 : ((i : Int) == G) = true := by simp [hiG]
                have hq2 : ((i : Int) != G) = false := by simp [hiG]
                rw [if_pos hiG, List.append_nil] at HRS
                have HO2 : Hid (wy.ownsRow W0.heap.size 3 1 u9 (restL G (i + 1)).length ((restL G (i + 1)).map intV)) := Lib.hid (by rw [HRS.out]; exact HOWN.out)
                clear hig hiG
                go_wp2_with fail
                go_roundg gi
                case measure => omega
                case rel => exact ⟨i + 1, by have := HIG.out; omega, by go_num, HO2.out, HBY.out⟩
              · have hq1 : ((i : Int) == G) = false := by simp [hiG]
                have hq2 : ((i : Int) != G) = true := by simp [hiG]
                rw [if_neg hiG] at HRS
                have HSZ : Hid (∀ o, W0.heap.size ≤ (wy.alloc o).heap.size) := Lib.hid (fun o => by rw [World.size_alloc]; have := HBY.out.size; omega)
                have hl9 : (restL G i).length ≤ 8 := by have := HRL.out; omega
                clear hig hiG
                go_wp2_with (at_builtin; refine wpList_append_own _ rfl (.tmp 73) (.tmp 75) 49 rfl W0.heap.size 3 i0 (.int .i64 0) 1 8 Try.underlying49 hi hz0 hz1 hz2 rfl (by decide) _ _ _ rfl (HOWN.out.alloc _) ⟨_, 0, none⟩ 1 1 [.int .i64 (i : Int)] rfl rfl (grp.cell_one_new _ _ _) (by simp [Value.oneCell']) (by unfold maxLen; omega) (by omega) (HSZ.out _) ?_)
                intro v4 w3 k4 g4 _
                have HO2 : Hid (w3.ownsRow W0.heap.size 3 1 v4 (restL G (i + 1)).length ((restL G (i + 1)).map intV)) := Lib.hid (by rw [HRS.out, List.map_append, List.length_append]; exact k4)
                have HB2 : Hid (Below W0.heap.size W0 w3) := Lib.hid ((HBY.out.alloc HBY.out.size _).grown g4 (HSZ.out _) (fun j hj => (HOWN.out.lt j hj).1))
                clear k4 g4
                go_wp2_with fail
                go_roundg gi
                case measure => omega
                case rel => exact ⟨i + 1, by have := HIG.out; omega, by go_num, HO2.out, HB2.out⟩
            | zero =>
              have hi8 : ¬ ((i : Int) < 8) := by omega
              obtain rfl : i = 8 := by omega
              have HV9 := Lib.hid (grp.own_irow HOWN.out)
              have HS1 := Lib.hid (HS0.out.on HBY.out)
              have HX1 := Lib.hid (HX0.out.below HBY.out)
              have HPJ := Lib.hid (parted_join HS1.out.tab.good G)
              have hG01 := HG8.out.1
              have hG02 := HG8.out.2
              clear hig HOWN HBY HRS
              go_wp2_with fail
              refine (of_any HS1.out.tab HV9.out (by have := HRL.out; omega)).mono ?_
              rintro e W2 ⟨t1, b1, rfl, ht1, hwt1, hwb1, hb1⟩
              have HT1 := Lib.hid ht1
              have HS2 := Lib.hid (HS1.out.on hb1)
              have HX2 := Lib.hid (HX1.out.below hb1)
              have HTW : Hid (w.heap.size ≤ t1 ∧ w.heap.size ≤ b1) := Lib.hid (by have := HS1.out.below.size; omega)
              have hb2 := below_made W2 (.cells #[.int .i64 G] 3)
              have HS3 := Lib.hid (HS2.out.on hb2)
              have HX3 := Lib.hid (HX2.out.below hb2)
              have HT3 := Lib.hid (HT1.out.below hb2)
              have HV3 : Hid (IRow (W2.alloc (.cells #[.int .i64 G] 3)) (.slice (some ⟨W2.heap.size, 0, none⟩) 1 1) [G]) := Lib.hid (grp.irow_new W2 [G] 1 1 rfl 3)
              obtain ⟨W3, hW3⟩ : ∃ W, W2.alloc (.cells #[.int .i64 G] 3) = W := ⟨_, rfl⟩
              have HW3 := Lib.hid hW3
              rw [hW3] at HS3 HX3 HT3 HV3
              clear ht1 hwt1 hwb1 hb1 hb2 hW3
              go_wp2_with fail
              rw [HW3.out]
              refine (of_any HS3.out.tab HV3.out (by simp)).mono ?_
              rintro e W4 ⟨t2, b2, rfl, ht2, hwt2, hwb2, hb2⟩
              have HNE := Lib.hid (far_ne HT3.out hwt2 hwb2)
              have HT4 := Lib.hid (HT3.out.below hb2)
              have HS4 := Lib.hid (HS3.out.on hb2)
              have HX4 := Lib.hid (HX3.out.below hb2)
              have HU4 := Lib.hid ht2
              clear ht2 hwt2 hwb2 hb2
              go_wp2_with fail
              refine (tjoin_at HPJ.out HT4.out HU4.out HNE.out).mono ?_
              rintro e W5 ⟨rfl, ht5, ho5⟩
              have HS5a : Hid (PSt w W5 t1 b1 r L L) := Lib.hid ⟨ht5, HT4.out.ref HS4.out.rf ho5, HTW.out.1, HTW.out.2, HS4.out.hr, below_only HS4.out.below ho5 HTW.out.1 HTW.out.2⟩
              have HU5 := Lib.hid (HT4.out.other HU4.out ho5 HNE.out)
              have HX5a := Lib.hid (HX4.out.only HT4.out ho5)
              clear ht5 ho5
              go_wp2_with fail
              refine (keys_at rfl HU5.out).mono ?_
              rintro e W6 ⟨v6, rfl, hv6, hb6⟩
              have HS6a := Lib.hid (HS5a.out.on hb6)
              have HX6a := Lib.hid (HX5a.out.below hb6)
              have HV6 := Lib.hid hv6
              have HGL6 := Lib.hid HU5.out.good.len
              have hb7 := below_made W6 (.cells #[.int .i64 G] 3)
              have HS7a := Lib.hid (HS6a.out.on hb7)
              have HX7a := Lib.hid (HX6a.out.below hb7)
              have HV7 := Lib.hid (HV6.out.on hb7)
              have HG7 : Hid (IRow (W6.alloc (.cells #[.int .i64 G] 3)) (.slice (some ⟨W6.heap.size, 0, none⟩) 1 1) [G]) := Lib.hid (grp.irow_new W6 [G] 1 1 rfl 3)
              obtain ⟨W7, hW7⟩ : ∃ W, W6.alloc (.cells #[.int .i64 G] 3) = W := ⟨_, rfl⟩
              have HW7 := Lib.hid hW7
              rw [hW7] at HS7a HX7a HV7 HG7
              clear hv6 hb6 hb7 hW7
              go_wp2_with fail
              rw [HW7.out]
              refine (rof_at HS7a.out.rf HG7.out (by simp)).mono ?_
              rintro e W8 ⟨u, rfl, hu8, hwu, hb8⟩
              have HS8a := Lib.hid (HS7a.out.on hb8)
              have HX8a := Lib.hid (HX7a.out.below hb8)
              have HV8 := Lib.hid (HV7.out.on hb8)
              have HU8 := Lib.hid hu8
              clear hu8 hwu hb8
              go_wp2_with fail
              refine (rkeys_at HU8.out).mono ?_
              rintro e W9 ⟨v9b, rfl, hv9, hb9⟩
              have HS9a := Lib.hid (HS8a.out.on hb9)
              have HX9a := Lib.hid (HX8a.out.below hb9)
              have HV9a := Lib.hid (HV8.out.on hb9)
              have HY9 := Lib.hid hv9
              clear hv9 hb9
              go_wp2_with fail
              refine (equal_nums_same HV9a.out HY9.out (by rw [List.length_map]; have := HGL6.out; omega)).mono ?_
              rintro e W10 ⟨rfl, hb10⟩
              have HSa := Lib.hid (HS9a.out.on hb10)
              have HXa := Lib.hid (HX9a.out.below hb10)
              obtain ⟨-, y101, -, -⟩ := HXa.out.facts
              clear hb10
              go_wp2_with fail
              obtain ⟨x9, ns9, hgo⟩ : ∃ x ns, gotO L key = (x, ns) := ⟨_, _, rfl⟩
              obtain ⟨f9, hf9⟩ : ∃ f, (look L key).isSome = f := ⟨_, rfl⟩
              obtain ⟨n9, hn9⟩ : ∃ n, ns9.length = n := ⟨_, rfl⟩
              have H16 : Hid (n9 ≤ 16) := Lib.hid (by have := got_fine HSa.out.tab.good key; rw [hgo] at this; dsimp only at this; omega)
              have HGO := Lib.hid hgo
              have HF9 := Lib.hid hf9
              have HN9 := Lib.hid hn9
              clear hgo hf9 hn9
              refine (tget_at HGO.out HN9.out HF9.out HSa.out.tab HKF.out).mono ?_
              rintro e w5 ⟨a5, c5, rfl, hna5, hb5⟩
              have HS5 := Lib.hid (HSa.out.on hb5)
              have HX5 := Lib.hid (HXa.out.below hb5)
              have hb6 := below_made w5 (.cells #[.int .i64 x9, .slice a5 n9 c5] 32)
              have HS6 := Lib.hid (HS5.out.on hb6)
              have HX6 := Lib.hid (HX5.out.below hb6)
              have HNA6 := Lib.hid (hna5.keep (.of_below hb6))
              have HC6 := Lib.hid (Box2.new w5 (x9, a5, n9, c5))
              obtain ⟨N6, hN6⟩ : ∃ n, w5.heap.size = n := ⟨_, rfl⟩
              have HN6 := Lib.hid hN6
              obtain ⟨W6, hW6⟩ : ∃ W, w5.alloc (.cells #[.int .i64 x9, .slice a5 n9 c5] 32) = W := ⟨_, rfl⟩
              have HW6 := Lib.hid hW6
              obtain ⟨-, x61, -, -⟩ := HX6.out.facts
              dsimp only at HC6
              rw [hW6] at HS6 HX6 HNA6 HC6
              rw [hN6] at HC6
              clear hna5 hb5 hb6 hN6 hW6
              go_wp2_with fail
              rw [HW6.out, HN6.out]
              refine (rget_at HGO.out HN9.out HF9.out HS6.out.rf HKF.out).mono ?_
              rintro e w7 ⟨a7, c7, rfl, hna7, hb7⟩
              have HS7 := Lib.hid (HS6.out.on hb7)
              have HNA7 := Lib.hid (HNA6.out.keep (.of_below hb7))
              have HC7 := Lib.hid (HC6.out.below hb7)
              have hb8 := below_made w7 (.cells #[.int .i64 x9, .slice a7 n9 c7] 32)
              have HS8 := Lib.hid (HS7.out.on hb8)
              have HNA8 := Lib.hid (HNA7.out.keep (.of_below hb8))
              have HNB8 := Lib.hid (hna7.keep (.of_below hb8))
              have HC8 := Lib.hid (HC7.out.below hb8)
              have HD8 := Lib.hid (Box2.new w7 (x9, a7, n9, c7))
              obtain ⟨p0, p1, -, -⟩ := HC8.out.facts
              obtain ⟨q0, q1, -, -⟩ := HD8.out.facts
              obtain ⟨W8, hW8⟩ : ∃ W, w7.alloc (.cells #[.int .i64 x9, .slice a7 n9 c7] 32) = W := ⟨_, rfl⟩
              have HW8 := Lib.hid hW8
              dsimp only at p0 p1 q0 q1
              rw [hW8] at HS8 HNA8 HNB8
              clear hna7 hb7 hb8 hW8 x61
              go_wp2_with fail
              rw [HW8.out]
              refine (same_at HN9.out HNA8.out HNB8.out H16.out).mono ?_
              rintro e w9 ⟨rfl, hb9⟩
              have HS9 := Lib.hid (HS8.out.on hb9)
              clear hb9 p0 p1 q0 q1
              go_wp2_with fail
              refine (keys_at rfl HS9.out.tab).mono ?_
              rintro e w10 ⟨v10, rfl, hv10, hb10⟩
              have HS10 := Lib.hid (HS9.out.on hb10)
              have HV10 := Lib.hid hv10
              have HGL := Lib.hid HS9.out.tab.good.len
              clear hv10 hb10
              go_wp2_with fail
              refine (rkeys_at HS10.out.rf).mono ?_
              rintro e w11 ⟨v11, rfl, hv11, hb11⟩
              have HS11 := Lib.hid (HS10.out.on hb11)
              have HV11 := Lib.hid (HV10.out.on hb11)
              have HU11 := Lib.hid hv11
              clear hv11 hb11
              go_wp2_with fail
              refine (equal_nums_same HV11.out HU11.out (by rw [List.length_map]; have := HGL.out; omega)).mono ?_
              rintro e w12 ⟨rfl, hb12⟩
              have HS12 := Lib.hid (HS11.out.on hb12)
              clear hb12
              go_wp2_with fail
              go_roundg g
              case measure => omega
              case rel => exact ⟨k + 1, t1, b1, L, by have := HKG.out; omega, by go_num, rfl, HS12.out⟩
        by_cases h3 : kd = 3
        · subst h3
          go_wp2_with (first | (refine wpList_load_mid rfl 47 (.tmp 30) rfl b0 (o + k * 4) rfl [.int .i64 3, .int .i64 key, .int .i64 acc, .slice pa pn pc] _ HC.out Try.underlying47 rfl info47 ?_))
          rw [HW0.out, HNN.out]
          refine (copy_any HS0.out.tab).mono ?_
          rintro e W1 ⟨t1, b1, rfl, ht1, hwt1, hwb1, hb1⟩
          have HNE := Lib.hid (far_ne HS0.out.tab hwt1 hwb1)
          have HS1 := Lib.hid (HS0.out.on hb1)
          have HX1 := Lib.hid (HX0.out.below hb1)
          have HT1 := Lib.hid ht1
          have HTW : Hid (w.heap.size ≤ t1 ∧ w.heap.size ≤ b1) := Lib.hid (by have := HS0.out.below.size; omega)
          obtain ⟨c, L2, hO⟩ : ∃ c L', putO L key (99, []) = (c, L') := ⟨_, _, rfl⟩
          have HO := Lib.hid hO
          obtain ⟨-, y11, -, -⟩ := HX1.out.facts
          clear ht1 hwt1 hwb1 hb1 hO
          go_wp2_with fail
          refine (put_at HO.out rfl HS1.out.tab HKF.out (fits_small (by omega) (by omega)) (by simp) (Sl.nil _) (fun _ => none_blk _) (by simp)).mono ?_
          rintro e W2 ⟨rfl, ht2, ho2⟩
          have HT2 := Lib.hid (HS1.out.tab.other HT1.out ho2 HNE.out)
          have HS2 := Lib.hid ((HS1.out.tabStep ht2 ho2).swap HT2.out HTW.out.1 HTW.out.2)
          have HX2 := Lib.hid (HX1.out.only HS1.out.tab ho2)
          obtain ⟨-, y21, -, -⟩ := HX2.out.facts
          clear ht2 ho2 y11
          go_wp2_with fail
          obtain ⟨x9, ns9, hgo⟩ : ∃ x ns, gotO L key = (x, ns) := ⟨_, _, rfl⟩
          obtain ⟨f9, hf9⟩ : ∃ f, (look L key).isSome = f := ⟨_, rfl⟩
          obtain ⟨n9, hn9⟩ : ∃ n, ns9.length = n := ⟨_, rfl⟩
          have H16 : Hid (n9 ≤ 16) := Lib.hid (by have := got_fine HS2.out.tab.good key; rw [hgo] at this; dsimp only at this; omega)
          have HGO := Lib.hid hgo
          have HF9 := Lib.hid hf9
          have HN9 := Lib.hid hn9
          clear hgo hf9 hn9
          refine (tget_at HGO.out HN9.out HF9.out HS2.out.tab HKF.out).mono ?_
          rintro e w5 ⟨a5, c5, rfl, hna5, hb5⟩
          have HS5 := Lib.hid (HS2.out.on hb5)
          have HX5 := Lib.hid (HX2.out.below hb5)
          have hb6 := below_made w5 (.cells #[.int .i64 x9, .slice a5 n9 c5] 32)
          have HS6 := Lib.hid (HS5.out.on hb6)
          have HX6 := Lib.hid (HX5.out.below hb6)
          have HNA6 := Lib.hid (hna5.keep (.of_below hb6))
          have HC6 := Lib.hid (Box2.new w5 (x9, a5, n9, c5))
          obtain ⟨N6, hN6⟩ : ∃ n, w5.heap.size = n := ⟨_, rfl⟩
          have HN6 := Lib.hid hN6
          obtain ⟨W6, hW6⟩ : ∃ W, w5.alloc (.cells #[.int .i64 x9, .slice a5 n9 c5] 32) = W := ⟨_, rfl⟩
          have HW6 := Lib.hid hW6
          obtain ⟨-, x61, -, -⟩ := HX6.out.facts
          dsimp only at HC6
          rw [hW6] at HS6 HX6 HNA6 HC6
          rw [hN6] at HC6
          clear hna5 hb5 hb6 hN6 hW6
          go_wp2_with fail
          rw [HW6.out, HN6.out]
          refine (rget_at HGO.out HN9.out HF9.out HS6.out.rf HKF.out).mono ?_
          rintro e w7 ⟨a7, c7, rfl, hna7, hb7⟩
          have HS7 := Lib.hid (HS6.out.on hb7)
          have HNA7 := Lib.hid (HNA6.out.keep (.of_below hb7))
          have HC7 := Lib.hid (HC6.out.below hb7)
          have hb8 := below_made w7 (.cells #[.int .i64 x9, .slice a7 n9 c7] 32)
          have HS8 := Lib.hid (HS7.out.on hb8)
          have HNA8 := Lib.hid (HNA7.out.keep (.of_below hb8))
          have HNB8 := Lib.hid (hna7.keep (.of_below hb8))
          have HC8 := Lib.hid (HC7.out.below hb8)
          have HD8 := Lib.hid (Box2.new w7 (x9, a7, n9, c7))
          obtain ⟨p0, p1, -, -⟩ := HC8.out.facts
          obtain ⟨q0, q1, -, -⟩ := HD8.out.facts
          obtain ⟨W8, hW8⟩ : ∃ W, w7.alloc (.cells #[.int .i64 x9, .slice a7 n9 c7] 32) = W := ⟨_, rfl⟩
          have HW8 := Lib.hid hW8
          dsimp only at p0 p1 q0 q1
          rw [hW8] at HS8 HNA8 HNB8
          clear hna7 hb7 hb8 hW8 x61
          go_wp2_with fail
          rw [HW8.out]
          refine (same_at HN9.out HNA8.out HNB8.out H16.out).mono ?_
          rintro e w9 ⟨rfl, hb9⟩
          have HS9 := Lib.hid (HS8.out.on hb9)
          clear hb9 p0 p1 q0 q1
          go_wp2_with fail
          refine (keys_at rfl HS9.out.tab).mono ?_
          rintro e w10 ⟨v10, rfl, hv10, hb10⟩
          have HS10 := Lib.hid (HS9.out.on hb10)
          have HV10 := Lib.hid hv10
          have HGL := Lib.hid HS9.out.tab.good.len
          clear hv10 hb10
          go_wp2_with fail
          refine (rkeys_at HS10.out.rf).mono ?_
          rintro e w11 ⟨v11, rfl, hv11, hb11⟩
          have HS11 := Lib.hid (HS10.out.on hb11)
          have HV11 := Lib.hid (HV10.out.on hb11)
          have HU11 := Lib.hid hv11
          clear hv11 hb11
          go_wp2_with fail
          refine (equal_nums_same HV11.out HU11.out (by rw [List.length_map]; have := HGL.out; omega)).mono ?_
          rintro e w12 ⟨rfl, hb12⟩
          have HS12 := Lib.hid (HS11.out.on hb12)
          clear hb12
          go_wp2_with fail
          go_roundg g
          case measure => omega
          case rel => exact ⟨k + 1, t1, b1, L, by have := HKG.out; omega, by go_num, rfl, HS12.out⟩
        by_cases h4 : kd = 4
        · subst h4
          obtain ⟨c, U, hO⟩ : ∃ c L', putO [] key (acc, ns) = (c, L') := ⟨_, _, rfl⟩
          obtain ⟨d, L', hJ⟩ : ∃ c L', joinO L U = (c, L') := ⟨_, _, rfl⟩
          have HO := Lib.hid hO
          have HJ := Lib.hid hJ
          clear hO hJ
          go_wp2_with (first | (refine wpList_load_mid rfl 47 (.tmp 30) rfl b0 (o + k * 4) rfl [.int .i64 4, .int .i64 key, .int .i64 acc, .slice pa pn pc] _ HC.out Try.underlying47 rfl info47 ?_))
          rw [HW0.out, HNN.out]
          refine (new_any W0).mono ?_
          rintro e W1 ⟨t1, b1, rfl, ht1, hwt1, hwb1, hb1⟩
          have HNE := Lib.hid (far_ne HS0.out.tab hwt1 hwb1)
          have HS1 := Lib.hid (HS0.out.on hb1)
          have HX1 := Lib.hid (HX0.out.below hb1)
          have HT1 := Lib.hid ht1
          have HTW : Hid (w.heap.size ≤ t1 ∧ w.heap.size ≤ b1) := Lib.hid (by have := HS0.out.below.size; omega)
          have hb2 := below_made W1 (.cells #[.slice none 0 0] 45)
          have HS2 := Lib.hid (HS1.out.on hb2)
          have HX2 := Lib.hid (HX1.out.below hb2)
          have HT2 := Lib.hid (HT1.out.below hb2)
          have HQ2 := Lib.hid (ref_new W1)
          have HQR : Hid (W1.heap.size ≠ r) := Lib.hid (by have := HS1.out.rf.lt; omega)
          obtain ⟨q, hq⟩ : ∃ n, W1.heap.size = n := ⟨_, rfl⟩
          have HQN := Lib.hid hq
          obtain ⟨W2, hW2⟩ : ∃ W, W1.alloc (.cells #[.slice none 0 0] 45) = W := ⟨_, rfl⟩
          have HW2 := Lib.hid hW2
          obtain ⟨-, y21, -, -⟩ := HX2.out.facts
          rw [hW2] at HS2 HX2 HT2 HQ2
          rw [hq] at HQ2 HQR
          have HLD : Hid ((W1.alloc (.cells #[.slice none 0 0] 45)).rangeAt N 2 [.int .i64 acc, .slice pa pn pc]) := Lib.hid (by rw [hW2]; exact HX2.out.row)
          have HPU := Lib.hid (put_at HO.out HNL.out HT2.out HKF.out HAF.out HNF.out (HSL.out _ HS2.out.below) (HAT.out _ HTW.out.1) H100.out)
          clear ht1 hwt1 hwb1 hb1 hb2 hq hW2
          go_wp2_with (first | (refine wpList_load_mid rfl 32 (.tmp 118) rfl N 2 rfl [.int .i64 acc, .slice pa pn pc] _ HLD.out Try.underlying32 rfl (by kernel_rfl) ?_))
          rw [HW2.out, HQN.out]
          refine HPU.out.mono ?_
          rintro e W3 ⟨rfl, ht3, ho3⟩
          have HS3 : Hid (PSt w W3 t b r L L) := Lib.hid ⟨HT2.out.other HS2.out.tab ho3 ⟨fun e => HNE.out.1 e.symm, fun e => HNE.out.2 e.symm⟩, HT2.out.ref HS2.out.rf ho3, HS2.out.ht, HS2.out.hb, HS2.out.hr, below_only HS2.out.below ho3 HTW.out.1 HTW.out.2⟩
          have HX3 := Lib.hid (HX2.out.only HT2.out ho3)
          have HQ3 := Lib.hid (HT2.out.ref HQ2.out ho3)
          have HT3 := Lib.hid ht3
          have HLD3 := Lib.hid HX3.out.row
          obtain ⟨-, y31, -, -⟩ := HX3.out.facts
          have HQW : Hid (w.heap.size ≤ q) := Lib.hid (by have := HQN.out; have := HS1.out.below.size; omega)
          clear ht3 ho3 y21
          go_wp2_with (first | (refine wpList_load_mid rfl 32 (.tmp 124) rfl N 2 rfl [.int .i64 acc, .slice pa pn pc] _ HLD3.out Try.underlying32 rfl (by kernel_rfl) ?_))
          refine (rput_at HO.out HNL.out HQ3.out HKF.out HAF.out HNF.out (HSL.out _ HS3.out.below)).mono ?_
          rintro e W4 ⟨rfl, hq4, ho4⟩
          have HS4 : Hid (PSt w W4 t b r L L) := Lib.hid ⟨HQ3.out.tab HS3.out.tab ho4, HQ3.out.other HS3.out.rf ho4 (fun e => HQR.out e.symm), HS3.out.ht, HS3.out.hb, HS3.out.hr, ref.rt_only HS3.out.below ho4 HQW.out⟩
          have HX4 := Lib.hid (HX3.out.onlyR HQ3.out ho4)
          have HT4 := Lib.hid (HQ3.out.tab HT3.out ho4)
          have HQ4 := Lib.hid hq4
          clear hq4 ho4 y31
          go_wp2_with fail
          refine (tjoin_at HJ.out HS4.out.tab HT4.out HNE.out).mono ?_
          rintro e W5 ⟨rfl, ht5, ho5⟩
          have HS5a := Lib.hid (HS4.out.tabStep ht5 ho5)
          have HX5a := Lib.hid (HX4.out.only HS4.out.tab ho5)
          have HQ5 := Lib.hid (HS4.out.tab.ref HQ4.out ho5)
          clear ht5 ho5
          go_wp2_with fail
          refine (rjoin_at HJ.out HS5a.out.rf HQ5.out HQR.out).mono ?_
          rintro e W7 ⟨rfl, hr6, ho6⟩
          have HSa := Lib.hid (HS5a.out.refStep hr6 ho6)
          have HXa := Lib.hid (HX5a.out.onlyR HS5a.out.rf ho6)
          obtain ⟨-, y61, -, -⟩ := HXa.out.facts
          clear hr6 ho6
          go_wp2_with fail
          obtain ⟨x9, ns9, hgo⟩ : ∃ x ns, gotO L' key = (x, ns) := ⟨_, _, rfl⟩
          obtain ⟨f9, hf9⟩ : ∃ f, (look L' key).isSome = f := ⟨_, rfl⟩
          obtain ⟨n9, hn9⟩ : ∃ n, ns9.length = n := ⟨_, rfl⟩
          have H16 : Hid (n9 ≤ 16) := Lib.hid (by have := got_fine HSa.out.tab.good key; rw [hgo] at this; dsimp only at this; omega)
          have HGO := Lib.hid hgo
          have HF9 := Lib.hid hf9
          have HN9 := Lib.hid hn9
          clear hgo hf9 hn9
          refine (tget_at HGO.out HN9.out HF9.out HSa.out.tab HKF.out).mono ?_
          rintro e w5 ⟨a5, c5, rfl, hna5, hb5⟩
          have HS5 := Lib.hid (HSa.out.on hb5)
          have HX5 := Lib.hid (HXa.out.below hb5)
          have hb6 := below_made w5 (.cells #[.int .i64 x9, .slice a5 n9 c5] 32)
          have HS6 := Lib.hid (HS5.out.on hb6)
          have HX6 := Lib.hid (HX5.out.below hb6)
          have HNA6 := Lib.hid (hna5.keep (.of_below hb6))
          have HC6 := Lib.hid (Box2.new w5 (x9, a5, n9, c5))
          obtain ⟨N6, hN6⟩ : ∃ n, w5.heap.size = n := ⟨_, rfl⟩
          have HN6 := Lib.hid hN6
          obtain ⟨W6, hW6⟩ : ∃ W, w5.alloc (.cells #[.int .i64 x9, .slice a5 n9 c5] 32) = W := ⟨_, rfl⟩
          have HW6 := Lib.hid hW6
          obtain ⟨-, x61, -, -⟩ := HX6.out.facts
          dsimp only at HC6
          rw [hW6] at HS6 HX6 HNA6 HC6
          rw [hN6] at HC6
          clear hna5 hb5 hb6 hN6 hW6
          go_wp2_with fail
          rw [HW6.out, HN6.out]
          refine (rget_at HGO.out HN9.out HF9.out HS6.out.rf HKF.out).mono ?_
          rintro e w7 ⟨a7, c7, rfl, hna7, hb7⟩
          have HS7 := Lib.hid (HS6.out.on hb7)
          have HNA7 := Lib.hid (HNA6.out.keep (.of_below hb7))
          have HC7 := Lib.hid (HC6.out.below hb7)
          have hb8 := below_made w7 (.cells #[.int .i64 x9, .slice a7 n9 c7] 32)
          have HS8 := Lib.hid (HS7.out.on hb8)
          have HNA8 := Lib.hid (HNA7.out.keep (.of_below hb8))
          have HNB8 := Lib.hid (hna7.keep (.of_below hb8))
          have HC8 := Lib.hid (HC7.out.below hb8)
          have HD8 := Lib.hid (Box2.new w7 (x9, a7, n9, c7))
          obtain ⟨p0, p1, -, -⟩ := HC8.out.facts
          obtain ⟨q0, q1, -, -⟩ := HD8.out.facts
          obtain ⟨W8, hW8⟩ : ∃ W, w7.alloc (.cells #[.int .i64 x9, .slice a7 n9 c7] 32) = W := ⟨_, rfl⟩
          have HW8 := Lib.hid hW8
          dsimp only at p0 p1 q0 q1
          rw [hW8] at HS8 HNA8 HNB8
          clear hna7 hb7 hb8 hW8 x61
          go_wp2_with fail
          rw [HW8.out]
          refine (same_at HN9.out HNA8.out HNB8.out H16.out).mono ?_
          rintro e w9 ⟨rfl, hb9⟩
          have HS9 := Lib.hid (HS8.out.on hb9)
          clear hb9 p0 p1 q0 q1
          go_wp2_with fail
          refine (keys_at rfl HS9.out.tab).mono ?_
          rintro e w10 ⟨v10, rfl, hv10, hb10⟩
          have HS10 := Lib.hid (HS9.out.on hb10)
          have HV10 := Lib.hid hv10
          have HGL := Lib.hid HS9.out.tab.good.len
          clear hv10 hb10
          go_wp2_with fail
          refine (rkeys_at HS10.out.rf).mono ?_
          rintro e w11 ⟨v11, rfl, hv11, hb11⟩
          have HS11 := Lib.hid (HS10.out.on hb11)
          have HV11 := Lib.hid (HV10.out.on hb11)
          have HU11 := Lib.hid hv11
          clear hv11 hb11
          go_wp2_with fail
          refine (equal_nums_same HV11.out HU11.out (by rw [List.length_map]; have := HGL.out; omega)).mono ?_
          rintro e w12 ⟨rfl, hb12⟩
          have HS12 := Lib.hid (HS11.out.on hb12)
          clear hb12
          go_wp2_with fail
          go_roundg g
          case measure => omega
          case rel => exact ⟨k + 1, t, b, L', by have := HKG.out; omega, by go_num, rfl, HS12.out⟩
        · have hn0 : (kd == 0) = false := by simp [h0]
          have hn1 : (kd == 1) = false := by simp [h1]
          have hn2 : (kd == 2) = false := by simp [h2]
          have hn3 : (kd == 3) = false := by simp [h3]
          have hn4 : (kd == 4) = false := by simp [h4]
          clear h0 h1 h2 h3 h4
          go_wp2_with (first | (refine wpList_load_mid rfl 47 (.tmp 30) rfl b0 (o + k * 4) rfl [.int .i64 kd, .int .i64 key, .int .i64 acc, .slice pa pn pc] _ HC.out Try.underlying47 rfl info47 ?_))
          rw [HW0.out, HNN.out]
          obtain ⟨x9, ns9, hgo⟩ : ∃ x ns, gotO L key = (x, ns) := ⟨_, _, rfl⟩
          obtain ⟨f9, hf9⟩ : ∃ f, (look L key).isSome = f := ⟨_, rfl⟩
          obtain ⟨n9, hn9⟩ : ∃ n, ns9.length = n := ⟨_, rfl⟩
          have H16 : Hid (n9 ≤ 16) := Lib.hid (by have := got_fine HS0.out.tab.good key; rw [hgo] at this; dsimp only at this; omega)
          have HGO := Lib.hid hgo
          have HF9 := Lib.hid hf9
          have HN9 := Lib.hid hn9
          clear hgo hf9 hn9
          refine (tget_at HGO.out HN9.out HF9.out HS0.out.tab HKF.out).mono ?_
          rintro e w5 ⟨a5, c5, rfl, hna5, hb5⟩
          have HS5 := Lib.hid (HS0.out.on hb5)
          have HX5 := Lib.hid (HX0.out.below hb5)
          have hb6 := below_made w5 (.cells #[.int .i64 x9, .slice a5 n9 c5] 32)
          have HS6 := Lib.hid (HS5.out.on hb6)
          have HX6 := Lib.hid (HX5.out.below hb6)
          have HNA6 := Lib.hid (hna5.keep (.of_below hb6))
          have HC6 := Lib.hid (Box2.new w5 (x9, a5, n9, c5))
          obtain ⟨N6, hN6⟩ : ∃ n, w5.heap.size = n := ⟨_, rfl⟩
          have HN6 := Lib.hid hN6
          obtain ⟨W6, hW6⟩ : ∃ W, w5.alloc (.cells #[.int .i64 x9, .slice a5 n9 c5] 32) = W := ⟨_, rfl⟩
          have HW6 := Lib.hid hW6
          obtain ⟨-, x61, -, -⟩ := HX6.out.facts
          dsimp only at HC6
          rw [hW6] at HS6 HX6 HNA6 HC6
          rw [hN6] at HC6
          clear hna5 hb5 hb6 hN6 hW6
          go_wp2_with fail
          rw [HW6.out, HN6.out]
          refine (rget_at HGO.out HN9.out HF9.out HS6.out.rf HKF.out).mono ?_
          rintro e w7 ⟨a7, c7, rfl, hna7, hb7⟩
          have HS7 := Lib.hid (HS6.out.on hb7)
          have HNA7 := Lib.hid (HNA6.out.keep (.of_below hb7))
          have HC7 := Lib.hid (HC6.out.below hb7)
          have hb8 := below_made w7 (.cells #[.int .i64 x9, .slice a7 n9 c7] 32)
          have HS8 := Lib.hid (HS7.out.on hb8)
          have HNA8 := Lib.hid (HNA7.out.keep (.of_below hb8))
          have HNB8 := Lib.hid (hna7.keep (.of_below hb8))
          have HC8 := Lib.hid (HC7.out.below hb8)
          have HD8 := Lib.hid (Box2.new w7 (x9, a7, n9, c7))
          obtain ⟨p0, p1, -, -⟩ := HC8.out.facts
          obtain ⟨q0, q1, -, -⟩ := HD8.out.facts
          obtain ⟨W8, hW8⟩ : ∃ W, w7.alloc (.cells #[.int .i64 x9, .slice a7 n9 c7] 32) = W := ⟨_, rfl⟩
          have HW8 := Lib.hid hW8
          dsimp only at p0 p1 q0 q1
          rw [hW8] at HS8 HNA8 HNB8
          clear hna7 hb7 hb8 hW8 x61
          go_wp2_with fail
          rw [HW8.out]
          refine (same_at HN9.out HNA8.out HNB8.out H16.out).mono ?_
          rintro e w9 ⟨rfl, hb9⟩
          have HS9 := Lib.hid (HS8.out.on hb9)
          clear hb9 p0 p1 q0 q1
          go_wp2_with fail
          refine (keys_at rfl HS9.out.tab).mono ?_
          rintro e w10 ⟨v10, rfl, hv10, hb10⟩
          have HS10 := Lib.hid (HS9.out.on hb10)
          have HV10 := Lib.hid hv10
          have HGL := Lib.hid HS9.out.tab.good.len
          clear hv10 hb10
          go_wp2_with fail
          refine (rkeys_at HS10.out.rf).mono ?_
          rintro e w11 ⟨v11, rfl, hv11, hb11⟩
          have HS11 := Lib.hid (HS10.out.on hb11)
          have HV11 := Lib.hid (HV10.out.on hb11)
          have HU11 := Lib.hid hv11
          clear hv11 hb11
          go_wp2_with fail
          refine (equal_nums_same HV11.out HU11.out (by rw [List.length_map]; have := HGL.out; omega)).mono ?_
          rintro e w12 ⟨rfl, hb12⟩
          have HS12 := Lib.hid (HS11.out.on hb12)
          clear hb12
          go_wp2_with fail
          go_roundg g
          case measure => omega
          case rel => exact ⟨k + 1, t, b, L, by have := HKG.out; omega, by go_num, rfl, HS12.out⟩
      | zero =>
        have hlt : ¬ ((k : Int) < (l.length : Int)) := by omega
        obtain ⟨T, hT⟩ : ∃ T, tabB L = T := ⟨_, rfl⟩
        have HTT := Lib.hid hT
        have HSE := Lib.hid hst
        clear hkg hst hT
        go_wp2_with fail
        refine (bytes_at HTT.out HSE.out.tab).mono ?_
        rintro e w5 ⟨rfl, hb⟩
        have HSE := Lib.hid (HSE.out.on hb)
        clear hb
        go_wp2_with fail
        refine (rbytes_at HTT.out HSE.out.rf).mono ?_
        rintro e w6 ⟨rfl, hb⟩
        have HB := Lib.hid (HSE.out.on hb).below
        clear hb
        go_wp2_with fail
        refine (works_any _).mono ?_
        rintro e w7 ⟨rfl, hb⟩
        have HB := Lib.hid (below_on' HB.out hb)
        clear hb
        go_wp2_with fail
        go_ret
        exact ⟨rfl, HB.out⟩
end Go.Proofs.Ytghpbhcnblninaa.tbl
