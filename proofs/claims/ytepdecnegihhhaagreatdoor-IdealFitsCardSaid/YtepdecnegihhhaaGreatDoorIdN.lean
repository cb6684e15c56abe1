import Derived.Test.YtepdecnegihhhaaGreatDoorIdM
set_option linter.unusedSimpArgs false
set_option linter.unusedVariables false
namespace Go.Proofs.YtepdecnegihhhaaGreatDoor.idl
open Go.RowKit
open tbl (IsTab IsRef takeT TakePost lt_of_get MadeT)
open opr (Nv nodeV NBox)
open grp (below_on' below_made ret_bool)
open exp (cell_of heap_last)
attribute [local go_sem ↓] Go.wp_at_zero Go.wp_at_succ
set_option maxHeartbeats 3200000 in
set_option maxRecDepth 1000000 in
theorem law_fits {w : World} (hk : sc.KTab w) (ht : jb.Tab w) (nv : Nv) (z : ByteArray) (hz : z.size ≤ 140737488355328) :
  Calls Tryz.prog 4 #[nodeV nv, .string z] w fun e w' => e = .returned (.bool true) ∧ Below w.heap.size w w' := by
 have hb0 := below_made w (.cells nv.cells 48)
 obtain ⟨N, hN⟩ : ∃ N, w.heap.size = N := ⟨_, rfl⟩
 obtain ⟨W0, hW0⟩ : ∃ W, w.alloc (.cells nv.cells 48) = W := ⟨_, rfl⟩
 have hnb := NBox.new w nv
 rw [hW0] at hb0 hnb
 rw [hN] at hnb
 have HB0 := Lib.hid hb0; have HNB := Lib.hid hnb
 have HTK := Lib.hid (tbl.take_any z W0 hz)
 have HRT := Lib.hid (fun W => tbl.ref.rtake_any z W hz)
 have HWK := Lib.hid (fun W (hb : Below w.heap.size w W) => works_any (hk.on hb) (ht.on hb))
 have HFN := Lib.hid (fun W (hb : Below w.heap.size w W) => fits_none (ht.on hb) nv)
 have HFA := Lib.hid (fun W (hb : Below w.heap.size w W) t b L (h : IsTab W t b L) => fits_any (ht.on hb) nv h)
 have HFR := Lib.hid (fun W r L (h : IsRef W r L) => rfits_any h nv)
 obtain ⟨⟨c, L⟩, hcL⟩ : ∃ q, takeT (byt.bl z) = q := ⟨_, rfl⟩
 have HNN := Lib.hid hN; have HW0 := Lib.hid hW0
 unfold TakePost at HTK
 unfold tbl.ref.RTPost at HRT
 simp only [hcL] at HTK HRT
 unfold nodeV at HFN HFA HFR ⊢
 obtain ⟨s, kd, ia, il, ic, op, xn, xa, xl, xc, nn⟩ := nv
 unfold Nv.cells at *
 dsimp only at *
 obtain ⟨b0, b1, b2, b3, b4, b5, b6⟩ := hnb.facts
 dsimp only at b0 b1 b2 b3 b4 b5 b6
 have hz63 : (z.size : Int) ≤ 140737488355328 := by omega
 clear hb0 hnb hN hW0 hk ht hz hcL
 by_cases hc : c = 0
 · subst hc
   simp only [if_true] at HTK HRT
   by_cases hbig : 20000 < z.size
   · have hbig' : (z.size : Int) > 20000 := by omega
     go_enter Tryz.func4, Tryz.ntmps4
     go_upto_region 1 with fail
     rw [HNN.out, HW0.out]
     go_wp2_with fail
     refine HTK.out.mono ?_
     rintro e w1 ⟨t, b, rfl, htb, -, -, hb1⟩
     have HB1 := Lib.hid (below_on' HB0.out hb1)
     have HR1 := Lib.hid (HRT.out w1)
     clear htb hb1 HTK HRT b0 b1 b2 b3 b4 b5 b6
     go_wp2_with fail
     refine HR1.out.mono ?_
     rintro e w2 ⟨r, rfl, hrf, -, hb2⟩
     have HB2 := Lib.hid (below_on' HB1.out hb2)
     have HW2 := Lib.hid (HWK.out w2 HB2.out)
     clear hrf hb2 HWK
     go_wp2_with fail
     refine HW2.out.mono ?_
     rintro e w3 ⟨rfl, hb3⟩
     have HB3 := Lib.hid (below_on' HB2.out hb3)
     clear hb3
     go_wp2_with fail
     go_ret
     exact ⟨rfl, HB3.out⟩
   · have hbig' : ¬ (z.size : Int) > 20000 := by omega
     go_enter Tryz.func4, Tryz.ntmps4
     go_upto_region 1 with fail
     rw [HNN.out, HW0.out]
     go_wp2_with fail
     refine HTK.out.mono ?_
     rintro e w1 ⟨t, b, rfl, htb, -, -, hb1⟩
     have HB1 := Lib.hid (below_on' HB0.out hb1)
     have HN1 := Lib.hid (HNB.out.below hb1)
     have HR1 := Lib.hid (HRT.out w1)
     have HTB := Lib.hid htb
     clear htb hb1 HTK HRT b0 b1 b2 b3 b4 b5 b6
     go_wp2_with fail
     refine HR1.out.mono ?_
     rintro e w2 ⟨r, rfl, hrf, -, hb2⟩
     have HB2 := Lib.hid (below_on' HB1.out hb2)
     have HN2 := Lib.hid (HN1.out.below hb2)
     have HTB2 := Lib.hid (HTB.out.below hb2)
     have HRF2 := Lib.hid hrf
     clear hrf hb2
     obtain ⟨f, hf⟩ : ∃ f, fitsB kd nn L = f := ⟨_, rfl⟩
     have HF := Lib.hid hf
     clear hf
     go_upto_region 7 with fail
     refine dsk.wp_region_peel2 (by kernel_rfl) (by simp only [List.dropLast_cons_cons, List.dropLast_singleton]; exact rfl) rfl (by kernel_rfl) ?_
     refine wpAny_of_held (S := fun w' => w'.rangeAt N 0 [.string s, .int .u8 (kd : Int), .slice ia il ic, .int .u8 (op : Int), .int .i64 xn, .slice xa xl xc, .int .i64 nn]) _ _ _ _ ?_
     have hHeld := (show w2.drew.rangeAt N 0 [.string s, .int .u8 (kd : Int), .slice ia il ic, .int .u8 (op : Int), .int .i64 xn, .slice xa xl xc, .int .i64 nn] from range_new HN2.out)
     refine wpAnyH_take (i := 0) (v := .agg ([.string s, .int .u8 (kd : Int), .slice ia il ic, .int .u8 (op : Int), .int .i64 xn, .slice xa xl xc, .int .i64 nn] : List Value).toArray) rfl (by kernel_rfl) (by kernel_rfl) (by kernel_rfl) (fun _ _ _ h => h) (yieldsIf_load_mid (by rfl) 48 (.tmp 2) rfl N (0) rfl [.string s, .int .u8 (kd : Int), .slice ia il ic, .int .u8 (op : Int), .int .i64 xn, .slice xa xl xc, .int .i64 nn] _ (fun w0 hw0 => hw0) Tryz.underlying48 rfl (by kernel_rfl)) (by assumption) ?_
     refine wpAnyH_take (i := 1) (v := ?v1) rfl (by kernel_rfl) (by kernel_rfl) (by kernel_rfl) (fun _ _ _ h => h) (Or.inl ⟨by rfl, ?hy1⟩) (by assumption) ?rest1
     case hy1 => (intro w0 hSw; go_simp; try with_reducible rfl)
     refine wpAnyH_take (i := 3) (v := .agg ([.string s, .int .u8 (kd : Int), .slice ia il ic, .int .u8 (op : Int), .int .i64 xn, .slice xa xl xc, .int .i64 nn] : List Value).toArray) rfl (by kernel_rfl) (by kernel_rfl) (by kernel_rfl) (fun _ _ _ h => h) (yieldsIf_load_mid (by rfl) 48 (.tmp 2) rfl N (0) rfl [.string s, .int .u8 (kd : Int), .slice ia il ic, .int .u8 (op : Int), .int .i64 xn, .slice xa xl xc, .int .i64 nn] _ (fun w0 hw0 => hw0) Tryz.underlying48 rfl (by kernel_rfl)) (by assumption) ?_
     refine wpAnyH_take (i := 4) (v := ?v2) rfl (by kernel_rfl) (by kernel_rfl) (by kernel_rfl) (fun _ _ _ h => h) (Or.inl ⟨by rfl, ?hy2⟩) (by assumption) ?rest2
     case hy2 => (intro w0 hSw; go_simp; try with_reducible rfl)
     try simp only [Act.put, List.setIfInBounds_toArray, List.set_cons_zero, List.set_cons_succ]
     have hd2 : Below w2.heap.size w2 w2.drew := ⟨rfl, rfl, rfl, Nat.le_refl _, fun _ _ => rfl⟩
     have HBD := Lib.hid (below_on' HB2.out hd2)
     have HND := Lib.hid (HN2.out.below hd2)
     have HTD := Lib.hid (HTB2.out.below hd2)
     have HRD := Lib.hid (HRF2.out.below hd2)
     clear hd2
     refine wpAnyH_ready (rs := [2]) (by kernel_rfl) (by simp) ?_
     refine AllReadyH.cons rfl (fun KQ hKQ => ?_) AllReadyH.nil
     go_simp
     refine (HFA.out w2.drew HBD.out _ _ _ HTD.out).mono ?_
     rintro e w3 ⟨rfl, hb3⟩
     rw [show fitsB kd nn L = f from HF.out]
     have HB3 := Lib.hid (below_on' HBD.out hb3)
     have HN3 := Lib.hid (HND.out.below hb3)
     have HR3 := Lib.hid (HRD.out.below hb3)
     clear hb3
     refine hKQ.out _ _ ?_ (fun hHeld => ?_)
     · exact range_new HN3.out
     clear hKQ KQ
     try simp only [Act.put, List.setIfInBounds_toArray, List.set_cons_zero, List.set_cons_succ]
     refine wpAnyH_ready (rs := [5]) (by kernel_rfl) (by simp) ?_
     refine AllReadyH.cons rfl (fun KQ hKQ => ?_) AllReadyH.nil
     go_simp
     refine (HFR.out w3 _ _ HR3.out).mono ?_
     rintro e w4 ⟨rfl, hb4⟩
     rw [show fitsB kd nn L = f from HF.out]
     have HB4 := Lib.hid (below_on' HB3.out hb4)
     have HN4 := Lib.hid (HN3.out.below hb4)
     clear hb4
     refine hKQ.out _ _ ?_ (fun hHeld => ?_)
     · exact range_new HN4.out
     clear hKQ KQ
     refine wpAnyH_take (i := 6) (v := ?v3) rfl (by kernel_rfl) (by kernel_rfl) (by kernel_rfl) (fun _ _ _ h => h) (Or.inl ⟨by rfl, ?hy3⟩) (by assumption) ?rest3
     case hy3 => (intro w0 hSw; go_simp; try with_reducible rfl)
     refine wpAnyH_take (i := 7) (v := ?v4) rfl (by kernel_rfl) (by kernel_rfl) (by kernel_rfl) (fun _ _ _ h => h) (Or.inl ⟨by rfl, ?hy4⟩) (by assumption) ?rest4
     case hy4 => (intro w0 hSw; go_simp; try with_reducible rfl)
     try simp only [Act.put, List.setIfInBounds_toArray, List.set_cons_zero, List.set_cons_succ]
     refine wpAnyH_ready (rs := [8]) (by kernel_rfl) (by simp) ?_
     refine AllReadyH.cons rfl (fun KQ hKQ => ?_) AllReadyH.nil
     go_simp
     refine (HWK.out w4 HB4.out).mono ?_
     rintro e w5 ⟨rfl, hb5⟩
     have HB5 := Lib.hid (below_on' HB4.out hb5)
     have HN5 := Lib.hid (HN4.out.below hb5)
     clear hb5
     refine hKQ.out _ _ ?_ (fun hHeld => ?_)
     · exact range_new HN5.out
     clear hKQ KQ
     refine wpAnyH_take (i := 9) (v := ?v5) rfl (by kernel_rfl) (by kernel_rfl) (by kernel_rfl) (fun _ _ _ h => h) (Or.inl ⟨by rfl, ?hy5⟩) (by assumption) ?rest5
     case hy5 => (intro w0 hSw; go_simp; try with_reducible rfl)
     try simp only [Act.put, List.setIfInBounds_toArray, List.set_cons_zero, List.set_cons_succ]
     refine wpAnyH_done (by kernel_rfl) ?_ _
     change wpList _ _ _ _ _ _
     clear hHeld
     go_wp2_with fail
     go_ret
     exact ⟨rfl, HB5.out⟩
 · have hc' : (c != 0) = true := by simp [hc]
   simp only [if_neg hc] at HTK HRT
   clear hc
   by_cases hbig : 20000 < z.size
   · have hbig' : (z.size : Int) > 20000 := by omega
     go_enter Tryz.func4, Tryz.ntmps4
     go_upto_region 1 with fail
     rw [HNN.out, HW0.out]
     go_wp2_with fail
     refine HTK.out.mono ?_
     rintro e w1 ⟨rfl, hb1⟩
     have HB1 := Lib.hid (below_on' HB0.out hb1)
     have HR1 := Lib.hid (HRT.out w1)
     clear hb1 HTK HRT b0 b1 b2 b3 b4 b5 b6
     go_wp2_with fail
     refine HR1.out.mono ?_
     rintro e w2 ⟨rfl, hb2⟩
     have HB2 := Lib.hid (below_on' HB1.out hb2)
     have HW2 := Lib.hid (HWK.out w2 HB2.out)
     clear hb2 HWK
     go_wp2_with fail
     refine HW2.out.mono ?_
     rintro e w3 ⟨rfl, hb3⟩
     have HB3 := Lib.hid (below_on' HB2.out hb3)
     clear hb3
     go_wp2_with fail
     go_ret
     exact ⟨rfl, HB3.out⟩
   · have hbig' : ¬ (z.size : Int) > 20000 := by omega
     go_enter Tryz.func4, Tryz.ntmps4
     go_upto_region 1 with fail
     rw [HNN.out, HW0.out]
     go_wp2_with fail
     refine HTK.out.mono ?_
     rintro e w1 ⟨rfl, hb1⟩
     have HB1 := Lib.hid (below_on' HB0.out hb1)
     have HN1 := Lib.hid (HNB.out.below hb1)
     have HR1 := Lib.hid (HRT.out w1)
     clear hb1 HTK HRT b0 b1 b2 b3 b4 b5 b6
     go_wp2_with fail
     refine HR1.out.mono ?_
     rintro e w2 ⟨rfl, hb2⟩
     have HB2 := Lib.hid (below_on' HB1.out hb2)
     obtain ⟨b0, b1, b2, b3, b4, b5, b6⟩ := (HN1.out.below hb2).facts
     dsimp only at b0 b1 b2 b3 b4 b5 b6
     have HF2 := Lib.hid (HFN.out w2 HB2.out)
     clear hb2 HFN
     go_wp2_with fail
     refine HF2.out.mono ?_
     rintro e w3 ⟨rfl, hb3⟩
     have HB3 := Lib.hid (below_on' HB2.out hb3)
     have HW3 := Lib.hid (HWK.out w3 HB3.out)
     clear hb3 HWK b0 b1 b2 b3 b4 b5 b6
     go_wp2_with fail
     refine HW3.out.mono ?_
     rintro e w4 ⟨rfl, hb4⟩
     have HB4 := Lib.hid (below_on' HB3.out hb4)
     clear hb4
     go_wp2_with fail
     go_ret
     exact ⟨rfl, HB4.out⟩
end Go.Proofs.YtepdecnegihhhaaGreatDoor.idl
