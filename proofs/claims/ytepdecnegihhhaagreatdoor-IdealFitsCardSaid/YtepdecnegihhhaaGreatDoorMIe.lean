/- The ideal of the job that puts numbers together: Load without states, New. New; what Load refuses. What Load refuses of states. -/
import Derived.Test.YtepdecnegihhhaaGreatDoorIdP
set_option linter.unusedSimpArgs false
set_option linter.unusedVariables false
namespace Go.Proofs.YtepdecnegihhhaaGreatDoor.idl
section
open Go.RowKit nam exp jb
open tbl (IsTab lt_of_get)
attribute [local go_sem ↓] Go.wp_at_zero Go.wp_at_succ
theorem node_nv {w : World} {b o : Nat} {nd : Nd} (h : NodeAt w b o nd) : ∃ ia ic xa xc, w.cell? ⟨b, o, none⟩ = some (.string nd.uid) ∧ w.cell? ⟨b, o + 1, none⟩ = some (.int .u8 (nd.kind : Int)) ∧ w.cell? ⟨b, o + 2, none⟩ = some (.slice ia nd.ins.length ic) ∧
  w.cell? ⟨b, o + 3, none⟩ = some (.int .u8 (nd.x.op : Int)) ∧ w.cell? ⟨b, o + 4, none⟩ = some (.int .i64 nd.x.n) ∧ w.cell? ⟨b, o + 5, none⟩ = some (.slice xa nd.x.args.length xc) ∧ w.cell? ⟨b, o + 6, none⟩ = some (.int .i64 nd.n) ∧
  IRow w (.slice ia nd.ins.length ic) nd.ins ∧ Lies w Any (.slice xa nd.x.args.length xc) nd.x.args := by
 obtain ⟨_, vi, va, h1, h2, h3, h4, h5, h6, h7, h8, h9⟩ := h
 obtain ⟨ia, ic, rfl, -⟩ := id h8
 obtain ⟨xa, xc, rfl, -⟩ := h9.form
 exact ⟨ia, ic, xa, xc, h1, h2, h3, h4, h5, h6, h7, h8, h9⟩
structure Three (w : World) (b : Nat) (ia0 ia1 ia2 xa0 xa1 xa2 : Option Addr) (ic0 ic1 ic2 xc0 xc1 xc2 : Nat) : Prop where
 n0 : w.cell? ⟨b, 0, none⟩ = some (.string ⟨#[115]⟩) ∧ w.cell? ⟨b, 1, none⟩ = some (.int .u8 1) ∧ w.cell? ⟨b, 2, none⟩ = some (.slice ia0 0 ic0) ∧ w.cell? ⟨b, 3, none⟩ = some (.int .u8 0) ∧ w.cell? ⟨b, 4, none⟩ = some (.int .i64 0) ∧ w.cell? ⟨b, 5, none⟩ = some (.slice xa0 0 xc0) ∧ w.cell? ⟨b, 6, none⟩ = some (.int .i64 0)
 n1 : w.cell? ⟨b, 7, none⟩ = some (.string ⟨#[114]⟩) ∧ w.cell? ⟨b, 8, none⟩ = some (.int .u8 6) ∧ w.cell? ⟨b, 9, none⟩ = some (.slice ia1 1 ic1) ∧ w.cell? ⟨b, 10, none⟩ = some (.int .u8 7) ∧ w.cell? ⟨b, 11, none⟩ = some (.int .i64 0) ∧ w.cell? ⟨b, 12, none⟩ = some (.slice xa1 2 xc1) ∧ w.cell? ⟨b, 13, none⟩ = some (.int .i64 0)
 n2 : w.cell? ⟨b, 14, none⟩ = some (.string ⟨#[116]⟩) ∧ w.cell? ⟨b, 15, none⟩ = some (.int .u8 9) ∧ w.cell? ⟨b, 16, none⟩ = some (.slice ia2 1 ic2) ∧ w.cell? ⟨b, 17, none⟩ = some (.int .u8 0) ∧ w.cell? ⟨b, 18, none⟩ = some (.int .i64 0) ∧ w.cell? ⟨b, 19, none⟩ = some (.slice xa2 0 xc2) ∧ w.cell? ⟨b, 20, none⟩ = some (.int .i64 0)
 i1 : IRow w (.slice ia1 1 ic1) [0]
 i2 : IRow w (.slice ia2 1 ic2) [1]
 x1 : Lies w Any (.slice xa1 2 xc1) [⟨4, 0, []⟩, ⟨3, 0, []⟩]
 lt : b < w.heap.size
theorem three_of {w : World} {a : Option Addr} {c : Nat} (h : Nodes w (.slice a 3 c) sumsN) : ∃ b ia0 ia1 ia2 xa0 xa1 xa2 ic0 ic1 ic2 xc0 xc1 xc2, a = some ⟨b, 0, none⟩ ∧ Three w b ia0 ia1 ia2 xa0 xa1 xa2 ic0 ic1 ic2 xc0 xc1 xc2 := by
 obtain ⟨a', c', e, -, hn⟩ := h
 injection e with e1 e2 e3
 subst e1 e3
 obtain ⟨b, rfl, hk⟩ := hn (by decide)
 obtain ⟨ia0, ic0, xa0, xc0, p0, p1, p2, p3, p4, p5, p6, p7, p8⟩ := node_nv (hk 0 (by decide))
 obtain ⟨ia1, ic1, xa1, xc1, q0, q1, q2, q3, q4, q5, q6, q7, q8⟩ := node_nv (hk 1 (by decide))
 obtain ⟨ia2, ic2, xa2, xc2, r0, r1, r2, r3, r4, r5, r6, r7, r8⟩ := node_nv (hk 2 (by decide))
 exact ⟨b, ia0, ia1, ia2, xa0, xa1, xa2, ic0, ic1, ic2, xc0, xc1, xc2, rfl, ⟨⟨p0, p1, p2, p3, p4, p5, p6⟩, ⟨q0, q1, q2, q3, q4, q5, q6⟩, ⟨r0, r1, r2, r3, r4, r5, r6⟩, q7, r7, q8, (hk 0 (by decide)).1⟩⟩
theorem Three.on {w w' : World} {b : Nat} {ia0 ia1 ia2 xa0 xa1 xa2 : Option Addr} {ic0 ic1 ic2 xc0 xc1 xc2 : Nat} (h : Three w b ia0 ia1 ia2 xa0 xa1 xa2 ic0 ic1 ic2 xc0 xc1 xc2) (hb : Below w.heap.size w w') : Three w' b ia0 ia1 ia2 xa0 xa1 xa2 ic0 ic1 ic2 xc0 xc1 xc2 := by
 have hl := h.lt
 have tc : ∀ {k : Nat} {z : Value}, w.cell? ⟨b, k, none⟩ = some z → w'.cell? ⟨b, k, none⟩ = some z := fun {k z} hz => (hb.cell (p := ⟨b, k, none⟩) hl).trans hz
 obtain ⟨⟨p0, p1, p2, p3, p4, p5, p6⟩, ⟨q0, q1, q2, q3, q4, q5, q6⟩, ⟨r0, r1, r2, r3, r4, r5, r6⟩, i1, i2, x1, _⟩ := h
 exact ⟨⟨tc p0, tc p1, tc p2, tc p3, tc p4, tc p5, tc p6⟩, ⟨tc q0, tc q1, tc q2, tc q3, tc q4, tc q5, tc q6⟩, ⟨tc r0, tc r1, tc r2, tc r3, tc r4, tc r5, tc r6⟩, i1.on hb, i2.on hb, x1.under hb, by have := hb.size; omega⟩
set_option maxHeartbeats 3200000 in
set_option maxRecDepth 1000000 in
theorem load_sums {w : World} (ht : Tab w) {a : Option Addr} {c : Nat} (h : Nodes w (.slice a 3 c) sumsN) :
  Calls Tryz.prog 11 #[.agg #[.int .i64 2, .slice a 3 c], .slice none 0 0] w fun e w' => ∃ d t b, e = .returned (.tuple #[.pointer (some ⟨d, 0, none⟩), .int .i64 0]) ∧ IsSums w.heap.size w' d t b [] ∧ Below w.heap.size w w' := by
 have hmm := @run_makeMap Tryz.prog
 obtain ⟨W, hW⟩ : ∃ W, w.alloc (.cells #[.int .i64 2, .slice a 3 c] 28) = W := ⟨_, rfl⟩
 have hwb : Below w.heap.size w W := by rw [← hW]; exact below_made _ _
 obtain ⟨c0, c1⟩ := box2 hW
 obtain ⟨N, hN⟩ : ∃ N, w.heap.size = N := ⟨_, rfl⟩
 have hm0 := may_job 2 (ht.on hwb) (h.on hwb)
 rw [may_sums] at hm0
 have HM : Hid (Calls Tryz.prog 23 #[.agg #[.int .i64 2, .slice a 3 c]] W fun e w' => e = .returned (.tuple #[.int .i64 0, .int .i64 0]) ∧ Below W.heap.size W w') := Lib.hid hm0
 have HAP := Lib.hid (fun W' (hb : Below w.heap.size w W') => apart_nodes (h.on hb) (by decide) sums_small)
 have HT := Lib.hid (fun W' (hb : Below w.heap.size w W') => ht.on hb)
 have HB := Lib.hid hwb
 have HJC := Lib.hid (show W.heap[N]? = some (.cells #[.int .i64 2, .slice a 3 c] 28 (0, 0)) by rw [← hW]; exact heap_last hN.symm)
 rw [hN] at c0 c1
 have HNN := Lib.hid hN; have HWW := Lib.hid hW
 have HS : Hid (∀ W', Tab W' → Calls Tryz.prog 27 #[.int .u8 1] W' fun e w' => e = .returned (.bool false) ∧ Below W'.heap.size W' w') := Lib.hid (fun W' h => stateful_any h 1)
 have HS6 : Hid (∀ W', Tab W' → Calls Tryz.prog 27 #[.int .u8 6] W' fun e w' => e = .returned (.bool true) ∧ Below W'.heap.size W' w') := Lib.hid (fun W' h => stateful_any h 6)
 have HS9 : Hid (∀ W', Tab W' → Calls Tryz.prog 27 #[.int .u8 9] W' fun e w' => e = .returned (.bool false) ∧ Below W'.heap.size W' w') := Lib.hid (fun W' h => stateful_any h 9)
 have HNEW := Lib.hid (fun w => tbl.new_any w)
 clear ht h hwb hm0 hN hW
 go_enter Tryz.func11, Tryz.ntmps11
 go_upto_region 1 with fail
 rw [HNN.out, HWW.out]
 go_wp2_with fail
 refine HM.out.mono ?_
 rintro e w1 ⟨rfl, hb1⟩
 have c1' := cell_on c1 hb1
 have HB1 : Hid (Below w.heap.size w w1) := Lib.hid (HB.out.trans (hb1.mono HB.out.size))
 have HA1 := Lib.hid (HAP.out w1 HB1.out)
 clear hb1 c0 c1
 go_wp2_with fail
 refine HA1.out.mono ?_
 rintro e w2 ⟨v2, rfl, hn2, hb2⟩
 obtain ⟨a2, cc2, rfl, -⟩ := id hn2
 rw [show sumsN.length = 3 from rfl] at hn2 ⊢
 obtain ⟨m, hm⟩ : ∃ m, w2.heap.size = m := ⟨_, rfl⟩
 obtain ⟨W3, hW3⟩ : ∃ W3, (w2.alloc (.map #[] 0)).alloc (.cells #[.slice a2 3 cc2, .map (some m)] 63) = W3 := ⟨_, rfl⟩
 have hb3 : Below w2.heap.size w2 W3 := by rw [← hW3]; exact (below_made _ _).alloc (by simp) _
 have hid3 : IsId w2 W3 (m + 1) m 0 a2 cc2 (fun _ => none) := by
  refine ⟨hn2, hb3, ?_, ?_, by omega⟩
  · rw [← hW3]; exact heap_last (by simp [hm])
  · rw [← hW3, ← hm]; exact (PtM.made w2).below (below_made _ _)
 obtain ⟨b2, ia0, ia1, ia2, xa0, xa1, xa2, ic0, ic1, ic2, xc0, xc1, xc2, rfl, h3⟩ := three_of hn2
 have HTH := Lib.hid h3
 have HB2 : Hid (Below w.heap.size w w2) := Lib.hid (HB1.out.trans (hb2.mono HB1.out.size))
 have HI3 := Lib.hid hid3
 have HB3 := Lib.hid hb3
 have HMM := Lib.hid hm; have HW3 := Lib.hid hW3
 clear hn2 hb2 hm hW3 hb3 hid3 h3 c1' HM HAP HA1
 go_upto_region 5 with fail
 rw [HMM.out, HW3.out]
 go_wp2_with fail
 refine wp_loop_rounds 1 ?_
 rw [rounds_succ]
 have d0 := HI3.out.cells
 obtain ⟨d0, d1⟩ := d0
 go_wp2_with fail
 clear d0 d1
 have HBW3 : Hid (Below w.heap.size w W3) := Lib.hid (HB2.out.trans (HB3.out.mono HB2.out.size))
 obtain ⟨p0, p1, p2, p3, p4, p5, p6⟩ := (HTH.out.on HB3.out).n0
 obtain ⟨WA, hWA⟩ : ∃ WA, W3.alloc (.cells #[.string ⟨#[115]⟩, .int .u8 1, .slice ia0 0 ic0, .int .u8 0, .int .i64 0, .slice xa0 0 xc0, .int .i64 0] 48) = WA := ⟨_, rfl⟩
 have hba : Below W3.heap.size W3 WA := by rw [← hWA]; exact below_made _ _
 have HIA := Lib.hid (HI3.out.below hba)
 have HBA : Hid (Below w.heap.size w WA) := Lib.hid (HBW3.out.trans (hba.mono HBW3.out.size))
 obtain ⟨QA, hQA⟩ : ∃ Q, W3.heap.size = Q := ⟨_, rfl⟩
 have q1 : WA.cell? ⟨QA, 1, none⟩ = some (.int .u8 1) := by rw [← hWA]; exact cell_of (heap_last hQA.symm) rfl
 have HSA := Lib.hid (HS.out WA (HT.out WA HBA.out))
 have HWA := Lib.hid hWA; have HQA := Lib.hid hQA
 clear hWA hba hQA
 refine wp_loop_rounds 4 ?_
 rw [rounds_succ]
 go_upto_region 15 with fail
 rw [HQA.out, HWA.out]
 clear p0 p1 p2 p3 p4 p5 p6
 go_wp2_with fail
 refine HSA.out.mono ?_
 rintro e w4 ⟨rfl, hb4⟩
 have HI4 := Lib.hid (HIA.out.below hb4)
 have HB4 : Hid (Below w.heap.size w w4) := Lib.hid (HBA.out.trans (hb4.mono HBA.out.size))
 clear hb4 q1
 go_wp2_with fail
 rw [rounds_succ]
 obtain ⟨p0, p1, p2, p3, p4, p5, p6⟩ := (HTH.out.on HI4.out.bel).n1
 obtain ⟨WC, hWC⟩ : ∃ WC, w4.alloc (.cells #[.string ⟨#[114]⟩, .int .u8 6, .slice ia1 1 ic1, .int .u8 7, .int .i64 0, .slice xa1 2 xc1, .int .i64 0] 48) = WC := ⟨_, rfl⟩
 have hbc : Below w4.heap.size w4 WC := by rw [← hWC]; exact below_made _ _
 have HIC := Lib.hid (HI4.out.below hbc)
 have HBC : Hid (Below w.heap.size w WC) := Lib.hid (HB4.out.trans (hbc.mono HB4.out.size))
 obtain ⟨QC, hQC⟩ : ∃ Q, w4.heap.size = Q := ⟨_, rfl⟩
 have q1 : WC.cell? ⟨QC, 1, none⟩ = some (.int .u8 6) := by rw [← hWC]; exact cell_of (heap_last hQC.symm) rfl
 have HSC := Lib.hid (HS6.out WC (HT.out WC HBC.out))
 have HWC := Lib.hid hWC; have HQC := Lib.hid hQC
 clear hWC hbc hQC
 go_upto_region 15 with fail
 rw [HQC.out, HWC.out]
 clear p0 p1 p2 p3 p4 p5 p6
 go_wp2_with fail
 refine HSC.out.mono ?_
 rintro e w5 ⟨rfl, hb5⟩
 have HI5 := Lib.hid (HIC.out.below hb5)
 have HB5 : Hid (Below w.heap.size w w5) := Lib.hid (HBC.out.trans (hb5.mono HBC.out.size))
 clear hb5 q1
 obtain ⟨e0, e1⟩ := HI5.out.cells
 have hlk := HI5.out.map.look (k := 1) ⟨by decide, by decide⟩
 unfold ptrV at hlk
 dsimp only at hlk
 go_upto_region 16 with fail
 refine dsk.wp_region_peel2 (by kernel_rfl) (by simp only [List.dropLast_cons_cons, List.dropLast_singleton]; exact rfl) rfl (by kernel_rfl) ?_
 refine wpAny_of_held (S := fun w' => w'.cell? ⟨m + 1, 1, none⟩ = some (.map (some m))) _ _ _ _ ?_
 have hHeld := (show w5.drew.cell? ⟨m + 1, 1, none⟩ = some (.map (some m)) from HI5.out.cells.2)
 refine wpAnyH_take (i := 0) (v := ?v1) rfl (by kernel_rfl) (by kernel_rfl) (by kernel_rfl) (fun _ _ _ h => h) (Or.inl ⟨by rfl, ?hy1⟩) (by assumption) ?rest1
 case hy1 => (intro w0 hSw; (try dsimp only at hSw); go_simp; try with_reducible rfl)
 try simp only [Act.put, List.getElem_toArray, List.getElem_cons_zero, List.getElem_cons_succ, List.setIfInBounds_toArray, List.set_cons_zero, List.set_cons_succ]
 refine wpAnyH_take (i := 1) (v := ?v2) rfl (by kernel_rfl) (by kernel_rfl) (by kernel_rfl) (fun _ _ _ h => h) (Or.inl ⟨by rfl, ?hy2⟩) (by assumption) ?rest2
 case hy2 => (intro w0 hSw; (try dsimp only at hSw); go_simp; try with_reducible rfl)
 try simp only [Act.put, List.getElem_toArray, List.getElem_cons_zero, List.getElem_cons_succ, List.setIfInBounds_toArray, List.set_cons_zero, List.set_cons_succ]
 refine wpAnyH_take (i := 2) (v := ?v3) rfl (by kernel_rfl) (by kernel_rfl) (by kernel_rfl) (fun _ _ _ h => h) (Or.inl ⟨by rfl, ?hy3⟩) (by assumption) ?rest3
 case hy3 => (intro w0 hSw; (try dsimp only at hSw); go_simp; try with_reducible rfl)
 try simp only [Act.put, List.getElem_toArray, List.getElem_cons_zero, List.getElem_cons_succ, List.setIfInBounds_toArray, List.set_cons_zero, List.set_cons_succ]
 refine wpAnyH_take (i := 3) (v := ?v4) rfl (by kernel_rfl) (by kernel_rfl) (by kernel_rfl) (fun _ _ _ h => h) (Or.inl ⟨by rfl, ?hy4⟩) (by assumption) ?rest4
 case hy4 => (intro w0 hSw; (try dsimp only at hSw); go_simp; try with_reducible rfl)
 try simp only [Act.put, List.getElem_toArray, List.getElem_cons_zero, List.getElem_cons_succ, List.setIfInBounds_toArray, List.set_cons_zero, List.set_cons_succ]
 refine wpAnyH_take (i := 4) (v := ?v5) rfl (by kernel_rfl) (by kernel_rfl) (by kernel_rfl) (fun _ _ _ h => h) (Or.inl ⟨by rfl, ?hy5⟩) (by assumption) ?rest5
 case hy5 => (intro w0 hSw; (try dsimp only at hSw); go_simp; try with_reducible rfl)
 try simp only [Act.put, List.getElem_toArray, List.getElem_cons_zero, List.getElem_cons_succ, List.setIfInBounds_toArray, List.set_cons_zero, List.set_cons_succ]
 refine wpAnyH_ready (rs := [5]) (by kernel_rfl) (by simp) ?_
 refine AllReadyH.cons rfl (fun KQ hKQ => ?_) AllReadyH.nil
 go_simp
 refine (HNEW.out _).mono ?_
 rintro e w6 ⟨t, b, rfl, htb, hlt, hlb, hb6⟩
 have hb6d : Below w5.heap.size w5 w6 := ⟨hb6.os, hb6.tape, hb6.output, hb6.size, hb6.block⟩
 have HI6 := Lib.hid (HI5.out.below hb6d)
 have HT6 := Lib.hid htb
 have HB6 : Hid (Below w.heap.size w w6) := Lib.hid (HB5.out.trans (hb6d.mono HB5.out.size))
 have HLT : Hid (w5.heap.size ≤ t ∧ w5.heap.size ≤ b) := Lib.hid ⟨hlt, hlb⟩
 clear htb hlt hlb hb6 hb6d
 refine hKQ.out _ _ ?_ (fun hHeld => ?_)
 · exact HI6.out.cells.2
 clear hKQ KQ
 try simp only [Act.put, List.getElem_toArray, List.getElem_cons_zero, List.getElem_cons_succ, List.setIfInBounds_toArray, List.set_cons_zero, List.set_cons_succ]
 refine wpAnyH_done (by kernel_rfl) ?_ _
 change wpList _ _ _ _ _ _
 clear hHeld
 obtain ⟨w7, hst, hm7, hg7⟩ := HI6.out.map.store (by omega) (k := 1) ⟨by decide, by decide⟩ t
 have HLM : Hid (m < w5.heap.size) := Lib.hid HI5.out.map.lt
 have HD7 : Hid (w7.heap[m + 1]? = w6.heap[m + 1]?) := Lib.hid (hg7.block _ (lt_of_get HI6.out.obj) (fun e => by simp at e))
 have hlw : w2.heap.size ≤ w5.heap.size := HI5.out.bel.size
 have HI7 : Hid (IsId w2 w7 (m + 1) m (0 + 1) (some ⟨b2, 0, none⟩) cc2 (oneT t)) := Lib.hid ⟨HI6.out.nodes, HI6.out.bel.grown hg7 HI6.out.bel.size (fun j hj => by obtain rfl := Option.some.inj hj; exact HI6.out.lo.2), HD7.out.trans HI6.out.obj, hm7, HI6.out.lo⟩
 have HT7 : Hid (IsTab w7 t b []) := Lib.hid (by
  have h1 := HT6.out.lt
  have h2 := HLT.out; have h3 := HLM.out
  have k : ∀ j, j < w6.heap.size → j ≠ m → w7.heap[j]? = w6.heap[j]? := fun j hj hne => hg7.block j hj (fun e => hne (Option.some.inj e))
  refine HT6.out.keep (k t h1.1 (by omega)) (k b h1.2.1 (by omega)) (fun g cur fr hg => ?_)
  obtain ⟨es, ck, hmm⟩ := HI6.out.map.isMap
  exact (k g (lt_of_get hg) (fun e => by rw [e, hmm] at hg; cases hg)).trans hg)
 have HB7 : Hid (Below w.heap.size w w7) := Lib.hid (HB6.out.grown hg7 HB6.out.size (fun j hj => by obtain rfl := Option.some.inj hj; have := HI6.out.lo.2; have := HB2.out.size; omega))
 clear hm7 hg7 hlw e0 e1 hlk
 go_wp2_with fail
 rw [rounds_succ]
 obtain ⟨p0, p1, p2, p3, p4, p5, p6⟩ := (HTH.out.on HI7.out.bel).n2
 obtain ⟨WE, hWE⟩ : ∃ WE, w7.alloc (.cells #[.string ⟨#[116]⟩, .int .u8 9, .slice ia2 1 ic2, .int .u8 0, .int .i64 0, .slice xa2 0 xc2, .int .i64 0] 48) = WE := ⟨_, rfl⟩
 have hbe : Below w7.heap.size w7 WE := by rw [← hWE]; exact below_made _ _
 have HIE := Lib.hid (HI7.out.below hbe)
 have HTE := Lib.hid (HT7.out.below hbe)
 have HBE : Hid (Below w.heap.size w WE) := Lib.hid (HB7.out.trans (hbe.mono HB7.out.size))
 obtain ⟨QE, hQE⟩ : ∃ Q, w7.heap.size = Q := ⟨_, rfl⟩
 have q1 : WE.cell? ⟨QE, 1, none⟩ = some (.int .u8 9) := by rw [← hWE]; exact cell_of (heap_last hQE.symm) rfl
 have HSE := Lib.hid (HS9.out WE (HT.out WE HBE.out))
 have HWE := Lib.hid hWE; have HQE := Lib.hid hQE
 clear hWE hbe hQE
 go_upto_region 15 with fail
 rw [HQE.out, HWE.out]
 clear p0 p1 p2 p3 p4 p5 p6
 go_wp2_with fail
 refine HSE.out.mono ?_
 rintro e w8 ⟨rfl, hb8⟩
 have HF : Hid (IsSums w.heap.size w8 (m + 1) t b [] ∧ Below w.heap.size w w8) := Lib.hid ⟨⟨⟨w2, m, _, _, _, HIE.out.below hb8, by have := HLT.out; have := HLM.out; omega, by have := HLT.out; have := HI5.out.bel.size; omega, by have := HLT.out; have := HI5.out.bel.size; omega, HB2.out.size⟩, HTE.out.below hb8⟩, HBE.out.trans (hb8.mono HBE.out.size)⟩
 clear hb8 q1
 go_wp2_with fail
 rw [rounds_succ]
 go_wp2_with fail
 go_ret2
 exact ⟨m + 1, t, b, rfl, HF.out⟩
end
section
open Go.RowKit nam exp jb
open tbl (IsTab lt_of_get takeT TakePost)
attribute [local go_sem ↓] Go.wp_at_zero Go.wp_at_succ
set_option maxRecDepth 1000000 in
theorem load_none {w : World} (ht : Tab w) : Calls Tryz.prog 11 #[.agg #[.int .i64 0, .slice none 0 0], .slice none 0 0] w fun e w' => e = .returned (.tuple #[.pointer none, .int .i64 2]) ∧ Below w.heap.size w w' := by
 obtain ⟨W, hW⟩ : ∃ W, w.alloc (.cells #[.int .i64 0, .slice none 0 0] 28) = W := ⟨_, rfl⟩
 have hwb : Below w.heap.size w W := by rw [← hW]; exact below_made _ _
 obtain ⟨c0, c1⟩ := box2 hW
 have hn0 : Nodes W (.slice none 0 0) [] := ⟨none, 0, rfl, Nat.le_refl _, fun h => by simp at h⟩
 have hm0 := may_job 0 (ht.on hwb) hn0
 rw [may_none] at hm0
 have HM : Hid (Calls Tryz.prog 23 #[.agg #[.int .i64 0, .slice none 0 0]] W fun e w' => e = .returned (.tuple #[.int .i64 0, .int .i64 2]) ∧ Below W.heap.size W w') := Lib.hid hm0
 have HB := Lib.hid hwb
 obtain ⟨N, hN⟩ : ∃ N, w.heap.size = N := ⟨_, rfl⟩
 rw [hN] at c0 c1
 have HNN := Lib.hid hN; have HWW := Lib.hid hW
 clear ht hwb hn0 hm0 hN hW
 go_enter Tryz.func11, Tryz.ntmps11
 go_upto_region 1 with fail
 rw [HNN.out, HWW.out]
 go_wp2_with fail
 refine HM.out.mono ?_
 rintro e w1 ⟨rfl, hb1⟩
 have HB1 := Lib.hid (HB.out.trans (hb1.mono HB.out.size))
 clear hb1 c0 c1
 go_wp2_with fail
 go_ret2
 exact ⟨rfl, HB1.out⟩
set_option maxRecDepth 1000000 in
theorem new_none {w : World} (ht : Tab w) : Calls Tryz.prog 5 #[.agg #[.int .i64 0, .slice none 0 0]] w fun e w' => e = .returned (.tuple #[.pointer none, .int .i64 2]) ∧ Below w.heap.size w w' := by
 have hb := below_made w (.cells #[.int .i64 0, .slice none 0 0] 28)
 obtain ⟨c0, c1⟩ := @box2 w _ (.int .i64 0) (.slice none 0 0) 28 rfl
 have HL := Lib.hid (load_none (ht.on hb))
 have HB := Lib.hid hb
 clear ht hb
 go_enter Tryz.func5, Tryz.ntmps5
 go_wp2_with fail
 refine HL.out.mono ?_
 rintro e w1 ⟨rfl, hb1⟩
 have HB1 := Lib.hid (HB.out.trans (hb1.mono HB.out.size))
 clear hb1
 go_wp2_with fail
 go_ret2
 exact ⟨rfl, HB1.out⟩
set_option maxRecDepth 1000000 in
theorem new_sums {w : World} (ht : Tab w) {a : Option Addr} {c : Nat} (h : Nodes w (.slice a 3 c) sumsN) :
  Calls Tryz.prog 5 #[.agg #[.int .i64 2, .slice a 3 c]] w fun e w' => ∃ d t b, e = .returned (.tuple #[.pointer (some ⟨d, 0, none⟩), .int .i64 0]) ∧ IsSums w.heap.size w' d t b [] ∧ Below w.heap.size w w' := by
 have hb := below_made w (.cells #[.int .i64 2, .slice a 3 c] 28)
 obtain ⟨c0, c1⟩ := @box2 w _ (.int .i64 2) (.slice a 3 c) 28 rfl
 have HL := Lib.hid (load_sums (ht.on hb) (h.on hb))
 have HB := Lib.hid hb
 clear ht hb h
 go_enter Tryz.func5, Tryz.ntmps5
 go_wp2_with fail
 refine HL.out.mono ?_
 rintro e w1 ⟨d, t, b, rfl, ⟨⟨w0, m, n, a1, c1, g1, g2, g3, g4, g5⟩, g6⟩, hb1⟩
 have HF : Hid (IsSums w.heap.size w1 d t b [] ∧ Below w.heap.size w w1) := Lib.hid ⟨⟨⟨w0, m, n, a1, c1, g1, g2, g3, g4, by have := HB.out.size; omega⟩, g6⟩, HB.out.trans (hb1.mono HB.out.size)⟩
 clear hb1 g1 g2 g3 g4 g5 g6
 go_wp2_with fail
 go_ret2
 exact ⟨d, t, b, rfl, HF.out⟩
theorem made_sums {w : World} (hk : sc.KTab w) (ht : Tab w) : Calls Tryz.prog 6 #[.string sumsT] w fun e w' => ∃ a c, e = .returned (.agg #[.int .i64 2, .slice a 3 c]) ∧ Nodes w' (.slice a 3 c) sumsN ∧ Below w.heap.size w w' := by
 obtain ⟨W, hW⟩ : ∃ W, w.alloc (.cells #[.int .i64 0, .slice none 0 0] 28) = W := ⟨_, rfl⟩
 have hb : Below w.heap.size w W := by rw [← hW]; exact below_made _ _
 have hp := parse_of parse_sums (hk.on hb) (ht.on hb)
 have HP : Hid (Calls Tryz.prog 18 #[.string sumsT] W fun e w' => ∃ a c, e = .returned (.tuple #[.agg #[.int .i64 2, .slice a 3 c], .int .i64 0, .int .i64 0]) ∧ sc.NodesJ w' (.slice a 3 c) sumsN ∧ Below W.heap.size W w') := Lib.hid hp
 obtain ⟨N, hN⟩ : ∃ N, w.heap.size = N := ⟨_, rfl⟩
 have HZ := Lib.hid (show W.heap[N]? = some (.cells #[.int .i64 0, .slice none 0 0] 28 (0, 0)) by rw [← hW]; exact heap_last hN.symm)
 have HB := Lib.hid hb
 have HNN := Lib.hid hN; have HWW := Lib.hid hW
 obtain ⟨TT, hTT⟩ : ∃ T, sumsT = T := ⟨_, rfl⟩
 rw [hTT] at HP ⊢
 clear hk ht hb hp hN hW hTT
 go_enter Tryz.func6, Tryz.ntmps6
 go_upto_region 1 with fail
 rw [HNN.out, HWW.out]
 go_wp2_with fail
 refine HP.out.mono ?_
 rintro e w1 ⟨a, c, rfl, hn, hb1⟩
 have hz1 := (hb1.block N (lt_of_get HZ.out)).trans HZ.out
 have hbx := below_made w1 (.cells #[.int .i64 2, .slice a 3 c] 28)
 obtain ⟨x0, x1⟩ := @box2 w1 _ (.int .i64 2) (.slice a 3 c) 28 rfl
 obtain ⟨W2, hW2⟩ : ∃ W, w1.alloc (.cells #[.int .i64 2, .slice a 3 c] 28) = W := ⟨_, rfl⟩
 rw [hW2] at x0 x1 hbx
 have hz2 := (hbx.block N (lt_of_get hz1)).trans hz1
 have z0 : W2.cell? ⟨N, 0, none⟩ = some (.int .i64 0) := cell_of hz2 rfl
 have z1 : W2.cell? ⟨N, 1, none⟩ = some (.slice none 0 0) := cell_of hz2 rfl
 have f0 : W2.frozen? ⟨N, 0, none⟩ = false := by simp [World.frozen?, hz2]
 have f1 : W2.frozen? ⟨N, 1, none⟩ = false := by simp [World.frozen?, hz2]
 have hz3 : ((W2.setCell ⟨N, 0, none⟩ (.int .i64 2)).setCell ⟨N, 1, none⟩ (.slice a 3 c)).heap[N]? = some (.cells #[.int .i64 2, .slice a 3 c] 28 (0, 0)) := sc.setCell_heap (sc.setCell_heap hz2)
 have HZ3 := Lib.hid hz3
 have hb2 : Below w.heap.size w W2 := (HB.out.trans (hb1.mono HB.out.size)).trans (hbx.mono (Nat.le_trans HB.out.size hb1.size))
 have HF : Hid (Nodes ((W2.setCell ⟨N, 0, none⟩ (.int .i64 2)).setCell ⟨N, 1, none⟩ (.slice a 3 c)) (.slice a 3 c) sumsN ∧ Below w.heap.size w ((W2.setCell ⟨N, 0, none⟩ (.int .i64 2)).setCell ⟨N, 1, none⟩ (.slice a 3 c))) := Lib.hid ⟨hn _ (fun k cc tt fr hk hne => by
   have h1 := (hbx.block k (lt_of_get hk)).trans hk
   exact sc.frameJ_set (sc.setCell_heap hz2) k cc tt fr (sc.frameJ_set hz2 k cc tt fr h1 hne) hne), (hb2.setCell (p := ⟨N, 0, none⟩) (by show w.heap.size ≤ N; have := HNN.out; omega) _).setCell (p := ⟨N, 1, none⟩) (by show w.heap.size ≤ N; have := HNN.out; omega) _⟩
 have HW2 := Lib.hid hW2
 clear hn hb1 hz1 hbx hz2 hb2 hz3 hW2
 go_upto_region 2 with fail
 rw [HW2.out]
 go_wp2_with fail
 obtain ⟨e0, e1⟩ : ((W2.setCell ⟨N, 0, none⟩ (.int .i64 2)).setCell ⟨N, 1, none⟩ (.slice a 3 c)).cell? ⟨N, 0, none⟩ = some (.int .i64 2) ∧ ((W2.setCell ⟨N, 0, none⟩ (.int .i64 2)).setCell ⟨N, 1, none⟩ (.slice a 3 c)).cell? ⟨N, 1, none⟩ = some (.slice a 3 c) := ⟨cell_of HZ3.out rfl, cell_of HZ3.out rfl⟩
 exact bodyPost_ret (v := .agg #[.int .i64 2, .slice a 3 c]) (by simp [results, Tryz.f6, go_sem, e0, e1]) rfl ⟨a, c, rfl, HF.out⟩
end
section
open Go.RowKit nam exp jb
open tbl (IsTab lt_of_get takeT TakePost)
open opr (Nv nodeV)
attribute [local go_sem ↓] Go.wp_at_zero Go.wp_at_succ
set_option maxRecDepth 1000000 in
theorem keep_no {w0 w : World} {d m n : Nat} {a : Option Addr} {c : Nat} (h : IsId w0 w d m n a c (fun _ => none)) (ht : Tab w) (bs : ByteArray) :
  Calls Tryz.prog 25 #[.pointer (some ⟨d, 0, none⟩), .int .i64 0, .string bs] w fun e w' => e = .returned (.int .i64 180) ∧ Below w.heap.size w w' := by
 obtain ⟨d0, d1⟩ := h.cells
 obtain ⟨b2, ia0, ia1, ia2, xa0, xa1, xa2, ic0, ic1, ic2, xc0, xc1, xc2, rfl, h3⟩ := three_of h.on
 obtain ⟨-, p1, -⟩ := h3.n0
 have HS : Hid (Calls Tryz.prog 27 #[.int .u8 1] w fun e w' => e = .returned (.bool false) ∧ Below w.heap.size w w') := Lib.hid (stateful_any ht 1)
 clear h h3 ht
 go_enter Tryz.func25, Tryz.ntmps25
 go_wp2_with fail
 refine HS.out.mono ?_
 rintro e w1 ⟨rfl, hb1⟩
 have HB1 := Lib.hid hb1
 clear hb1 d0 d1 p1
 go_wp2_with fail
 go_ret
 exact ⟨rfl, HB1.out⟩
set_option maxHeartbeats 1600000 in
set_option maxRecDepth 1000000 in
theorem keep_bad {w0 w : World} {d m n : Nat} {a : Option Addr} {c : Nat} (h : IsId w0 w d m n a c (fun _ => none)) (ht : Tab w) :
  Calls Tryz.prog 25 #[.pointer (some ⟨d, 0, none⟩), .int .i64 1, .string badB] w fun e w' => e = .returned (.int .i64 181) ∧ Below w.heap.size w w' := by
 obtain ⟨d0, d1⟩ := h.cells
 obtain ⟨b2, ia0, ia1, ia2, xa0, xa1, xa2, ic0, ic1, ic2, xc0, xc1, xc2, rfl, h3⟩ := three_of h.on
 obtain ⟨-, p1, -⟩ := h3.n1
 have HS : Hid (Calls Tryz.prog 27 #[.int .u8 6] w fun e w' => e = .returned (.bool true) ∧ Below w.heap.size w w') := Lib.hid (stateful_any ht 6)
 have HI := Lib.hid h; have HT := Lib.hid ht; have H3 := Lib.hid h3
 have HTK : Hid (∀ w, Calls Tryz.prog 15 #[.string badB] w fun e w' => ∃ t b, e = .returned (.tuple #[.pointer (some ⟨t, 0, none⟩), .int .i64 0]) ∧ IsTab w' t b [(0, (0, [0]))] ∧ Below w.heap.size w w') := Lib.hid (fun w => by
  have h1 := tbl.take_any badB w (by decide)
  refine h1.mono ?_
  intro e w' hp
  unfold TakePost at hp
  rw [take_bad, if_pos rfl] at hp
  obtain ⟨t, b, e1, h2, h3, h4, h5⟩ := hp
  exact ⟨t, b, e1, h2, h5⟩)
 have HFT : Hid (∀ w t b, Tab w → IsTab w t b [(0, (0, [0]))] → Calls Tryz.prog 13 #[.agg #[.string ⟨#[114]⟩, .int .u8 6, .slice ia1 1 ic1, .int .u8 7, .int .i64 0, .slice xa1 2 xc1, .int .i64 0], .pointer (some ⟨t, 0, none⟩)] w fun e w' => e = .returned (.bool false) ∧ Below w.heap.size w w') := Lib.hid (fun w t b ht h => by
  have h1 := fits_any ht ⟨⟨#[114]⟩, 6, ia1, 1, ic1, 7, 0, xa1, 2, xc1, 0⟩ h
  dsimp only at h1
  rw [fits_bad] at h1
  exact h1)
 obtain ⟨TT, hTT⟩ : ∃ T, badB = T := ⟨_, rfl⟩
 rw [hTT] at HTK ⊢
 clear h h3 ht hTT
 go_enter Tryz.func25, Tryz.ntmps25
 go_wp2_with fail
 refine HS.out.mono ?_
 rintro e w1 ⟨rfl, hb1⟩
 have hi1 := HI.out.below hb1
 obtain ⟨e0, e1⟩ := hi1.cells
 have hlk := hi1.map.look (k := 1) ⟨by decide, by decide⟩
 unfold ptrV at hlk
 dsimp only at hlk
 have HB1 := Lib.hid hb1
 have HI1 := Lib.hid hi1
 have HT1 := Lib.hid (HT.out.on hb1)
 have HTK1 := Lib.hid (HTK.out w1)
 clear hb1 hi1 d0 d1 p1
 go_wp2_with fail
 refine HTK1.out.mono ?_
 rintro e w2 ⟨t, b, rfl, ht2, hb2⟩
 have HB2 := Lib.hid (HB1.out.trans (hb2.mono HB1.out.size))
 have hi2 := HI1.out.below hb2
 obtain ⟨k0, k1⟩ := hi2.cells
 obtain ⟨p0, p1, p2, p3, p4, p5, p6⟩ := (H3.out.on HB2.out).n1
 have HF2 := Lib.hid (HFT.out w2 t b (HT1.out.on hb2) ht2)
 clear hb2 ht2 hi2 e0 e1 hlk
 go_wp2_with fail
 refine HF2.out.mono ?_
 rintro e w3 ⟨rfl, hb3⟩
 have HB3 := Lib.hid (HB2.out.trans (hb3.mono HB2.out.size))
 clear hb3 k0 k1 p0 p1 p2 p3 p4 p5 p6
 go_wp2_with fail
 go_ret
 exact ⟨rfl, HB3.out⟩
set_option maxHeartbeats 3200000 in
set_option maxRecDepth 1000000 in
theorem load_bad {w : World} (ht : Tab w) {a : Option Addr} {c g : Nat} {uid bs : ByteArray} {at' cd : Int} (hcd : (cd == 0) = false) (hf : findI sumsN uid = at')
  (hk : ∀ (w0 w : World) (d m n : Nat) (a : Option Addr) (c : Nat), IsId w0 w d m n a c (fun _ => none) → Tab w → Calls Tryz.prog 25 #[.pointer (some ⟨d, 0, none⟩), .int .i64 at', .string bs] w fun e w' => e = .returned (.int .i64 cd) ∧ Below w.heap.size w w')
  (h : Nodes w (.slice a 3 c) sumsN) (hs : w.heap[g]? = some (.cells #[.string uid, .string bs] 40 (0, 0))) :
  Calls Tryz.prog 11 #[.agg #[.int .i64 2, .slice a 3 c], .slice (some ⟨g, 0, none⟩) 1 1] w fun e w' => e = .returned (.tuple #[.pointer none, .int .i64 cd]) ∧ Below w.heap.size w w' := by
 have hmm := @run_makeMap Tryz.prog
 obtain ⟨W, hW⟩ : ∃ W, w.alloc (.cells #[.int .i64 2, .slice a 3 c] 28) = W := ⟨_, rfl⟩
 have hwb : Below w.heap.size w W := by rw [← hW]; exact below_made _ _
 obtain ⟨c0, c1⟩ := box2 hW
 obtain ⟨N, hN⟩ : ∃ N, w.heap.size = N := ⟨_, rfl⟩
 have hm0 := may_job 2 (ht.on hwb) (h.on hwb)
 rw [may_sums] at hm0
 have HM : Hid (Calls Tryz.prog 23 #[.agg #[.int .i64 2, .slice a 3 c]] W fun e w' => e = .returned (.tuple #[.int .i64 0, .int .i64 0]) ∧ Below W.heap.size W w') := Lib.hid hm0
 have HAP := Lib.hid (fun W' (hb : Below w.heap.size w W') => apart_nodes (h.on hb) (by decide) sums_small)
 have HFI : Hid (∀ W', Below w.heap.size w W' → Calls Tryz.prog 26 #[.agg #[.int .i64 2, .slice a 3 c], .string uid] W' fun e w' => e = .returned (.int .i64 at') ∧ Below W'.heap.size W' w') := Lib.hid (fun W' hb => by
  have h1 := find_job 2 uid (h.on hb) (by decide)
  rw [hf] at h1; exact h1)
 have HT := Lib.hid (fun W' (hb : Below w.heap.size w W') => ht.on hb)
 have HKP := Lib.hid hk
 have HST := Lib.hid (fun W' (hb : Below w.heap.size w W') => (hb.block g (lt_of_get hs)).trans hs)
 have HB := Lib.hid hwb
 have HJC : Hid (W.heap[N]? = some (.cells #[.int .i64 2, .slice a 3 c] 28 (0, 0))) := Lib.hid (by rw [← hW]; exact heap_last hN.symm)
 rw [hN] at c0 c1
 have HNN := Lib.hid hN; have HWW := Lib.hid hW
 clear ht h hwb hm0 hN hW hk hf hs
 go_enter Tryz.func11, Tryz.ntmps11
 go_upto_region 1 with fail
 rw [HNN.out, HWW.out]
 go_wp2_with fail
 refine HM.out.mono ?_
 rintro e w1 ⟨rfl, hb1⟩
 have c1' := cell_on c1 hb1
 have HB1 : Hid (Below w.heap.size w w1) := Lib.hid (HB.out.trans (hb1.mono HB.out.size))
 have HA1 := Lib.hid (HAP.out w1 HB1.out)
 have HJ1 : Hid (w1.heap[N]? = some (.cells #[.int .i64 2, .slice a 3 c] 28 (0, 0))) := Lib.hid ((hb1.block N (lt_of_get HJC.out)).trans HJC.out)
 clear hb1 c0 c1
 go_wp2_with fail
 refine HA1.out.mono ?_
 rintro e w2 ⟨v2, rfl, hn2, hb2⟩
 obtain ⟨a2, cc2, rfl, -⟩ := id hn2
 rw [show sumsN.length = 3 from rfl] at hn2 ⊢
 obtain ⟨m, hm⟩ : ∃ m, w2.heap.size = m := ⟨_, rfl⟩
 obtain ⟨W3, hW3⟩ : ∃ W3, (w2.alloc (.map #[] 0)).alloc (.cells #[.slice a2 3 cc2, .map (some m)] 63) = W3 := ⟨_, rfl⟩
 have hb3 : Below w2.heap.size w2 W3 := by rw [← hW3]; exact (below_made _ _).alloc (by simp) _
 have hid3 : IsId w2 W3 (m + 1) m 0 a2 cc2 (fun _ => none) := by
  refine ⟨hn2, hb3, ?_, ?_, by omega⟩
  · rw [← hW3]; exact heap_last (by simp [hm])
  · rw [← hW3, ← hm]; exact (PtM.made w2).below (below_made _ _)
 have HB2 : Hid (Below w.heap.size w w2) := Lib.hid (HB1.out.trans (hb2.mono HB1.out.size))
 have HJ3 : Hid (W3.heap[N]? = some (.cells #[.int .i64 2, .slice a 3 c] 28 (0, 0))) := Lib.hid (by
  have h2 := (hb2.block N (lt_of_get HJ1.out)).trans HJ1.out
  exact (hb3.block N (lt_of_get h2)).trans h2)
 have HB3 : Hid (Below w.heap.size w W3) := Lib.hid (HB2.out.trans (hb3.mono HB2.out.size))
 have HI3 := Lib.hid hid3
 have HMM := Lib.hid hm; have HW3 := Lib.hid hW3
 have hg3 := HST.out W3 HB3.out
 have s0 : W3.cell? ⟨g, 0, none⟩ = some (.string uid) := cell_of hg3 rfl
 have s1 : W3.cell? ⟨g, 1, none⟩ = some (.string bs) := cell_of hg3 rfl
 obtain ⟨W4, hW4⟩ : ∃ W4, W3.alloc (.cells #[.string uid, .string bs] 40) = W4 := ⟨_, rfl⟩
 have hb4 : Below W3.heap.size W3 W4 := by rw [← hW4]; exact below_made _ _
 obtain ⟨Q, hQ⟩ : ∃ Q, W3.heap.size = Q := ⟨_, rfl⟩
 have HQ4 : Hid (W4.heap[Q]? = some (.cells #[.string uid, .string bs] 40 (0, 0))) := Lib.hid (by rw [← hW4]; exact heap_last hQ.symm)
 have HJ4 : Hid (W4.heap[N]? = some (.cells #[.int .i64 2, .slice a 3 c] 28 (0, 0))) := Lib.hid ((hb4.block N (lt_of_get HJ3.out)).trans HJ3.out)
 have HI4 := Lib.hid (HI3.out.below hb4)
 have HB4 : Hid (Below w.heap.size w W4) := Lib.hid (HB3.out.trans (hb4.mono HB3.out.size))
 have HQQ := Lib.hid hQ; have HW4 := Lib.hid hW4
 clear hn2 hb2 hm hW3 hb3 hid3 c1' HM HAP HA1 hg3 hW4 hb4 hQ
 go_upto_region 5 with fail
 rw [HMM.out, HW3.out]
 go_wp2_with fail
 refine wp_loop_rounds 1 ?_
 rw [rounds_succ]
 go_upto_region 8 with fail
 rw [HQQ.out, HW4.out]
 refine dsk.wp_region_peel2 (by kernel_rfl) (by simp only [List.dropLast_cons_cons, List.dropLast_singleton]; exact rfl) rfl (by kernel_rfl) ?_
 refine wpAny_of_held (S := fun w' => w'.rangeAt N 0 [.int .i64 2, .slice a 3 c] ∧ w'.cell? ⟨Q, 0, none⟩ = some (.string uid) ∧ w'.cell? ⟨Q, 1, none⟩ = some (.string bs)) _ _ _ _ ?_
 have hHeld := (show W4.drew.rangeAt N 0 [.int .i64 2, .slice a 3 c] ∧ W4.drew.cell? ⟨Q, 0, none⟩ = some (.string uid) ∧ W4.drew.cell? ⟨Q, 1, none⟩ = some (.string bs) from ⟨range_new HJ4.out, cell_of HQ4.out rfl, cell_of HQ4.out rfl⟩)
 refine wpAnyH_take (i := 0) (v := ?v1) rfl (by kernel_rfl) (by kernel_rfl) (by kernel_rfl) (fun _ _ _ h => h) (Or.inl ⟨by rfl, ?hy1⟩) (by assumption) ?rest1
 case hy1 => (intro w0 hSw; (try dsimp only at hSw); go_simp; try with_reducible rfl)
 try simp only [Act.put, List.getElem_toArray, List.getElem_cons_zero, List.getElem_cons_succ, List.setIfInBounds_toArray, List.set_cons_zero, List.set_cons_succ]
 refine wpAnyH_take (i := 1) (v := .agg ([.int .i64 2, .slice a 3 c] : List Value).toArray) rfl (by kernel_rfl) (by kernel_rfl) (by kernel_rfl) (fun _ _ _ h => h) (yieldsIf_load_mid (by rfl) 28 (.tmp 2) rfl N (0) rfl [.int .i64 2, .slice a 3 c] _ (fun w0 hw0 => hw0.1) Tryz.underlying28 rfl (by kernel_rfl)) (by assumption) ?_
 try simp only [Act.put, List.getElem_toArray, List.getElem_cons_zero, List.getElem_cons_succ, List.setIfInBounds_toArray, List.set_cons_zero, List.set_cons_succ]
 refine wpAnyH_take (i := 2) (v := ?v2) rfl (by kernel_rfl) (by kernel_rfl) (by kernel_rfl) (fun _ _ _ h => h) (Or.inl ⟨by rfl, ?hy2⟩) (by assumption) ?rest2
 case hy2 => (intro w0 hSw; (try dsimp only at hSw); go_simp; try with_reducible rfl)
 try simp only [Act.put, List.getElem_toArray, List.getElem_cons_zero, List.getElem_cons_succ, List.setIfInBounds_toArray, List.set_cons_zero, List.set_cons_succ]
 refine wpAnyH_take (i := 3) (v := ?v3) rfl (by kernel_rfl) (by kernel_rfl) (by kernel_rfl) (fun _ _ _ h => h) (Or.inl ⟨by rfl, ?hy3⟩) (by assumption) ?rest3
 case hy3 => (intro w0 hSw; (try dsimp only at hSw); go_simp; try with_reducible rfl)
 try simp only [Act.put, List.getElem_toArray, List.getElem_cons_zero, List.getElem_cons_succ, List.setIfInBounds_toArray, List.set_cons_zero, List.set_cons_succ]
 refine wpAnyH_take (i := 5) (v := ?v4) rfl (by kernel_rfl) (by kernel_rfl) (by kernel_rfl) (fun _ _ _ h => h) (Or.inl ⟨by rfl, ?hy4⟩) (by assumption) ?rest4
 case hy4 => (intro w0 hSw; (try dsimp only at hSw); go_simp; try with_reducible rfl)
 try simp only [Act.put, List.getElem_toArray, List.getElem_cons_zero, List.getElem_cons_succ, List.setIfInBounds_toArray, List.set_cons_zero, List.set_cons_succ]
 refine wpAnyH_take (i := 6) (v := ?v5) rfl (by kernel_rfl) (by kernel_rfl) (by kernel_rfl) (fun _ _ _ h => h) (Or.inl ⟨by rfl, ?hy5⟩) (by assumption) ?rest5
 case hy5 => (intro w0 hSw; (try dsimp only at hSw); go_simp; try with_reducible rfl)
 try simp only [Act.put, List.getElem_toArray, List.getElem_cons_zero, List.getElem_cons_succ, List.setIfInBounds_toArray, List.set_cons_zero, List.set_cons_succ]
 refine wpAnyH_ready (rs := [4]) (by kernel_rfl) (by simp) ?_
 refine AllReadyH.cons rfl (fun KQ hKQ => ?_) AllReadyH.nil
 go_simp
 have hbd : Below w.heap.size w W4.drew := ⟨HB4.out.os, HB4.out.tape, HB4.out.output, HB4.out.size, HB4.out.block⟩
 refine (HFI.out _ hbd).mono ?_
 rintro e w5 ⟨rfl, hb5⟩
 have hb5d : Below W4.heap.size W4 w5 := ⟨hb5.os, hb5.tape, hb5.output, hb5.size, hb5.block⟩
 have HI5 := Lib.hid (HI4.out.below hb5d)
 have HB5 : Hid (Below w.heap.size w w5) := Lib.hid (HB4.out.trans (hb5d.mono HB4.out.size))
 have HJ5 := Lib.hid ((hb5d.block N (lt_of_get HJ4.out)).trans HJ4.out)
 have HQ5 := Lib.hid ((hb5d.block Q (lt_of_get HQ4.out)).trans HQ4.out)
 clear hbd hb5 hb5d
 refine hKQ.out _ _ ?_ (fun hHeld => ?_)
 · exact ⟨range_new HJ5.out, cell_of HQ5.out rfl, cell_of HQ5.out rfl⟩
 clear hKQ KQ
 try simp only [Act.put, List.getElem_toArray, List.getElem_cons_zero, List.getElem_cons_succ, List.setIfInBounds_toArray, List.set_cons_zero, List.set_cons_succ]
 refine wpAnyH_ready (rs := [7]) (by kernel_rfl) (by simp) ?_
 refine AllReadyH.cons rfl (fun KQ hKQ => ?_) AllReadyH.nil
 go_simp
 refine (HKP.out _ _ _ _ _ _ _ HI5.out (HT.out _ HB5.out)).mono ?_
 rintro e w6 ⟨rfl, hb6⟩
 have HB6 : Hid (Below w.heap.size w w6) := Lib.hid (HB5.out.trans (hb6.mono HB5.out.size))
 have HJ6 := Lib.hid ((hb6.block N (lt_of_get HJ5.out)).trans HJ5.out)
 have HQ6 := Lib.hid ((hb6.block Q (lt_of_get HQ5.out)).trans HQ5.out)
 clear hb6
 refine hKQ.out _ _ ?_ (fun hHeld => ?_)
 · exact ⟨range_new HJ6.out, cell_of HQ6.out rfl, cell_of HQ6.out rfl⟩
 clear hKQ KQ
 try simp only [Act.put, List.getElem_toArray, List.getElem_cons_zero, List.getElem_cons_succ, List.setIfInBounds_toArray, List.set_cons_zero, List.set_cons_succ]
 refine wpAnyH_done (by kernel_rfl) ?_ _
 change wpList _ _ _ _ _ _
 clear hHeld
 go_wp2_with fail
 go_ret2
 exact ⟨rfl, HB6.out⟩
end
end Go.Proofs.YtepdecnegihhhaaGreatDoor.idl
