/- What States answers of the job that puts numbers together; of none: nothing. The document's examples: the law IdealKnown. -/
import Derived.Test.YtepdecnegihhhaaGreatDoorIdJ
set_option linter.unusedSimpArgs false
set_option linter.unusedVariables false
namespace Go.Proofs.YtepdecnegihhhaaGreatDoor.idl
section
open Go.RowKit
open tbl (IsTab Two lt_of_get)
open grp (below_on' below_made fits)
open exp (cell_of heap_last heap_old)
attribute [local go_sem ↓] Go.wp_at_zero Go.wp_at_succ
theorem feed_nil (k v : Int) (w : World) : Calls Tryz.prog 9 #[.pointer none, .int .i64 k, .int .i64 v] w fun e w' => e = .returned (.slice none 0 0) ∧ w' = w := by
 go_enter Tryz.func9, Tryz.ntmps9
 go_wp2_with fail
 go_ret
 exact ⟨rfl, rfl⟩
theorem states_nil (w : World) : Calls Tryz.prog 10 #[.pointer none] w fun e w' => e = .returned (.slice none 0 0) ∧ w' = w := by
 go_enter Tryz.func10, Tryz.ntmps10
 go_wp2_with fail
 go_ret
 exact ⟨rfl, rfl⟩
theorem copy_nil (w : World) : Calls Tryz.prog 12 #[.pointer none] w fun e w' => e = .returned (.pointer none) ∧ w' = w := by
 go_enter Tryz.func12, Tryz.ntmps12
 go_wp2_with fail
 go_ret
 exact ⟨rfl, rfl⟩
theorem info_state : (Tryz.prog.info? 40).map (fun i => (i.zero, i.size, i.bytes)) = some (some (.agg #[.string ⟨#[]⟩, .string ⟨#[]⟩]), 2, 32) := by kernel_rfl
set_option maxHeartbeats 3200000 in
set_option maxRecDepth 1000000 in
theorem states_sums {B : Nat} {w : World} {d t b : Nat} {L : tbl.Rows} (h : IsSums B w d t b L) :
  Calls Tryz.prog 10 #[.pointer (some ⟨d, 0, none⟩)] w fun e w' => ∃ g cap, e = .returned (.slice (some ⟨g, 0, none⟩) 1 cap) ∧ lg.Row w' 40 2 (.slice (some ⟨g, 0, none⟩) 1 cap) 1 [.string ⟨#[114]⟩, .string (tbl.tabB L)] ∧ Below w.heap.size w w' := by
 obtain ⟨i0, hio, hz0, hz1, hz2⟩ := info_parts info_state
 obtain ⟨w0, m, n, a, c, hid, hmb, hlt, hlb, hB⟩ := h.ex
 have HI0 := Lib.hid hid
 have HT0 := Lib.hid h.tab
 have HB0 := Lib.hid (Below.refl w.heap.size w)
 obtain ⟨d0, d1⟩ := hid.cells
 have HLK0 : Hid (∀ W n a c, IsId w0 W d m n a c (oneT t) → (Instr.lookup 61 (.map (some m)) (.int .i64 0) false).run Tryz.prog W = .ok (.pointer none) W) := Lib.hid (fun W n a c h => by have := h.map.look (k := 0) ⟨by decide, by decide⟩; simpa [ptrV, oneT] using this)
 have HLK1 : Hid (∀ W n a c, IsId w0 W d m n a c (oneT t) → (Instr.lookup 61 (.map (some m)) (.int .i64 1) false).run Tryz.prog W = .ok (.pointer (some ⟨t, 0, none⟩)) W) := Lib.hid (fun W n a c h => by have := h.map.look (k := 1) ⟨by decide, by decide⟩; simpa [ptrV, oneT] using this)
 have HLK2 : Hid (∀ W n a c, IsId w0 W d m n a c (oneT t) → (Instr.lookup 61 (.map (some m)) (.int .i64 2) false).run Tryz.prog W = .ok (.pointer none) W) := Lib.hid (fun W n a c h => by have := h.map.look (k := 2) ⟨by decide, by decide⟩; simpa [ptrV, oneT] using this)
 obtain ⟨b2, ia0, ia1, ia2, xa0, xa1, xa2, ic0, ic1, ic2, xc0, xc1, xc2, rfl, h3⟩ := three_of hid.on
 have HTH := Lib.hid h3
 clear h hid hmb hlt hlb hB h3
 go_enter Tryz.func10, Tryz.ntmps10
 go_wp2_with fail
 clear d0 d1
 refine wp_loop_rounds 4 ?_
 rw [rounds_succ]
 obtain ⟨p0, p1, p2, p3, p4, p5, p6⟩ := (HTH.out.on HB0.out).n0
 obtain ⟨WA0, hWA⟩ : ∃ WA, w.alloc (.cells #[.string ⟨#[115]⟩, .int .u8 1, .slice ia0 0 ic0, .int .u8 0, .int .i64 0, .slice xa0 0 xc0, .int .i64 0] 48) = WA := ⟨_, rfl⟩
 have hba : Below w.heap.size w WA0 := by rw [← hWA]; exact below_made _ _
 obtain ⟨Q0, hQ⟩ : ∃ Q, w.heap.size = Q := ⟨_, rfl⟩
 have HQC0 : Hid (WA0.heap[Q0]? = some (.cells #[.string ⟨#[115]⟩, .int .u8 1, .slice ia0 0 ic0, .int .u8 0, .int .i64 0, .slice xa0 0 xc0, .int .i64 0] 48 (0, 0))) := Lib.hid (by rw [← hWA]; exact heap_last hQ.symm)
 have HIA0 := Lib.hid (HI0.out.below hba)
 have HTA0 := Lib.hid (HT0.out.below hba)
 have HBA0 : Hid (Below w.heap.size w WA0) := Lib.hid (HB0.out.trans (hba.mono HB0.out.size))
 have HWA0 := Lib.hid hWA; have HQ0 := Lib.hid hQ
 clear hWA hba hQ
 go_upto_region 7 with fail
 rw [HQ0.out, HWA0.out]
 clear p0 p1 p2 p3 p4 p5 p6
 obtain ⟨d0, d1⟩ := HIA0.out.cells
 have hlk := HLK0.out _ _ _ _ HIA0.out
 go_wp2_with fail
 clear hlk d0 d1
 rw [rounds_succ]
 have HI1 := HIA0; have HT1 := HTA0; have HB1 := HBA0
 obtain ⟨p0, p1, p2, p3, p4, p5, p6⟩ := (HTH.out.on HB1.out).n1
 obtain ⟨WA1, hWA⟩ : ∃ WA, WA0.alloc (.cells #[.string ⟨#[114]⟩, .int .u8 6, .slice ia1 1 ic1, .int .u8 7, .int .i64 0, .slice xa1 2 xc1, .int .i64 0] 48) = WA := ⟨_, rfl⟩
 have hba : Below WA0.heap.size WA0 WA1 := by rw [← hWA]; exact below_made _ _
 obtain ⟨Q1, hQ⟩ : ∃ Q, WA0.heap.size = Q := ⟨_, rfl⟩
 have HQC1 : Hid (WA1.heap[Q1]? = some (.cells #[.string ⟨#[114]⟩, .int .u8 6, .slice ia1 1 ic1, .int .u8 7, .int .i64 0, .slice xa1 2 xc1, .int .i64 0] 48 (0, 0))) := Lib.hid (by rw [← hWA]; exact heap_last hQ.symm)
 have HIA1 := Lib.hid (HI1.out.below hba)
 have HTA1 := Lib.hid (HT1.out.below hba)
 have HBA1 : Hid (Below w.heap.size w WA1) := Lib.hid (HB1.out.trans (hba.mono HB1.out.size))
 have HWA1 := Lib.hid hWA; have HQ1 := Lib.hid hQ
 clear hWA hba hQ
 go_upto_region 7 with fail
 rw [HQ1.out, HWA1.out]
 clear p0 p1 p2 p3 p4 p5 p6
 obtain ⟨d0, d1⟩ := HIA1.out.cells
 have hlk := HLK1.out _ _ _ _ HIA1.out
 have q0 : WA1.cell? ⟨Q1, 0, none⟩ = some (.string ⟨#[114]⟩) := cell_of HQC1.out rfl
 go_upto_region 9 with fail
 clear hlk d0 d1
 have HBY := Lib.hid (tbl.bytes_any (HTA1.out.below (show Below WA1.heap.size WA1 WA1.drew from ⟨rfl, rfl, rfl, Nat.le_refl _, fun _ _ => rfl⟩)))
 obtain ⟨TB, hTB⟩ : ∃ T, tbl.tabB L = T := ⟨_, rfl⟩
 rw [hTB] at HBY
 have HTB := Lib.hid hTB
 clear hTB
 refine dsk.wp_region_peel2 (by kernel_rfl) (by simp only [List.dropLast_cons_cons, List.dropLast_singleton]; exact rfl) rfl (by kernel_rfl) ?_
 refine wpAny_of_held (S := fun w' => w'.cell? ⟨Q1, 0, none⟩ = some (.string ⟨#[114]⟩)) _ _ _ _ ?_
 have hHeld := (show WA1.drew.cell? ⟨Q1, 0, none⟩ = some (.string ⟨#[114]⟩) from q0)
 refine wpAnyH_take (i := 0) (v := ?v1) rfl (by kernel_rfl) (by kernel_rfl) (by kernel_rfl) (fun _ _ _ h => h) (Or.inl ⟨by rfl, ?hy1⟩) (by assumption) ?rest1
 case hy1 => (intro w0 hSw; (try dsimp only at hSw); go_simp; try with_reducible rfl)
 try simp only [Act.put, List.getElem_toArray, List.getElem_cons_zero, List.getElem_cons_succ, List.setIfInBounds_toArray, List.set_cons_zero, List.set_cons_succ]
 refine wpAnyH_take (i := 1) (v := ?v2) rfl (by kernel_rfl) (by kernel_rfl) (by kernel_rfl) (fun _ _ _ h => h) (Or.inl ⟨by rfl, ?hy2⟩) (by assumption) ?rest2
 case hy2 => (intro w0 hSw; (try dsimp only at hSw); go_simp; try with_reducible rfl)
 try simp only [Act.put, List.getElem_toArray, List.getElem_cons_zero, List.getElem_cons_succ, List.setIfInBounds_toArray, List.set_cons_zero, List.set_cons_succ]
 refine wpAnyH_take (i := 2) (v := ?v3) rfl (by kernel_rfl) (by kernel_rfl) (by kernel_rfl) (fun _ _ _ h => h) (Or.inl ⟨by rfl, ?hy3⟩) (by assumption) ?rest3
 case hy3 => (intro w0 hSw; (try dsimp only at hSw); go_simp; try with_reducible rfl)
 try simp only [Act.put, List.getElem_toArray, List.getElem_cons_zero, List.getElem_cons_succ, List.setIfInBounds_toArray, List.set_cons_zero, List.set_cons_succ]
 refine wpAnyH_take (i := 3) (v := ?v4) rfl (by kernel_rfl) (by kernel_rfl) (by kernel_rfl) (fun _ _ _ h => h) (Or.inl ⟨by rfl, ?hy4⟩) (by assumption) ?rest4
 case hy4 => (intro w0 hSw; (try dsimp only at hSw); go_simp; try with_reducible rfl)
 try simp only [Act.put, List.getElem_toArray, List.getElem_cons_zero, List.getElem_cons_succ, List.setIfInBounds_toArray, List.set_cons_zero, List.set_cons_succ]
 refine wpAnyH_ready (rs := [4]) (by kernel_rfl) (by simp) ?_
 refine AllReadyH.cons rfl (fun KQ hKQ => ?_) AllReadyH.nil
 go_simp
 refine HBY.out.mono ?_
 rintro e w5 ⟨rfl, hb5⟩
 have hb5d : Below WA1.heap.size WA1 w5 := ⟨hb5.os, hb5.tape, hb5.output, hb5.size, hb5.block⟩
 have HI5 := Lib.hid (HIA1.out.below hb5d)
 have HT5 := Lib.hid (HTA1.out.below hb5d)
 have HB5 : Hid (Below w.heap.size w w5) := Lib.hid (HBA1.out.trans (hb5d.mono HBA1.out.size))
 have HQ5 := Lib.hid ((hb5d.block Q1 (lt_of_get HQC1.out)).trans HQC1.out)
 clear hb5 hb5d
 refine hKQ.out _ _ ?_ (fun hHeld => ?_)
 · exact cell_of HQ5.out rfl
 clear hKQ KQ
 try simp only [Act.put, List.getElem_toArray, List.getElem_cons_zero, List.getElem_cons_succ, List.setIfInBounds_toArray, List.set_cons_zero, List.set_cons_succ]
 refine wpAnyH_take (i := 5) (v := ?v5) rfl (by kernel_rfl) (by kernel_rfl) (by kernel_rfl) (fun _ _ _ h => h) (Or.inl ⟨by rfl, ?hy5⟩) (by assumption) ?rest5
 case hy5 => (intro w0 hSw; (try dsimp only at hSw); go_simp; try with_reducible rfl)
 try simp only [Act.put, List.getElem_toArray, List.getElem_cons_zero, List.getElem_cons_succ, List.setIfInBounds_toArray, List.set_cons_zero, List.set_cons_succ]
 refine wpAnyH_ready (rs := [6]) (by kernel_rfl) (by simp) ?_
 refine AllReadyH.cons rfl (fun KQ hKQ => ?_) AllReadyH.nil
 go_simp
 refine hKQ.out _ _ ?_ (fun hHeld => ?_)
 · exact cell_of ((Below.heap_alloc _ _ _ (lt_of_get HQ5.out)).trans HQ5.out) rfl
 clear hKQ KQ
 try simp only [Act.put, List.getElem_toArray, List.getElem_cons_zero, List.getElem_cons_succ, List.setIfInBounds_toArray, List.set_cons_zero, List.set_cons_succ]
 refine wpAnyH_ready (rs := [7]) (by kernel_rfl) (by simp) ?_
 refine AllReadyH.cons rfl (fun KQ hKQ => ?_) AllReadyH.nil
 refine lg.step_append_row _ (by rfl) (.tmp 27) (.tmp 33) 36 (by rfl) 40 i0 (.agg #[.string ⟨#[]⟩, .string ⟨#[]⟩]) 2 32 Tryz.underlying36 hio hz0 hz1 hz2 rfl (by decide) (.slice none 0 0) 0 [] (by rfl) (lg.Row.nil _ _ _) ⟨_, 0, none⟩ 1 1 [.string ⟨#[114]⟩, .string TB] (by rfl) (by rfl) (World.news_of_block (cs := #[.string ⟨#[114]⟩, .string TB]) (t := 40) (fr := (0, 0)) (heap_alloc_new _ _)) (by simp [Value.oneCell']) (by decide) (by unfold maxLen; omega) (by omega) _ rfl ?_
 intro gb cap w7 hown hg hat hlt
 have hb7 : Below w5.heap.size w5 w7 := (below_made w5 (.cells #[.string ⟨#[114]⟩, .string TB] 40)).grown hg (by rw [World.size_alloc]; omega) (fun j hj => by simp [Value.ownBlock] at hj)
 have HI2 := Lib.hid (HI5.out.below hb7)
 have HT2 := Lib.hid (HT5.out.below hb7)
 have HB2 : Hid (Below w.heap.size w w7) := Lib.hid (HB5.out.trans (hb7.mono HB5.out.size))
 have HQ7 := Lib.hid ((hb7.block Q1 (lt_of_get HQ5.out)).trans HQ5.out)
 have HRW : Hid (lg.Row w7 40 2 (.slice (some ⟨gb, 0, none⟩) 1 cap) 1 [.string ⟨#[114]⟩, .string TB]) := Lib.hid hown
 clear hown hg hat hlt hb7
 refine hKQ.out _ _ ?_ (fun hHeld => ?_)
 · exact cell_of HQ7.out rfl
 clear hKQ KQ
 try simp only [Act.put, List.getElem_toArray, List.getElem_cons_zero, List.getElem_cons_succ, List.setIfInBounds_toArray, List.set_cons_zero, List.set_cons_succ]
 refine wpAnyH_done (by kernel_rfl) ?_ _
 change wpList _ _ _ _ _ _
 clear hHeld q0
 go_wp2_with fail
 rw [rounds_succ]
 obtain ⟨p0, p1, p2, p3, p4, p5, p6⟩ := (HTH.out.on HB2.out).n2
 obtain ⟨WA2, hWA⟩ : ∃ WA, w7.alloc (.cells #[.string ⟨#[116]⟩, .int .u8 9, .slice ia2 1 ic2, .int .u8 0, .int .i64 0, .slice xa2 0 xc2, .int .i64 0] 48) = WA := ⟨_, rfl⟩
 have hba : Below w7.heap.size w7 WA2 := by rw [← hWA]; exact below_made _ _
 obtain ⟨Q2, hQ⟩ : ∃ Q, w7.heap.size = Q := ⟨_, rfl⟩
 have HQC2 : Hid (WA2.heap[Q2]? = some (.cells #[.string ⟨#[116]⟩, .int .u8 9, .slice ia2 1 ic2, .int .u8 0, .int .i64 0, .slice xa2 0 xc2, .int .i64 0] 48 (0, 0))) := Lib.hid (by rw [← hWA]; exact heap_last hQ.symm)
 have HIA2 := Lib.hid (HI2.out.below hba)
 have HTA2 := Lib.hid (HT2.out.below hba)
 have HBA2 : Hid (Below w.heap.size w WA2) := Lib.hid (HB2.out.trans (hba.mono HB2.out.size))
 have HWA2 := Lib.hid hWA; have HQ2 := Lib.hid hQ
 clear hWA hba hQ
 go_upto_region 7 with fail
 rw [HQ2.out, HWA2.out]
 clear p0 p1 p2 p3 p4 p5 p6
 obtain ⟨d0, d1⟩ := HIA2.out.cells
 have hlk := HLK2.out _ _ _ _ HIA2.out
 go_wp2_with fail
 clear hlk d0 d1
 rw [rounds_succ]
 have HF : Hid (lg.Row WA2 40 2 (.slice (some ⟨gb, 0, none⟩) 1 cap) 1 [.string ⟨#[114]⟩, .string (tbl.tabB L)]) := Lib.hid (by rw [HTB.out]; rw [← HWA2.out]; exact HRW.out.below (below_made _ _))
 go_wp2_with fail
 go_ret
 exact ⟨gb, cap, rfl, HF.out, HBA2.out⟩
end
section
open Go.RowKit
open opr (Rc Sr Own)
open tbl (IsTab Two lt_of_get)
open grp (below_on' below_made ret_bool)
open exp (cell_of heap_last)
attribute [local go_sem ↓] Go.wp_at_zero Go.wp_at_succ
theorem load_s {w : World} (ht : jb.Tab w) {a : Option Addr} {c : Nat} (h : jb.Nodes w (.slice a 3 c) sumsN) :
  Calls Tryz.prog 11 #[.agg #[.int .i64 2, .slice a 3 c], .slice (some ⟨w.heap.size, 0, none⟩) 1 1] (w.alloc (.cells #[.string ⟨#[115]⟩, .string ⟨#[]⟩] 40)) fun e w' => e = .returned (.tuple #[.pointer none, .int .i64 180]) ∧ Below w.heap.size w w' := by
 have hb := below_made w (.cells #[.string ⟨#[115]⟩, .string ⟨#[]⟩] 40)
 refine (load_bad (ht.on hb) (uid := ⟨#[115]⟩) (bs := ⟨#[]⟩) (at' := 0) (cd := 180) rfl find_s (fun w0 w d m n a c h ht => keep_no h ht _) (h.on hb) (heap_last rfl)).mono ?_
 rintro e w' ⟨rfl, hb'⟩
 exact ⟨rfl, below_on' hb hb'⟩
theorem load_r {w : World} (ht : jb.Tab w) {a : Option Addr} {c : Nat} (h : jb.Nodes w (.slice a 3 c) sumsN) :
  Calls Tryz.prog 11 #[.agg #[.int .i64 2, .slice a 3 c], .slice (some ⟨w.heap.size, 0, none⟩) 1 1] (w.alloc (.cells #[.string ⟨#[114]⟩, .string ⟨#[2, 0, 0, 2, 0]⟩] 40)) fun e w' => e = .returned (.tuple #[.pointer none, .int .i64 181]) ∧ Below w.heap.size w w' := by
 have hb := below_made w (.cells #[.string ⟨#[114]⟩, .string ⟨#[2, 0, 0, 2, 0]⟩] 40)
 refine (load_bad (ht.on hb) (uid := ⟨#[114]⟩) (bs := ⟨#[2, 0, 0, 2, 0]⟩) (at' := 1) (cd := 181) rfl find_r (fun w0 w d m n a c h ht => keep_bad h ht) (h.on hb) (heap_last rfl)).mono ?_
 rintro e w' ⟨rfl, hb'⟩
 exact ⟨rfl, below_on' hb hb'⟩
theorem fits_zero {w : World} (ht : jb.Tab w) {t b : Nat} (h : IsTab w t b []) : Calls Tryz.prog 13 #[.agg #[.string ⟨#[]⟩, .int .u8 0, .slice none 0 0, .int .u8 0, .int .i64 0, .slice none 0 0, .int .i64 0], .pointer (some ⟨t, 0, none⟩)] w fun e w' => e = .returned (.bool false) ∧ Below w.heap.size w w' :=
 fits_any ht ⟨⟨#[]⟩, 0, none, 0, 0, 0, 0, none, 0, 0, 0⟩ h
set_option maxHeartbeats 3200000 in
set_option maxRecDepth 1000000 in
theorem law_known {w : World} (hk : sc.KTab w) (ht : jb.Tab w) : Calls Tryz.prog 3 #[] w fun e w' => e = .returned (.bool true) ∧ Below w.heap.size w w' := by
 have HM : Hid (∀ W, Below w.heap.size w W → Calls Tryz.prog 6 #[.string sumsT] W fun e w' => ∃ a c, e = .returned (.agg #[.int .i64 2, .slice a 3 c]) ∧ jb.Nodes w' (.slice a 3 c) sumsN ∧ Below W.heap.size W w') := Lib.hid (fun W hb => made_sums (hk.on hb) (ht.on hb))
 have HWK := Lib.hid (fun W (hb : Below w.heap.size w W) => works_any (hk.on hb) (ht.on hb))
 have HT := Lib.hid (fun w' (hb : Below w.heap.size w w') => ht.on hb)
 have HB0 := Lib.hid (Below.refl w.heap.size w)
 have HFN := Lib.hid (fun W => feed_nil 1 1 W)
 have HSN := Lib.hid (fun W => states_nil W)
 have HCN := Lib.hid (fun W => copy_nil W)
 have HNT := Lib.hid (fun W => tbl.new_any W)
 unfold sumsT at HM
 clear hk ht
 go_enter Tryz.func3, Tryz.ntmps3
 go_wp2_with fail
 refine (HM.out _ HB0.out).mono ?_
 rintro e w1 ⟨a, c, rfl, hn, hb1⟩
 have HN := Lib.hid (new_sums (HT.out w1 hb1) hn)
 have HB1 := Lib.hid hb1
 clear hn hb1
 go_wp2_with fail
 refine HN.out.mono ?_
 rintro e w2 ⟨d, t, b, rfl, hs, hb2⟩
 have HS2 := Lib.hid hs
 have HL := Lib.hid hs.lo
 have HB2 := Lib.hid (HB1.out.trans (hb2.mono HB1.out.size))
 clear hs hb2
 go_wp2_with fail
 refine (HWK.out _ HB2.out).mono ?_
 rintro e w3 ⟨rfl, hb3⟩
 have HF3 := Lib.hid (feed_six (HS2.out.below hb3))
 have HB3 := Lib.hid (HB2.out.trans (hb3.mono HB2.out.size))
 clear hb3
 go_wp2_with fail
 refine HF3.out.mono ?_
 rintro e w4 ⟨v4, rfl, ho4, hs4, hon4⟩
 obtain ⟨a4, c4, rfl⟩ := ho4.len
 have HE4 := Lib.hid (same_rec 6 1 ho4)
 have HS4 := Lib.hid hs4
 have HB4 : Hid (Below w.heap.size w w4) := Lib.hid (HB3.out.trans (hon4.below HB3.out.size (fun k e => by have := HL.out; have := HB1.out.size; rcases e with e | e <;> omega)))
 dsimp only [List.length_cons, List.length_nil] at HE4 ⊢
 clear ho4 hs4 hon4 HF3
 go_wp2_with fail
 refine HE4.out.mono ?_
 rintro e w5 ⟨rfl, hb5⟩
 have HST := Lib.hid (states_sums (HS4.out.below hb5))
 have HB5 := Lib.hid (HB4.out.trans (hb5.mono HB4.out.size))
 clear hb5
 go_wp2_with fail
 refine HST.out.mono ?_
 rintro e w6 ⟨g, cap, rfl, hrw, hb6⟩
 have HRW := Lib.hid hrw
 have HB6 := Lib.hid (HB5.out.trans (hb6.mono HB5.out.size))
 have HNN := Lib.hid (new_none (HT.out _ HB6.out))
 clear hrw hb6
 go_wp2_with fail
 refine HNN.out.mono ?_
 rintro e w7 ⟨rfl, hb7⟩
 have HR7 := Lib.hid (HRW.out.below hb7)
 have HB7 := Lib.hid (HB6.out.trans (hb7.mono HB6.out.size))
 clear hb7
 go_wp2_with fail
 refine (HM.out _ HB7.out).mono ?_
 rintro e w8 ⟨a8, c8, rfl, hn8, hb8⟩
 have HB8 := Lib.hid (HB7.out.trans (hb8.mono HB7.out.size))
 have HR8 := Lib.hid (HR7.out.below hb8)
 have HLS := Lib.hid (load_s (HT.out _ HB8.out) hn8)
 clear hn8 hb8
 go_wp2_with fail
 refine HLS.out.mono ?_
 rintro e w9 ⟨rfl, hb9⟩
 have HR9 := Lib.hid (HR8.out.below hb9)
 have HB9 := Lib.hid (HB8.out.trans (hb9.mono HB8.out.size))
 clear hb9
 go_wp2_with fail
 refine (HM.out _ HB9.out).mono ?_
 rintro e wa ⟨aa, ca, rfl, hna, hba⟩
 have HBa := Lib.hid (HB9.out.trans (hba.mono HB9.out.size))
 have HRa := Lib.hid (HR9.out.below hba)
 have HLR := Lib.hid (load_r (HT.out _ HBa.out) hna)
 clear hna hba
 go_wp2_with fail
 refine HLR.out.mono ?_
 rintro e wb ⟨rfl, hbb⟩
 have HRb := Lib.hid (HRa.out.below hbb)
 have HBb := Lib.hid (HBa.out.trans (hbb.mono HBa.out.size))
 have s0 : wb.cell? ⟨g, 0, none⟩ = some (.string ⟨#[114]⟩) := HRb.out.cellAt (j := 0) rfl
 clear hbb
 go_wp2_with fail
 refine (HFN.out _).mono ?_
 rintro e wc ⟨rfl, rfl⟩
 go_wp2_with fail
 refine (HSN.out _).mono ?_
 rintro e wc ⟨rfl, rfl⟩
 go_wp2_with fail
 refine (HCN.out _).mono ?_
 rintro e wc ⟨rfl, rfl⟩
 go_wp2_with fail
 refine (HNT.out _).mono ?_
 rintro e wd ⟨td, bd, rfl, htd, -, -, hbd⟩
 have HBd := Lib.hid (HBb.out.trans (hbd.mono HBb.out.size))
 have HFZ := Lib.hid (fits_zero (HT.out _ HBd.out) htd)
 clear htd hbd
 go_wp2_with fail
 refine HFZ.out.mono ?_
 rintro e we ⟨rfl, hbe⟩
 have HBe := Lib.hid (HBd.out.trans (hbe.mono HBd.out.size))
 clear hbe
 go_wp2_with fail
 go_ret
 exact ⟨rfl, HBe.out⟩
end
end Go.Proofs.YtepdecnegihhhaaGreatDoor.idl
