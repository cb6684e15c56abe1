import Derived.Test.YtepdecnegihhhaaGreatDoorMTr
set_option linter.unusedSimpArgs false
set_option linter.unusedVariables false
namespace Go.Proofs.YtepdecnegihhhaaGreatDoor.tbl.ref
open Go.RowKit
attribute [local go_sem ↓] Go.wp_at_zero Go.wp_at_succ
open grp (gof gof_in fits fits_wf IRow intV below_on' below_made ret_bool own_below ret_int rof_any)
open byt (txt bl)
def RTPost (l : List UInt8) (w : World) (e : Ending) (w' : World) : Prop :=
 if (takeT l).1 = 0 then ∃ r, e = .returned (.tuple #[.pointer (some ⟨r, 0, none⟩), .int .i64 0]) ∧ IsRef w' r (takeT l).2 ∧ w.heap.size ≤ r ∧ Below w.heap.size w w'
 else e = .returned (.tuple #[.pointer none, .int .i64 (takeT l).1]) ∧ Below w.heap.size w w'
theorem rt_fails {l : List UInt8} {c : Int} {L : Rows} {w w' : World} (h : takeT l = (c, L)) (hc : c ≠ 0) (hb : Below w.heap.size w w') : RTPost l w (.returned (.tuple #[.pointer none, .int .i64 c])) w' := by
 unfold RTPost
 rw [h, if_neg hc]
 exact ⟨rfl, hb⟩
theorem rt_fine {l : List UInt8} {L : Rows} {w w' : World} {r : Nat} (h : takeT l = (0, L)) (hm : IsRef w' r L) (hr : w.heap.size ≤ r) (hb : Below w.heap.size w w') : RTPost l w (.returned (.tuple #[.pointer (some ⟨r, 0, none⟩), .int .i64 0])) w' := by
 unfold RTPost
 rw [h, if_pos rfl]
 exact ⟨r, rfl, hm, hr, hb⟩
def RTRel (w wr : World) (R r B M k : Nat) (s1 : St) : Prop := ∃ v rs st, Bld wr r B v rs ∧ Good (rs.map Rw.p) ∧ RdAt wr R st ∧ goO (M - k) (rs.map Rw.p) st = goO M [] s1 ∧ rs.length = k ∧ st.1.length ≤ 140737488355328 ∧ Below w.heap.size w wr ∧ B ≤ wr.heap.size
theorem rt_only {w0 w w' : World} {R : Nat} (h : Below w0.heap.size w0 w) (ho : Only (· = R) w w') (hR : w0.heap.size ≤ R) : Below w0.heap.size w0 w' :=
 h.trans (ho.below h.size (fun k hk => by rw [hk]; exact hR))
set_option maxHeartbeats 6400000 in
set_option maxRecDepth 1000000 in
theorem rtake_any (s : ByteArray) (w : World) (hs : s.size ≤ 140737488355328) : Calls Tryz.prog 16 #[.string s] w (RTPost (bl s) w) := by
 obtain ⟨l, hl⟩ : ∃ l, bl s = l := ⟨_, rfl⟩
 have hsl : s = txt l := by rw [← hl]; rfl
 rw [hl]
 subst hsl
 have hll : l.length ≤ 140737488355328 := by rw [byt.txt_size] at hs; exact hs
 clear hl hs
 obtain ⟨S, hS⟩ : ∃ S, txt l = S := ⟨_, rfl⟩
 rw [hS]
 have HS := Lib.hid hS
 clear hS
 have HL := Lib.hid hll
 have hb2 : Below w.heap.size w ((w.alloc (.cells #[.string S, .int .i64 0] 95)).alloc (.cells #[.slice none 0 0] 98)) := (below_made _ _).alloc (by simp) _
 have hr2 : RdAt ((w.alloc (.cells #[.string S, .int .i64 0] 95)).alloc (.cells #[.slice none 0 0] 98)) w.heap.size (l, 0) := by
  unfold RdAt
  rw [HS.out, Below.heap_alloc _ _ _ (by simp)]
  exact Go.heap_alloc_new w _
 have ht2 := Go.heap_alloc_new (w.alloc (.cells #[.string S, .int .i64 0] 95)) (.cells #[.slice none 0 0] 98)
 rw [World.size_alloc] at ht2
 have hsz2 : ((w.alloc (.cells #[.string S, .int .i64 0] 95)).alloc (.cells #[.slice none 0 0] 98)).heap.size = w.heap.size + 2 := by simp
 obtain ⟨W2, hW2⟩ : ∃ W, (w.alloc (.cells #[.string S, .int .i64 0] 95)).alloc (.cells #[.slice none 0 0] 98) = W := ⟨_, rfl⟩
 have HW2 := Lib.hid hW2
 rw [hW2] at hb2 hr2 ht2 hsz2
 obtain ⟨R, hR⟩ : ∃ R, w.heap.size = R := ⟨_, rfl⟩
 have HRR := Lib.hid hR
 have HWI := Lib.hid (within_any 320 (by omega) hr2 HL.out)
 obtain ⟨m, hm⟩ : ∃ m, (withinO 320 (l, 0)).1 = m := ⟨_, rfl⟩
 obtain ⟨s1, hs1⟩ : ∃ s1, (withinO 320 (l, 0)).2 = s1 := ⟨_, rfl⟩
 have hin := within_in (most := 320) (by omega) (l, 0)
 rw [hm] at hin
 obtain ⟨M, hM⟩ : ∃ M : Nat, m = (M : Int) := ⟨m.toNat, by omega⟩
 subst hM
 have hM320 : M ≤ 320 := by omega
 have HTK : Hid (takeT l = endO (goO M [] s1)) := Lib.hid (by unfold takeT; rw [hm, hs1, Int.toNat_natCast])
 have hl1 : s1.1.length ≤ 140737488355328 := by
  rw [← hs1]; unfold withinO
  have := num_rest (l, 0)
  simp only at this
  split <;> (first | (dsimp only; omega) | omega)
 rw [hm, hs1] at HWI
 have HL1 := Lib.hid hl1
 have hbl2 : Bld W2 (w.heap.size + 1) (w.heap.size + 2) (.slice none 0 0) [] := ⟨ht2, World.ownsRow_nil _ _ _ _, by simp⟩
 have HBL2 := Lib.hid hbl2
 have HRD2 := Lib.hid hr2
 have HB2 := Lib.hid hb2
 have HSZ2 := Lib.hid hsz2
 rw [hR] at HWI HRD2 HBL2 HSZ2
 obtain ⟨r, hr⟩ : ∃ r, R + 1 = r := ⟨_, rfl⟩
 obtain ⟨B, hB⟩ : ∃ B, R + 2 = B := ⟨_, rfl⟩
 rw [hr, hB] at HBL2
 have HRL : Hid (R < r ∧ r < B ∧ w.heap.size ≤ R ∧ B = R + 2) := Lib.hid (by omega)
 clear hs1 hm hin hl1 hll hb2 hr2 ht2 hsz2 hW2 hbl2 hR hB
 go_enter Tryz.func16, Tryz.ntmps16
 go_wp2_with fail
 rw [HW2.out, HRR.out, hr]
 refine HWI.out.mono ?_
 rintro e w3 ⟨rfl, hr3, ho3⟩
 have HREL0 : Hid (RTRel w w3 R r B M 0 s1) := Lib.hid ⟨_, [], s1, HBL2.out.onlyR HRD2.out ho3, Good.nil, hr3, by rw [Nat.sub_zero]; rfl, rfl, HL1.out, rt_only HB2.out ho3 HRL.out.2.2.1, by have := ho3.size; have := HSZ2.out; have := HRL.out; omega⟩
 clear hr3 ho3 hr
 go_wp2_with fail
 go_loopg [7] M (fun g v7 wr => ∃ k : Nat, k + g = M ∧ v7 = .int .i64 k ∧ RTRel w wr R r B M k s1)
 case atStart => exact ⟨0, by omega, rfl, HREL0.out⟩
 case round =>
  rename World => wr
  obtain ⟨k, hkg, rfl, v, rs, st, hbl, hgd, hrd, hgo, hlk, hst, hbw, hbs⟩ := hrel
  have HBL := Lib.hid hbl
  have HGD := Lib.hid hgd
  have HRD := Lib.hid hrd
  have HGO := Lib.hid hgo
  have HLK := Lib.hid hlk
  have HST := Lib.hid hst
  have HBW := Lib.hid hbw
  have HBS := Lib.hid hbs
  have HKG := Lib.hid hkg
  clear hbl hgd hrd hgo hlk hst hbw hbs
  cases gk with
  | zero =>
   have hkz : ¬ ((k : Int) < (M : Int)) := by omega
   have hG0 : takeT l = endO (0, rs.map Rw.p, st) := by
    rw [HTK.out, ← HGO.out, show M - k = 0 by omega]; rfl
   obtain ⟨c0, c1, f0, f1⟩ := HRD.out.facts
   by_cases h2 : st.2 = 0
   · rw [h2] at c1
     by_cases h1 : st.1 = []
     · have hF : takeT l = (0, rs.map Rw.p) := by rw [hG0]; unfold endO; simp [h1, h2]
       have HF : Hid (RTPost l w (.returned (.tuple #[.pointer (some ⟨r, 0, none⟩), .int .i64 0])) wr) := Lib.hid (rt_fine hF ⟨HGD.out, rs, rfl, HBL.out.isRs⟩ (by have := HRL.out; omega) HBW.out)
       rw [h1] at c0
       change wr.cell? ⟨R, 0, none⟩ = some (.string ⟨#[]⟩) at c0
       clear hG0 hF h1 h2 hkg
       go_wp2_with fail
       try rw [Exit.noGoto_ret]
       go_ret2
       exact HF.out
     · have hF : takeT l = (21, []) := by rw [hG0]; unfold endO; simp [h1, h2]
       have HF : Hid (RTPost l w (.returned (.tuple #[.pointer none, .int .i64 21])) (wr.setCell ⟨R, 1, none⟩ (.int .i64 21)).drew) := Lib.hid (rt_fails hF (by simp) (rt_only HBW.out (Only.setCell wr R 1 _) HRL.out.2.2.1).drew)
       obtain ⟨T, hT⟩ : ∃ T, txt st.1 = T := ⟨_, rfl⟩
       have hne : T ≠ ⟨#[]⟩ := fun e => h1 (by rw [e] at hT; exact (congrArg bl hT : bl (txt st.1) = bl ⟨#[]⟩))
       have hne2 := byt.str_ne hne
       have hne3 : T.toList.isEmpty = false := by
        cases hx : T.toList with
        | nil => rw [hx] at hne2; simp at hne2
        | cons => rfl
       obtain ⟨e0, e1, -, -⟩ := (HRD.out.setC 21).facts
       rw [hT] at c0
       clear hG0 hF h1 h2 hkg hT e0
       go_wp2_with fail
       go_region
       go_wp2_with fail
       try rw [Exit.noGoto_ret]
       go_ret2
       exact HF.out
   · have hF : takeT l = (st.2, []) := by rw [hG0]; unfold endO; simp [h2]
     have HF : Hid (RTPost l w (.returned (.tuple #[.pointer none, .int .i64 st.2])) wr.drew) := Lib.hid (rt_fails hF h2 HBW.out.drew)
     obtain ⟨c, hc⟩ : ∃ c, st.2 = c := ⟨_, rfl⟩
     rw [hc] at c1 HF h2
     have hne : (c != 0) = true := by simp [h2]
     have hne2 : (c == 0) = false := by simp [h2]
     clear hG0 hF h2 hkg hc
     go_wp2_with fail
     go_region
     go_wp2_with fail
     try rw [Exit.noGoto_ret]
     go_ret2
     exact HF.out
  | succ g =>
   have hkz : (k : Int) < (M : Int) := by omega
   have HNU := Lib.hid (number_any HRD.out HST.out)
   unfold NumPost at HNU
   clear hkg
   go_wp2_with fail
   refine HNU.out.mono ?_
   rintro e w4 ⟨rfl, hr4, ho4⟩
   have HBL4 := Lib.hid (HBL.out.onlyR HRD.out ho4)
   have HBW4 := Lib.hid (rt_only HBW.out ho4 HRL.out.2.2.1)
   have HRD4 := Lib.hid hr4
   have HBS4 := Lib.hid (Nat.le_trans HBS.out ho4.size)
   have HNU2 := Lib.hid (number_any hr4 (Nat.le_trans (num_rest st) HST.out))
   unfold NumPost at HNU2
   clear hr4 ho4
   go_wp2_with fail
   refine HNU2.out.mono ?_
   rintro e w5 ⟨rfl, hr5, ho5⟩
   have HBL5 := Lib.hid (HBL4.out.onlyR HRD4.out ho5)
   have HBW5 := Lib.hid (rt_only HBW4.out ho5 HRL.out.2.2.1)
   have HBS5 := Lib.hid (Nat.le_trans HBS4.out ho5.size)
   have HRD5 := Lib.hid hr5
   have HKF := Lib.hid (num_fits st)
   have HGR := Lib.hid (show goO (g + 1) (rs.map Rw.p) st = goO M [] s1 by rw [← HGO.out]; congr 1; have := HKG.out; omega)
   have HFA := Lib.hid (go_fault (g := g) (L := rs.map Rw.p) (st := st))
   have HBA := Lib.hid (go_bad (g := g) (L := rs.map Rw.p) (st := st))
   have HNE := Lib.hid (go_next (g := g) (L := rs.map Rw.p) (st := st))
   have HF16 := Lib.hid (cell_fine (numO st).2)
   have HRE : Hid ((cellO (numO st).2).2.1.length ≤ 140737488355328) := Lib.hid (Nat.le_trans (cell_rest _) (Nat.le_trans (num_rest st) HST.out))
   have HR2 : Hid ((numO (numO st).2).2.1.length ≤ 140737488355328) := Lib.hid (Nat.le_trans (num_rest _) (Nat.le_trans (num_rest st) HST.out))
   obtain ⟨key, hkey⟩ : ∃ x, (numO st).1 = x := ⟨_, rfl⟩
   obtain ⟨x, hx⟩ : ∃ x, (numO (numO st).2).1 = x := ⟨_, rfl⟩
   obtain ⟨s4, hs4⟩ : ∃ s, (numO (numO st).2).2 = s := ⟨_, rfl⟩
   obtain ⟨m2, hm2⟩ : ∃ m, (withinO 16 s4).1 = m := ⟨_, rfl⟩
   obtain ⟨s2, hs2⟩ : ∃ s, (withinO 16 s4).2 = s := ⟨_, rfl⟩
   have hin2 := within_in (most := 16) (by omega) s4
   rw [hm2] at hin2
   obtain ⟨M2, hM2⟩ : ∃ M : Nat, m2 = (M : Int) := ⟨m2.toNat, by omega⟩
   subst hM2
   have hM16 : M2 ≤ 16 := by omega
   have hco : cellO (numO st).2 = ((x, (numsR M2 s2).1), (numsR M2 s2).2) := by
    unfold cellO
    rw [hx, hs4, hm2, hs2, Int.toNat_natCast]
   rw [hco] at HFA HBA HNE HF16 HRE
   rw [hkey] at HBA HNE HKF
   rw [hs4] at HRD5 HR2
   have hl2 : s2.1.length ≤ 140737488355328 := by
    rw [← hs2]; unfold withinO
    have := num_rest s4
    have := HR2.out
    split <;> (first | (dsimp only; omega) | omega)
   have HL2 := Lib.hid hl2
   have hbx := Box2.new w5 (x, none, 0, 0)
   dsimp only at hbx
   have hb6 : Below w5.heap.size w5 (w5.alloc (.cells #[.int .i64 x, .slice none 0 0] 77)) := below_made _ _
   obtain ⟨W6, hW6⟩ : ∃ W, w5.alloc (.cells #[.int .i64 x, .slice none 0 0] 77) = W := ⟨_, rfl⟩
   rw [hW6] at hbx hb6
   have HW6 := Lib.hid hW6
   obtain ⟨N, hN⟩ : ∃ N, w5.heap.size = N := ⟨_, rfl⟩
   have HNN := Lib.hid hN
   rw [hN] at hbx
   have HNW : Hid (w5.heap.size ≤ N) := Lib.hid (by omega)
   have HNR : Hid (¬ N = R) := Lib.hid (fun e => by have := lt_of_get HRD5.out; omega)
   have HB6 := Lib.hid hb6
   have HBX6 := Lib.hid hbx
   have HWI2 := Lib.hid (within_any 16 (by omega) (HRD5.out.below hb6) HR2.out)
   rw [hm2, hs2] at HWI2
   rw [hkey, hx]
   clear hr5 ho5 hkey hx hs4 hm2 hs2 hin2 hco hl2 hbx hb6 hW6 hN
   go_wp2_with fail
   rw [HW6.out, HNN.out]
   refine HWI2.out.mono ?_
   rintro e w7 ⟨rfl, hr7, ho7⟩
   have HR0 : Hid (CellRel w5 w7 w5.heap.size R N x s2 0) := Lib.hid ⟨_, none, 0, rfl, (ho7.block N (lt_of_get HBX6.out) HNR.out).trans HBX6.out, World.ownsRow_nil _ _ _ _, hr7, (Only.of_below HB6.out).then ho7⟩
   clear hr7 ho7
   go_wp2_with fail
   go_loopg [11] M2 (fun g v11 wr => ∃ j : Nat, j + g = M2 ∧ v11 = .int .i64 j ∧ CellRel w5 wr w5.heap.size R N x s2 j)
   case atStart => exact ⟨0, by omega, rfl, HR0.out⟩
   case round =>
    rename World => wr2
    obtain ⟨j, hjg, rfl, v2, va, vc, rfl, hbx, hown, hrdj, hon⟩ := hrel
    have HBX := Lib.hid hbx
    have HOWN := Lib.hid hown
    have HRDj := Lib.hid hrdj
    have HON := Lib.hid hon
    have HJG := Lib.hid hjg
    obtain ⟨x0, x1, y0, y1⟩ := hbx.facts
    dsimp only at x0 x1
    clear hbx hown hrdj hon y0 y1
    cases gk with
    | succ gj =>
     have hjz : (j : Int) < (M2 : Int) := by omega
     have HNUM := Lib.hid (number_any (w := wr2.drew) (R := R) (s := (numsR j s2).2) HRDj.out (Nat.le_trans (nums_rest j s2) HL2.out))
     unfold NumPost at HNUM
     have HWL : Hid (w5.heap.size ≤ wr2.heap.size) := Lib.hid HON.out.size
     clear hjg
     go_wp2_with fail
     refine dsk.wp_region_peel2 (by kernel_rfl) (by simp only [List.dropLast_cons_cons, List.dropLast_singleton]; exact rfl) rfl (by kernel_rfl) ?_
     refine wpAny_of_held (S := fun w' => w'.cell? ⟨N, 1, none⟩ = some (.slice va j vc)) _ _ _ _ ?_
     have hHeld := (show wr2.drew.cell? ⟨N, 1, none⟩ = some (.slice va j vc) from x1)
     refine wpAnyH_take (i := 0) (v := ?v1) rfl (by kernel_rfl) (by kernel_rfl) (by kernel_rfl) (fun _ _ _ h => h) (Or.inl ⟨by rfl, ?hy1⟩) (by assumption) ?rest1
     case hy1 => (intro w0 hSw; go_simp; try with_reducible rfl)
     refine wpAnyH_take (i := 1) (v := ?v2) rfl (by kernel_rfl) (by kernel_rfl) (by kernel_rfl) (fun _ _ _ h => h) (Or.inl ⟨by rfl, ?hy2⟩) (by assumption) ?rest2
     case hy2 => (intro w0 hSw; go_simp; try with_reducible rfl)
     refine wpAnyH_take (i := 2) (v := ?v3) rfl (by kernel_rfl) (by kernel_rfl) (by kernel_rfl) (fun _ _ _ h => h) (Or.inl ⟨by rfl, ?hy3⟩) (by assumption) ?rest3
     case hy3 => (intro w0 hSw; go_simp; try with_reducible rfl)
     try simp only [Act.put, List.setIfInBounds_toArray, List.set_cons_zero, List.set_cons_succ]
     refine wpAnyH_ready (rs := [3]) (by kernel_rfl) (by simp) ?_
     refine AllReadyH.cons rfl (fun KQ hKQ => ?_) AllReadyH.nil
     go_simp
     refine HNUM.out.mono ?_
     rintro e W1 ⟨rfl, hr1, ho1⟩
     have ho1 : Only (· = R) wr2 W1 := ⟨ho1.os, ho1.tape, ho1.output, ho1.size, ho1.block⟩
     have hbx1 : Box2 W1 N (x, va, j, vc) := (ho1.block N (lt_of_get HBX.out) HNR.out).trans HBX.out
     have hv1 : W1.ownsRow w5.heap.size 2 1 (.slice va j vc) j ((numsR j s2).1.map intV) := own_only HOWN.out ho1 (fun j hj e => by
       obtain ⟨cur, h2, _⟩ := own_blk HOWN.out hj
       rw [e, HRDj.out] at h2; cases h2)
     refine hKQ.out _ _ ?_ (fun hHeld => ?_)
     · exact hbx1.facts.2.1
     clear hKQ KQ
     try simp only [Act.put, List.setIfInBounds_toArray, List.set_cons_zero, List.set_cons_succ]
     refine wpAnyH_ready (rs := [4]) (by kernel_rfl) (by simp) ?_
     refine AllReadyH.cons rfl (fun KQ hKQ => ?_) AllReadyH.nil
     go_simp
     refine hKQ.out _ _ ?_ (fun hHeld => ?_)
     · exact (Box2.below hbx1 (below_made _ _)).facts.2.1
     clear hKQ KQ
     try simp only [Act.put, List.setIfInBounds_toArray, List.set_cons_zero, List.set_cons_succ]
     refine wpAnyH_ready (rs := [5]) (by kernel_rfl) (by simp) ?_
     refine AllReadyH.cons rfl (fun KQ hKQ => ?_) AllReadyH.nil
     have hle1 : w5.heap.size ≤ W1.heap.size := Nat.le_trans HWL.out ho1.size
     obtain ⟨v5, w6, hr6, ho6, hg6⟩ := app_run (grp.own_below hv1 (below_made W1 (.cells #[.int .i64 (numO (numsR j s2).2).1] 2))) (sl_new W1 [(numO (numsR j s2).2).1] 2 1) (by rw [nums_len]; simp only [List.length_cons, List.length_nil]; omega) (by rw [World.size_alloc]; omega) 74
     obtain ⟨hbx6, hst6⟩ := cell_step (w := w5) (N := N) (s := s2) HNW.out (Nat.le_refl _) rfl HOWN.out HON.out HNR.out hr1 ho1 hbx1 rfl ho6 hg6 hv1
     obtain ⟨-, a5, cap5, hv5, -⟩ := NR.own ho6
     rw [show ((numsR j s2).1 ++ [(numO (numsR j s2).2).1]).length = j + 1 by rw [List.length_append, nums_len]; rfl] at hv5
     subst hv5
     have hr6' : (Builtin.append_ #[74, 74] 74 #[.slice va j vc, .slice (some ⟨W1.heap.size, 0, none⟩) 1 1]).run Tryz.prog (W1.alloc (.cells #[.int .i64 (numO (numsR j s2).2).1] 2)) = .ok (.slice a5 (j + 1) cap5) w6 := hr6
     refine step_app rfl (.tmp 37) (.tmp 40) 74 rfl rfl (by rfl) hr6' ?_
     refine hKQ.out _ _ ?_ (fun hHeld => ?_)
     · exact hbx6.facts.2.1
     clear hKQ KQ
     refine wpAnyH_take (i := 6) (v := ?v4) rfl (by kernel_rfl) (by kernel_rfl) (by kernel_rfl) (fun _ _ _ h => h) (Or.inl ⟨by rfl, ?hy4⟩) (by assumption) ?rest4
     case hy4 => (intro w0 hSw; go_simp; try with_reducible rfl)
     try simp only [Act.put, List.setIfInBounds_toArray, List.set_cons_zero, List.set_cons_succ]
     refine wpAnyH_done (by kernel_rfl) ?_ _
     change wpList _ _ _ _ _ _
     have HREL := Lib.hid (hst6 a5 cap5 rfl)
     obtain ⟨z0, z1, y0, y1⟩ := hbx6.facts
     dsimp only at z0 z1
     clear hst6 hbx6 hr6' hr6 ho6 hg6 hr1 ho1 hbx1 hv1 hHeld x0 x1
     go_wp2_with fail
     go_roundg gj
     case measure => omega
     case rel => exact ⟨j + 1, by have := HJG.out; omega, by go_num, HREL.out⟩
    | zero =>
     have hjz : ¬ ((j : Int) < (M2 : Int)) := by omega
     obtain rfl : j = M2 := by omega
     obtain ⟨-, a9, cap9, hv9, hna9⟩ := NR.own HOWN.out
     rw [nums_len] at hv9
     simp only [Value.slice.injEq, true_and] at hv9
     obtain ⟨rfl, rfl⟩ := hv9
     have HNA := Lib.hid hna9
     have HBL7 := Lib.hid (HBL5.out.onlyR HRD5.out HON.out)
     have HBW7 := Lib.hid (rt_only HBW5.out HON.out HRL.out.2.2.1)
     have HBS7 := Lib.hid (Nat.le_trans HBS5.out HON.out.size)
     have HNL := Lib.hid (nums_len j s2)
     obtain ⟨ns, hns⟩ : ∃ ns, (numsR j s2).1 = ns := ⟨_, rfl⟩
     obtain ⟨s5, hs5⟩ : ∃ s, (numsR j s2).2 = s := ⟨_, rfl⟩
     rw [hns] at HNA HNE HF16 HNL
     rw [hs5] at HRDj HFA HBA HNE HRE
     have hnaX := HNA.out
     clear hna9 hns hs5 hnaX hjg
     obtain ⟨c0, c1, f0, f1⟩ := HRDj.out.facts
     by_cases h5 : s5.2 = 0
     · rw [h5] at c1
       have HBADT : Hid (∀ w', takeT l = (21, []) → Below w.heap.size w w' → RTPost l w (.returned (.tuple #[.pointer none, .int .i64 21])) w') := Lib.hid (fun w' e hb => rt_fails e (by simp) hb)
       have HBAD : Hid (badB (rs.map Rw.p) key = true → takeT l = (21, [])) := Lib.hid (fun e => by
        rw [HTK.out, ← HGR.out, HBA.out h5 e]; unfold endO; simp)
       have HOF := Lib.hid (fun w => rof_any key w HKF.out)
       have HMY := Lib.hid (many_any HBL7.out.isRs HGD.out (gof key))
       have HGB0 : Hid (badB (rs.map Rw.p) key = ((match (rs.map Rw.p).getLast? with | none => false | some p => !lessB p.1 key) || decide (40 ≤ cnt (rs.map Rw.p) (gof key)))) := Lib.hid rfl
       obtain ⟨ct, hct⟩ : ∃ c, cnt (rs.map Rw.p) (gof key) = c := ⟨_, rfl⟩
       obtain ⟨gq, hgq⟩ : ∃ c, gof key = c := ⟨_, rfl⟩
       rw [hct] at HMY HGB0
       rw [hgq] at HOF HMY
       clear hct hgq
       by_cases hk0 : 0 < (k : Int)
       · obtain ⟨k1, hk1⟩ : ∃ k1, k1 + 1 = k := ⟨k - 1, by omega⟩
         have hkl : k1 < rs.length := by have := HLK.out; omega
         obtain ⟨gb, o, c2, hv2, e1, -, -⟩ := (Sr.own HBL7.out.2.1).2.at hkl
         have cr := cell_of_row wr2 r 0 _ _ _ HBL7.out.1
         rw [HLK.out] at hv2
         rw [hv2] at cr
         change wr2.cell? ⟨r, 0, none⟩ = some (.slice (some ⟨gb, o, none⟩) k c2) at cr
         have HLE := Lib.hid (rless_any rs[k1].key key wr2 (HGD.out.key rs[k1].p (List.mem_map_of_mem (List.getElem_mem hkl))) HKF.out)
         have hgl : (rs.map Rw.p).getLast? = some rs[k1].p := by
          rw [List.getLast?_eq_getElem?, List.length_map, show rs.length - 1 = k1 by have := HLK.out; omega, List.getElem?_map, List.getElem?_eq_getElem hkl]; rfl
         have HGB1 : Hid (badB (rs.map Rw.p) key = (!lessB rs[k1].key key || decide (40 ≤ ct))) := Lib.hid (by rw [HGB0.out, hgl]; rfl)
         obtain ⟨lk, hlk⟩ : ∃ y, rs[k1].key = y := ⟨_, rfl⟩
         rw [hlk] at e1 HLE HGB1
         obtain ⟨lb, hlb⟩ : ∃ y, lessB lk key = y := ⟨_, rfl⟩
         rw [hlb] at HLE HGB1
         have hwr : IntKind.i64.wrap ((k : Int) - 1) = (k1 : Int) := by rw [IntKind.wrap_i64]; omega
         have hk10 : (0 : Int) ≤ (k1 : Int) := by omega
         have hk1k : (k1 : Int) < (k : Int) := by omega
         clear hgl hlk hlb hkl hv2 HGB0
         cases lb with
         | false =>
          have HBD : Hid (RTPost l w (.returned (.tuple #[.pointer none, .int .i64 21])) (wr2.setCell ⟨R, 1, none⟩ (.int .i64 21)).drew) := Lib.hid (HBADT.out _ (HBAD.out (by rw [HGB1.out]; rfl)) (rt_only HBW7.out (Only.setCell wr2 R 1 _) HRL.out.2.2.1).drew)
          obtain ⟨e0, e2, -, -⟩ := (HRDj.out.setC 21).facts
          clear e0 c0
          go_wp2_with fail
          refine HLE.out.mono ?_
          rintro e w8 ⟨rfl, rfl⟩
          go_wp2_with fail
          go_region
          go_wp2_with fail
          try rw [Exit.noGoto_ret]
          go_ret2
          exact HBD.out
         | true =>
          have HGBL : Hid (badB (rs.map Rw.p) key = decide (40 ≤ ct)) := Lib.hid (by rw [HGB1.out]; simp)
          clear c0 hk1
          go_wp2_with fail
          refine HLE.out.mono ?_
          rintro e w8 ⟨rfl, rfl⟩
          clear e1 cr
          go_wp2_with fail
          refine (HOF.out _).mono ?_
          rintro e w8 ⟨rfl, rfl⟩
          go_wp2_with fail
          refine HMY.out.mono ?_
          rintro e w8 ⟨rfl, hb8⟩
          have HBX8 := Lib.hid (HBX.out.below hb8)
          have HRD8 := Lib.hid (HRDj.out.below hb8)
          have HBL8 := Lib.hid (HBL7.out.below hb8)
          have HBW8 := Lib.hid (below_on' HBW7.out hb8)
          have HBS8 := Lib.hid (Nat.le_trans HBS7.out hb8.size)
          have HNA8 := Lib.hid (HNA.out.keep (.of_below hb8))
          obtain ⟨d0, d1, d2, d3⟩ := HRD8.out.facts
          rw [h5] at d1
          clear hb8
          by_cases h40 : 40 ≤ ct
          · have h40i : (40 : Int) ≤ (ct : Int) := by omega
            have HBD : Hid (RTPost l w (.returned (.tuple #[.pointer none, .int .i64 21])) (w8.setCell ⟨R, 1, none⟩ (.int .i64 21)).drew) := Lib.hid (HBADT.out _ (HBAD.out (by rw [HGBL.out]; simp [h40])) (rt_only HBW8.out (Only.setCell w8 R 1 _) HRL.out.2.2.1).drew)
            obtain ⟨e0, e1, -, -⟩ := (HRD8.out.setC 21).facts
            clear e0 d0
            go_wp2_with fail
            go_region
            go_wp2_with fail
            try rw [Exit.noGoto_ret]
            go_ret2
            exact HBD.out
          · have h40i : ¬ ((40 : Int) ≤ (ct : Int)) := by omega
            have hgood : badB (rs.map Rw.p) key = false := by rw [HGBL.out]; simp [h40]
            have hlast := (HGD.out.last HKF.out HF16.out hgood).1
            have hgo := (HGR.out.symm.trans (HNE.out h5 hgood)).symm
            have HLAST := Lib.hid hlast
            have HGOX := Lib.hid hgo
            obtain ⟨q1, q2, -, -⟩ := HBX8.out.facts
            dsimp only at q1 q2
            have q0 : w8.cell? ⟨r, 0, none⟩ = some v := by rw [cell_of_row w8 r 0 _ _ _ HBL8.out.1]; rfl
            have hsr : Sr (w8.drew.alloc (.cells #[.int .i64 key, .int .i64 x, .slice va j vc] 101)) (.slice (some ⟨w8.drew.heap.size, 0, none⟩) 1 1) [⟨key, x, va, ns, vc⟩] := by
             have := sr_new w8.drew ⟨key, x, va, ns, vc⟩
             dsimp only at this
             rw [HNL.out] at this
             exact this
            obtain ⟨v9, w9, hr9, ho9, hg9⟩ := app3_run (own_below3 (show w8.drew.ownsRow B 101 3 v rs.length (cells3 rs) from HBL8.out.2.1) (below_made w8.drew (.cells #[.int .i64 key, .int .i64 x, .slice va j vc] 101))) hsr (by have := HLK.out; have := HKG.out; simp only [List.length_cons, List.length_nil]; omega) (by rw [World.size_alloc]; exact Nat.le_trans HBS8.out (Nat.le_succ _)) 96
            have hbd : Bld w8.drew r B v rs := HBL8.out
            have hmo := hbd.more (x := ⟨key, x, va, ns, vc⟩) HNA8.out (by rw [show cells3 [(⟨key, x, va, ns, vc⟩ : Rw)] = (⟨key, x, va, ns, vc⟩ : Rw).cells by simp [cells3]] at ho9; exact ho9) hg9 HRL.out.2.1
            obtain ⟨a9, c9, hv9⟩ := (Sr.own hmo.1.2.1).2.len
            rw [show (rs ++ [(⟨key, x, va, ns, vc⟩ : Rw)]).length = k + 1 by simp [HLK.out]] at hv9
            subst hv9
            have hbx9 : Box2 w9 N (x, va, j, vc) := hbd.kept hg9 N _ HBX8.out (fun cur e => by cases e)
            have hrd9 : RdAt w9 R s5 := hbd.kept hg9 R _ HRD8.out (fun cur e => by cases e)
            have HREL : Hid (RTRel w (w9.setCell ⟨r, 0, none⟩ (.slice a9 (k + 1) c9)) R r B M (k + 1) s1) := Lib.hid (by
             have hon : Only (fun i => i = r ∨ B ≤ i) w8 (w9.setCell ⟨r, 0, none⟩ (.slice a9 (k + 1) c9)) := ⟨hmo.2.1.os, hmo.2.1.tape, hmo.2.1.output, hmo.2.1.size, hmo.2.1.block⟩
             refine ⟨_, rs ++ [⟨key, x, va, ns, vc⟩], s5, hmo.1, by rw [List.map_append]; exact HLAST.out, ?_, ?_, by simp [HLK.out], HRE.out, ?_, Nat.le_trans HBS8.out hon.size⟩
             · exact (Below.heap_setCell _ _ _ _ (fun e => by have := HRL.out; have e : R = r := e; omega)).trans hrd9
             · rw [← HGOX.out, List.map_append]
               congr 1
               have := HKG.out; omega
             · exact HBW8.out.trans (hon.below HBW8.out.size (fun i hi => by have := HRL.out; omega)))
            obtain ⟨z1, z2, -, -⟩ := hbx9.facts
            dsimp only at z1 z2
            have z0 : w9.cell? ⟨r, 0, none⟩ = some v := by rw [cell_of_row w9 r 0 _ _ _ hmo.2.2]; rfl
            have zf := frozen_of_row w9 r 0 _ _ hmo.2.2
            have hb8n := below_made w8.drew (.cells #[.int .i64 key, .int .i64 x, .slice va j vc] 101)
            have LQ : w9.cell? ⟨r, 0, none⟩ = some v ∧ w9.cell? ⟨N, 0, none⟩ = some (.int .i64 x) ∧ w9.cell? ⟨N, 1, none⟩ = some (.slice va j vc) := ⟨z0, z1, z2⟩
            have LP : (w8.drew.alloc (.cells #[.int .i64 key, .int .i64 x, .slice va j vc] 101)).cell? ⟨r, 0, none⟩ = some v ∧ (w8.drew.alloc (.cells #[.int .i64 key, .int .i64 x, .slice va j vc] 101)).cell? ⟨N, 0, none⟩ = some (.int .i64 x) ∧ (w8.drew.alloc (.cells #[.int .i64 key, .int .i64 x, .slice va j vc] 101)).cell? ⟨N, 1, none⟩ = some (.slice va j vc) :=
             ⟨(hb8n.cell (p := ⟨r, 0, none⟩) (lt_of_get HBL8.out.1)).trans q0, (hb8n.cell (p := ⟨N, 0, none⟩) (lt_of_get HBX8.out)).trans q1, (hb8n.cell (p := ⟨N, 1, none⟩) (lt_of_get HBX8.out)).trans q2⟩
            clear hbx9 hrd9 hmo hbd ho9 hg9 hsr hgo hlast hgood d0 h40 hb8n
            go_wp2_with fail
            refine dsk.wp_region_peel2 (by kernel_rfl) (by simp only [List.dropLast_cons_cons, List.dropLast_singleton]; exact rfl) rfl (by kernel_rfl) ?_
            refine wpAny_of_held (S := fun w' => w'.cell? ⟨r, 0, none⟩ = some v ∧ w'.cell? ⟨N, 0, none⟩ = some (.int .i64 x) ∧ w'.cell? ⟨N, 1, none⟩ = some (.slice va j vc)) _ _ _ _ ?_
            have hHeld := (show w8.drew.cell? ⟨r, 0, none⟩ = some v ∧ w8.drew.cell? ⟨N, 0, none⟩ = some (.int .i64 x) ∧ w8.drew.cell? ⟨N, 1, none⟩ = some (.slice va j vc) from ⟨q0, q1, q2⟩)
            refine wpAnyH_take (i := 0) (v := ?v5) rfl (by kernel_rfl) (by kernel_rfl) (by kernel_rfl) (fun _ _ _ h => h) (Or.inl ⟨by rfl, ?hy5⟩) (by assumption) ?rest5
            case hy5 => (intro w0 hSw; go_simp; try with_reducible rfl)
            refine wpAnyH_take (i := 1) (v := ?v6) rfl (by kernel_rfl) (by kernel_rfl) (by kernel_rfl) (fun _ _ _ h => h) (Or.inl ⟨by rfl, ?hy6⟩) (by assumption) ?rest6
            case hy6 => (intro w0 hSw; go_simp; try with_reducible rfl)
            refine wpAnyH_take (i := 2) (v := ?v7) rfl (by kernel_rfl) (by kernel_rfl) (by kernel_rfl) (fun _ _ _ h => h) (Or.inl ⟨by rfl, ?hy7⟩) (by assumption) ?rest7
            case hy7 => (intro w0 hSw; go_simp; try with_reducible rfl)
            refine wpAnyH_take (i := 3) (v := ?v8) rfl (by kernel_rfl) (by kernel_rfl) (by kernel_rfl) (fun _ _ _ h => h) (Or.inl ⟨by rfl, ?hy8⟩) (by assumption) ?rest8
            case hy8 => (intro w0 hSw; go_simp; try with_reducible rfl)
            refine wpAnyH_take (i := 4) (v := ?v9) rfl (by kernel_rfl) (by kernel_rfl) (by kernel_rfl) (fun _ _ _ h => h) (Or.inl ⟨by rfl, ?hy9⟩) (by assumption) ?rest9
            case hy9 => (intro w0 hSw; go_simp; try with_reducible rfl)
            refine wpAnyH_take (i := 5) (v := ?v10) rfl (by kernel_rfl) (by kernel_rfl) (by kernel_rfl) (fun _ _ _ h => h) (Or.inl ⟨by rfl, ?hy10⟩) (by assumption) ?rest10
            case hy10 => (intro w0 hSw; go_simp; try with_reducible rfl)
            refine wpAnyH_take (i := 6) (v := ?v11) rfl (by kernel_rfl) (by kernel_rfl) (by kernel_rfl) (fun _ _ _ h => h) (Or.inl ⟨by rfl, ?hy11⟩) (by assumption) ?rest11
            case hy11 => (intro w0 hSw; go_simp; try with_reducible rfl)
            refine wpAnyH_take (i := 7) (v := ?v12) rfl (by kernel_rfl) (by kernel_rfl) (by kernel_rfl) (fun _ _ _ h => h) (Or.inl ⟨by rfl, ?hy12⟩) (by assumption) ?rest12
            case hy12 => (intro w0 hSw; go_simp; try with_reducible rfl)
            try simp only [Act.put, List.setIfInBounds_toArray, List.set_cons_zero, List.set_cons_succ]
            refine wpAnyH_ready (rs := [8]) (by kernel_rfl) (by simp) ?_
            refine AllReadyH.cons rfl (fun KQ hKQ => ?_) AllReadyH.nil
            go_simp
            refine hKQ.out _ _ ?_ (fun hHeld => ?_)
            · exact LP
            clear hKQ KQ
            try simp only [Act.put, List.setIfInBounds_toArray, List.set_cons_zero, List.set_cons_succ]
            refine wpAnyH_ready (rs := [9]) (by kernel_rfl) (by simp) ?_
            refine AllReadyH.cons rfl (fun KQ hKQ => ?_) AllReadyH.nil
            refine step_app rfl (.tmp 89) (.tmp 93) 96 rfl rfl (by rfl) hr9 ?_
            refine hKQ.out _ _ ?_ (fun hHeld => ?_)
            · exact LQ
            clear hKQ KQ
            refine wpAnyH_take (i := 10) (v := ?v13) rfl (by kernel_rfl) (by kernel_rfl) (by kernel_rfl) (fun _ _ _ h => h) (Or.inl ⟨by rfl, ?hy13⟩) (by assumption) ?rest13
            case hy13 => (intro w0 hSw; go_simp; try with_reducible rfl)
            refine wpAnyH_take (i := 11) (v := ?v14) rfl (by kernel_rfl) (by kernel_rfl) (by kernel_rfl) (fun _ _ _ h => h) (Or.inl ⟨by rfl, ?hy14⟩) (by assumption) ?rest14
            case hy14 => (intro w0 hSw; go_simp; try with_reducible rfl)
            try simp only [Act.put, List.setIfInBounds_toArray, List.set_cons_zero, List.set_cons_succ]
            refine wpAnyH_done (by kernel_rfl) ?_ _
            change wpList _ _ _ _ _ _
            clear LP LQ hr9 hHeld
            go_wp2_with fail
            go_roundg g
            case measure => omega
            case rel => exact ⟨k + 1, by have := HKG.out; omega, by go_num, HREL.out⟩
       · have hk00 : k = 0 := by omega
         have h0 : rs = [] := List.length_eq_zero_iff.1 (by rw [HLK.out, hk00])
         have HGBL : Hid (badB (rs.map Rw.p) key = decide (40 ≤ ct)) := Lib.hid (by rw [HGB0.out, h0]; simp)
         clear c0 HGB0 hk00 h0
         go_wp2_with fail
         refine (HOF.out _).mono ?_
         rintro e w8 ⟨rfl, rfl⟩
         go_wp2_with fail
         refine HMY.out.mono ?_
         rintro e w8 ⟨rfl, hb8⟩
         have HBX8 := Lib.hid (HBX.out.below hb8)
         have HRD8 := Lib.hid (HRDj.out.below hb8)
         have HBL8 := Lib.hid (HBL7.out.below hb8)
         have HBW8 := Lib.hid (below_on' HBW7.out hb8)
         have HBS8 := Lib.hid (Nat.le_trans HBS7.out hb8.size)
         have HNA8 := Lib.hid (HNA.out.keep (.of_below hb8))
         obtain ⟨d0, d1, d2, d3⟩ := HRD8.out.facts
         rw [h5] at d1
         clear hb8
         by_cases h40 : 40 ≤ ct
         · have h40i : (40 : Int) ≤ (ct : Int) := by omega
           have HBD : Hid (RTPost l w (.returned (.tuple #[.pointer none, .int .i64 21])) (w8.setCell ⟨R, 1, none⟩ (.int .i64 21)).drew) := Lib.hid (HBADT.out _ (HBAD.out (by rw [HGBL.out]; simp [h40])) (rt_only HBW8.out (Only.setCell w8 R 1 _) HRL.out.2.2.1).drew)
           obtain ⟨e0, e1, -, -⟩ := (HRD8.out.setC 21).facts
           clear e0 d0
           go_wp2_with fail
           go_region
           go_wp2_with fail
           try rw [Exit.noGoto_ret]
           go_ret2
           exact HBD.out
         · have h40i : ¬ ((40 : Int) ≤ (ct : Int)) := by omega
           have hgood : badB (rs.map Rw.p) key = false := by rw [HGBL.out]; simp [h40]
           have hlast := (HGD.out.last HKF.out HF16.out hgood).1
           have hgo := (HGR.out.symm.trans (HNE.out h5 hgood)).symm
           have HLAST := Lib.hid hlast
           have HGOX := Lib.hid hgo
           obtain ⟨q1, q2, -, -⟩ := HBX8.out.facts
           dsimp only at q1 q2
           have q0 : w8.cell? ⟨r, 0, none⟩ = some v := by rw [cell_of_row w8 r 0 _ _ _ HBL8.out.1]; rfl
           have hsr : Sr (w8.drew.alloc (.cells #[.int .i64 key, .int .i64 x, .slice va j vc] 101)) (.slice (some ⟨w8.drew.heap.size, 0, none⟩) 1 1) [⟨key, x, va, ns, vc⟩] := by
            have := sr_new w8.drew ⟨key, x, va, ns, vc⟩
            dsimp only at this
            rw [HNL.out] at this
            exact this
           obtain ⟨v9, w9, hr9, ho9, hg9⟩ := app3_run (own_below3 (show w8.drew.ownsRow B 101 3 v rs.length (cells3 rs) from HBL8.out.2.1) (below_made w8.drew (.cells #[.int .i64 key, .int .i64 x, .slice va j vc] 101))) hsr (by have := HLK.out; have := HKG.out; simp only [List.length_cons, List.length_nil]; omega) (by rw [World.size_alloc]; exact Nat.le_trans HBS8.out (Nat.le_succ _)) 96
           have hbd : Bld w8.drew r B v rs := HBL8.out
           have hmo := hbd.more (x := ⟨key, x, va, ns, vc⟩) HNA8.out (by rw [show cells3 [(⟨key, x, va, ns, vc⟩ : Rw)] = (⟨key, x, va, ns, vc⟩ : Rw).cells by simp [cells3]] at ho9; exact ho9) hg9 HRL.out.2.1
           obtain ⟨a9, c9, hv9⟩ := (Sr.own hmo.1.2.1).2.len
           rw [show (rs ++ [(⟨key, x, va, ns, vc⟩ : Rw)]).length = k + 1 by simp [HLK.out]] at hv9
           subst hv9
           have hbx9 : Box2 w9 N (x, va, j, vc) := hbd.kept hg9 N _ HBX8.out (fun cur e => by cases e)
           have hrd9 : RdAt w9 R s5 := hbd.kept hg9 R _ HRD8.out (fun cur e => by cases e)
           have HREL : Hid (RTRel w (w9.setCell ⟨r, 0, none⟩ (.slice a9 (k + 1) c9)) R r B M (k + 1) s1) := Lib.hid (by
            have hon : Only (fun i => i = r ∨ B ≤ i) w8 (w9.setCell ⟨r, 0, none⟩ (.slice a9 (k + 1) c9)) := ⟨hmo.2.1.os, hmo.2.1.tape, hmo.2.1.output, hmo.2.1.size, hmo.2.1.block⟩
            refine ⟨_, rs ++ [⟨key, x, va, ns, vc⟩], s5, hmo.1, by rw [List.map_append]; exact HLAST.out, ?_, ?_, by simp [HLK.out], HRE.out, ?_, Nat.le_trans HBS8.out hon.size⟩
            · exact (Below.heap_setCell _ _ _ _ (fun e => by have := HRL.out; have e : R = r := e; omega)).trans hrd9
            · rw [← HGOX.out, List.map_append]
              congr 1
              have := HKG.out; omega
            · exact HBW8.out.trans (hon.below HBW8.out.size (fun i hi => by have := HRL.out; omega)))
           obtain ⟨z1, z2, -, -⟩ := hbx9.facts
           dsimp only at z1 z2
           have z0 : w9.cell? ⟨r, 0, none⟩ = some v := by rw [cell_of_row w9 r 0 _ _ _ hmo.2.2]; rfl
           have zf := frozen_of_row w9 r 0 _ _ hmo.2.2
           have hb8n := below_made w8.drew (.cells #[.int .i64 key, .int .i64 x, .slice va j vc] 101)
           have LQ : w9.cell? ⟨r, 0, none⟩ = some v ∧ w9.cell? ⟨N, 0, none⟩ = some (.int .i64 x) ∧ w9.cell? ⟨N, 1, none⟩ = some (.slice va j vc) := ⟨z0, z1, z2⟩
           have LP : (w8.drew.alloc (.cells #[.int .i64 key, .int .i64 x, .slice va j vc] 101)).cell? ⟨r, 0, none⟩ = some v ∧ (w8.drew.alloc (.cells #[.int .i64 key, .int .i64 x, .slice va j vc] 101)).cell? ⟨N, 0, none⟩ = some (.int .i64 x) ∧ (w8.drew.alloc (.cells #[.int .i64 key, .int .i64 x, .slice va j vc] 101)).cell? ⟨N, 1, none⟩ = some (.slice va j vc) :=
            ⟨(hb8n.cell (p := ⟨r, 0, none⟩) (lt_of_get HBL8.out.1)).trans q0, (hb8n.cell (p := ⟨N, 0, none⟩) (lt_of_get HBX8.out)).trans q1, (hb8n.cell (p := ⟨N, 1, none⟩) (lt_of_get HBX8.out)).trans q2⟩
           clear hbx9 hrd9 hmo hbd ho9 hg9 hsr hgo hlast hgood d0 h40 hb8n
           go_wp2_with fail
           refine dsk.wp_region_peel2 (by kernel_rfl) (by simp only [List.dropLast_cons_cons, List.dropLast_singleton]; exact rfl) rfl (by kernel_rfl) ?_
           refine wpAny_of_held (S := fun w' => w'.cell? ⟨r, 0, none⟩ = some v ∧ w'.cell? ⟨N, 0, none⟩ = some (.int .i64 x) ∧ w'.cell? ⟨N, 1, none⟩ = some (.slice va j vc)) _ _ _ _ ?_
           have hHeld := (show w8.drew.cell? ⟨r, 0, none⟩ = some v ∧ w8.drew.cell? ⟨N, 0, none⟩ = some (.int .i64 x) ∧ w8.drew.cell? ⟨N, 1, none⟩ = some (.slice va j vc) from ⟨q0, q1, q2⟩)
           refine wpAnyH_take (i := 0) (v := ?v15) rfl (by kernel_rfl) (by kernel_rfl) (by kernel_rfl) (fun _ _ _ h => h) (Or.inl ⟨by rfl, ?hy15⟩) (by assumption) ?rest15
           case hy15 => (intro w0 hSw; go_simp; try with_reducible rfl)
           refine wpAnyH_take (i := 1) (v := ?v16) rfl (by kernel_rfl) (by kernel_rfl) (by kernel_rfl) (fun _ _ _ h => h) (Or.inl ⟨by rfl, ?hy16⟩) (by assumption) ?rest16
           case hy16 => (intro w0 hSw; go_simp; try with_reducible rfl)
           refine wpAnyH_take (i := 2) (v := ?v17) rfl (by kernel_rfl) (by kernel_rfl) (by kernel_rfl) (fun _ _ _ h => h) (Or.inl ⟨by rfl, ?hy17⟩) (by assumption) ?rest17
           case hy17 => (intro w0 hSw; go_simp; try with_reducible rfl)
           refine wpAnyH_take (i := 3) (v := ?v18) rfl (by kernel_rfl) (by kernel_rfl) (by kernel_rfl) (fun _ _ _ h => h) (Or.inl ⟨by rfl, ?hy18⟩) (by assumption) ?rest18
           case hy18 => (intro w0 hSw; go_simp; try with_reducible rfl)
           refine wpAnyH_take (i := 4) (v := ?v19) rfl (by kernel_rfl) (by kernel_rfl) (by kernel_rfl) (fun _ _ _ h => h) (Or.inl ⟨by rfl, ?hy19⟩) (by assumption) ?rest19
           case hy19 => (intro w0 hSw; go_simp; try with_reducible rfl)
           refine wpAnyH_take (i := 5) (v := ?v20) rfl (by kernel_rfl) (by kernel_rfl) (by kernel_rfl) (fun _ _ _ h => h) (Or.inl ⟨by rfl, ?hy20⟩) (by assumption) ?rest20
           case hy20 => (intro w0 hSw; go_simp; try with_reducible rfl)
           refine wpAnyH_take (i := 6) (v := ?v21) rfl (by kernel_rfl) (by kernel_rfl) (by kernel_rfl) (fun _ _ _ h => h) (Or.inl ⟨by rfl, ?hy21⟩) (by assumption) ?rest21
           case hy21 => (intro w0 hSw; go_simp; try with_reducible rfl)
           refine wpAnyH_take (i := 7) (v := ?v22) rfl (by kernel_rfl) (by kernel_rfl) (by kernel_rfl) (fun _ _ _ h => h) (Or.inl ⟨by rfl, ?hy22⟩) (by assumption) ?rest22
           case hy22 => (intro w0 hSw; go_simp; try with_reducible rfl)
           try simp only [Act.put, List.setIfInBounds_toArray, List.set_cons_zero, List.set_cons_succ]
           refine wpAnyH_ready (rs := [8]) (by kernel_rfl) (by simp) ?_
           refine AllReadyH.cons rfl (fun KQ hKQ => ?_) AllReadyH.nil
           go_simp
           refine hKQ.out _ _ ?_ (fun hHeld => ?_)
           · exact LP
           clear hKQ KQ
           try simp only [Act.put, List.setIfInBounds_toArray, List.set_cons_zero, List.set_cons_succ]
           refine wpAnyH_ready (rs := [9]) (by kernel_rfl) (by simp) ?_
           refine AllReadyH.cons rfl (fun KQ hKQ => ?_) AllReadyH.nil
           refine step_app rfl (.tmp 89) (.tmp 93) 96 rfl rfl (by rfl) hr9 ?_
           refine hKQ.out _ _ ?_ (fun hHeld => ?_)
           · exact LQ
           clear hKQ KQ
           refine wpAnyH_take (i := 10) (v := ?v23) rfl (by kernel_rfl) (by kernel_rfl) (by kernel_rfl) (fun _ _ _ h => h) (Or.inl ⟨by rfl, ?hy23⟩) (by assumption) ?rest23
           case hy23 => (intro w0 hSw; go_simp; try with_reducible rfl)
           refine wpAnyH_take (i := 11) (v := ?v24) rfl (by kernel_rfl) (by kernel_rfl) (by kernel_rfl) (fun _ _ _ h => h) (Or.inl ⟨by rfl, ?hy24⟩) (by assumption) ?rest24
           case hy24 => (intro w0 hSw; go_simp; try with_reducible rfl)
           try simp only [Act.put, List.setIfInBounds_toArray, List.set_cons_zero, List.set_cons_succ]
           refine wpAnyH_done (by kernel_rfl) ?_ _
           change wpList _ _ _ _ _ _
           clear LP LQ hr9 hHeld
           go_wp2_with fail
           go_roundg g
           case measure => omega
           case rel => exact ⟨k + 1, by have := HKG.out; omega, by go_num, HREL.out⟩
     · have hF : takeT l = (s5.2, []) := by rw [HTK.out, ← HGR.out, HFA.out h5]; unfold endO; simp [h5]
       have HF : Hid (RTPost l w (.returned (.tuple #[.pointer none, .int .i64 s5.2])) wr2.drew) := Lib.hid (rt_fails hF h5 HBW7.out.drew)
       obtain ⟨c, hc⟩ : ∃ c, s5.2 = c := ⟨_, rfl⟩
       rw [hc] at c1 HF h5
       have hne : (c != 0) = true := by simp [h5]
       have hne2 : (c == 0) = false := by simp [h5]
       clear hF h5 hc c0
       go_wp2_with fail
       go_region
       go_wp2_with fail
       try rw [Exit.noGoto_ret]
       go_ret2
       exact HF.out
end Go.Proofs.YtepdecnegihhhaaGreatDoor.tbl.ref
