/- What cell answers, and what it leaves in the reader. -/
import Derived.Test.YtghpbhcnblninaaTbR
namespace Go.Proofs.Ytghpbhcnblninaa.tbl
set_option linter.unusedSimpArgs false
set_option linter.unusedVariables false
open Go.RowKit
attribute [local go_sem ↓] Go.wp_at_zero Go.wp_at_succ
open Go.Proofs.Ytghpbhcnblninaa.grp (gof gof_in fits fits_wf IRow intV below_on' below_made ret_bool own_below)
open Go.Proofs.Ytghpbhcnblninaa.byt (txt)

theorem nums_rest : ∀ (k : Nat) (s : St), (numsR k s).2.1.length ≤ s.1.length
  | 0, s => Nat.le_refl _
  | k + 1, s => Nat.le_trans (nums_rest k (numO s).2) (num_rest s)
/-- The round's relation. -/
def CellRel (w wr : World) (B R N : Nat) (x : Int) (s : St) (k : Nat) : Prop :=
  ∃ v a cap, v = Value.slice a k cap ∧ Box2 wr N (x, a, k, cap) ∧ wr.ownsRow B 2 1 v k ((numsR k s).1.map intV) ∧ RdAt wr R (numsR k s).2 ∧ Only (· = R) w wr
theorem own_blk {w : World} {B e n : Nat} {v : Value} {xs : List Value} (h : w.ownsRow B e 1 v n xs) {j : Nat} (hj : v.ownBlock = some j) : ∃ cur, w.heap[j]? = some (.cells cur e (0, 0)) ∧ B ≤ j := by
  rcases h.2 with ⟨rfl, _⟩ | ⟨g, cap, cur, rfl, h1, h2, _⟩
  · simp [Value.ownBlock] at hj
  · simp [Value.ownBlock] at hj; subst hj; exact ⟨cur, h2, h1⟩
theorem only_box {w w' : World} {N : Nat} {R : Nat} (h : Only (· = R) w w') (hN : w.heap.size ≤ N) (u : Value) (o : Nat) : Only (· = R) w (w'.setCell ⟨N, o, none⟩ u) :=
  h.trans (Only.setCell w' N o u) (fun k hk hlt => by omega)
theorem Box2.setL {w : World} {N : Nat} {c : Cv} (h : Box2 w N c) (a : Option Addr) (n m : Nat) : Box2 (w.setCell ⟨N, 1, none⟩ (.slice a n m)) N (c.1, a, n, m) := by
  unfold Box2 at *
  rw [heap_setCell_same w N 1 _ _ _ h]; rfl
theorem own_cellset {w : World} {B e n : Nat} {v : Value} {xs : List Value} (h : w.ownsRow B e 1 v n xs) {N o : Nat} (hN : ∀ j, v.ownBlock = some j → j ≠ N) (u : Value) : (w.setCell ⟨N, o, none⟩ u).ownsRow B e 1 v n xs :=
  h.kept (row := some N) ⟨rfl, rfl, rfl, by simp [World.setCell], fun k hk hne => Below.heap_setCell _ _ _ _ (fun e => hne (by rw [e]))⟩ (.inr (fun e => hN N e rfl))
/-- One step. -/
theorem cell_step {w wr W1 w6 : World} {B R N : Nat} {x : Int} {s : St} {k : Nat} {v v5 : Value} {n : Int} {c : Cv} (hw : w.heap.size ≤ N) (hB : w.heap.size ≤ B)
    (hn : n = (numO (numsR k s).2).1) (hv : wr.ownsRow B 2 1 v k ((numsR k s).1.map intV)) (ho : Only (· = R) w wr) (hNR : N ≠ R)
    (h1 : RdAt W1 R (numO (numsR k s).2).2) (h1o : Only (· = R) wr W1) (hbx : Box2 W1 N c) (hc : c.1 = x)
    (h5 : w6.ownsRow B 2 1 v5 (k + 1) (((numsR k s).1 ++ [n]).map intV)) (hg : (W1.alloc (.cells #[.int .i64 n] 2)).grownBy w6 v.ownBlock) (hvo : W1.ownsRow B 2 1 v k ((numsR k s).1.map intV)) :
    Box2 w6 N c ∧ ∀ a cap, v5 = .slice a (k + 1) cap → CellRel w (w6.setCell ⟨N, 1, none⟩ (.slice a (k + 1) cap)) B R N x s (k + 1) := by
  have hb6 : ∀ j o, W1.heap[j]? = some o → (∀ cur : Array Value, o ≠ Obj.cells cur 2 (0, 0)) → w6.heap[j]? = some o := fun j o hj hno => by
    have hlt := lt_of_get hj
    rw [hg.block j (by rw [World.size_alloc]; omega) (fun e => by
      obtain ⟨cur, h2, _⟩ := own_blk hvo e.symm
      rw [hj] at h2
      exact hno cur (Option.some.inj h2)), Below.heap_alloc _ _ _ hlt]
    exact hj
  have hx6 : Box2 w6 N c := hb6 N _ hbx (fun cur e => by cases e)
  have hr6 : RdAt w6 R (numO (numsR k s).2).2 := hb6 R _ h1 (fun cur e => by cases e)
  refine ⟨hx6, fun a cap e => ?_⟩
  subst e
  have hne : ∀ j, (Value.slice a (k + 1) cap).ownBlock = some j → j ≠ N := fun j hj e => by
    obtain ⟨cur, h2, _⟩ := own_blk h5 hj
    rw [e, hx6] at h2; cases h2
  have hr7 : RdAt (w6.setCell ⟨N, 1, none⟩ (.slice a (k + 1) cap)) R (numO (numsR k s).2).2 := (Below.heap_setCell _ _ _ _ (fun e => hNR e.symm)).trans hr6
  have hx7 := hx6.setL a (k + 1) cap
  rw [hc] at hx7
  refine ⟨_, a, cap, rfl, hx7, ?_, ?_, ?_⟩
  · rw [nums_snoc, ← hn]
    exact own_cellset h5 hne _
  · rw [nums_snoc]; exact hr7
  · have h6 : Only (fun i => i = R ∨ B ≤ i) wr w6 :=
      ((h1o.on (below_made _ _)).mono (fun i hi => .inl hi)).then (.of_grown hg (fun j hj => .inr (by obtain ⟨cur, _, h2⟩ := own_blk hvo hj; exact h2)))
    have h7 : Only (· = R) w w6 := ho.trans h6 (fun i hi hlt => by
      rcases hi with hi | hi
      · exact hi
      · omega)
    exact only_box h7 hw _ _
theorem own_only {w w' : World} {B e n R : Nat} {v : Value} {xs : List Value} (h : w.ownsRow B e 1 v n xs) (ho : Only (· = R) w w') (hR : ∀ j, v.ownBlock = some j → j ≠ R) : w'.ownsRow B e 1 v n xs :=
  h.kept (row := some R) ⟨ho.os, ho.tape, ho.output, ho.size, fun k hk hne => ho.block k hk (fun e => hne (by rw [e]))⟩ (.inr (fun e => hR R e rfl))
def CellPost (R : Nat) (s : St) (w : World) (e : Ending) (w' : World) : Prop := ∃ a cap, e = .returned (mkC ((cellO s).1.1, a, (cellO s).1.2.length, cap)) ∧ NA w' a cap (cellO s).1.2 ∧ RdAt w' R (cellO s).2 ∧ Only (· = R) w w'
set_option maxHeartbeats 1600000 in
set_option maxRecDepth 1000000 in
theorem cell_any {w : World} {R : Nat} {s : St} (h : RdAt w R s) (hl : s.1.length ≤ 1000000) : Calls Try.prog 38 #[.pointer (some ⟨R, 0, none⟩)] w (CellPost R s w) := by
  have hb0 : Below w.heap.size w (w.alloc (.cells #[.int .i64 0, .slice none 0 0] 32)) := below_made _ _
  have hx0 := Box2.new w (0, none, 0, 0)
  dsimp only at hx0
  obtain ⟨N0, hN0⟩ : ∃ N, w.heap.size = N := ⟨_, rfl⟩
  obtain ⟨W0, hW0⟩ : ∃ W, w.alloc (.cells #[.int .i64 0, .slice none 0 0] 32) = W := ⟨_, rfl⟩
  have HN0 := Lib.hid hN0
  rw [hW0] at hb0 hx0
  rw [hN0] at hx0
  have HX0 := Lib.hid hx0
  have HB0 := Lib.hid hb0
  have HNUM0 := Lib.hid (number_any (h.below hb0) hl)
  unfold NumPost at HNUM0
  obtain ⟨x, hx⟩ : ∃ x, (numO s).1 = x := ⟨_, rfl⟩
  obtain ⟨s1, hs1⟩ : ∃ s1, (numO s).2 = s1 := ⟨_, rfl⟩
  obtain ⟨m, hm⟩ : ∃ m, (withinO 16 s1).1 = m := ⟨_, rfl⟩
  obtain ⟨s2, hs2⟩ : ∃ s2, (withinO 16 s1).2 = s2 := ⟨_, rfl⟩
  have hin := within_in (most := 16) (by omega) s1
  rw [hm] at hin
  obtain ⟨M, hM⟩ : ∃ M : Nat, m = (M : Int) := ⟨m.toNat, by omega⟩
  subst hM
  have hM16 : M ≤ 16 := by omega
  have HCO : Hid (cellO s = ((x, (numsR M s2).1), (numsR M s2).2)) := Lib.hid (by
    unfold cellO
    rw [hx, hs1, hm, hs2, Int.toNat_natCast])
  have hl1 : s1.1.length ≤ 1000000 := by have := num_rest s; rw [hs1] at this; omega
  have hl2 : s2.1.length ≤ 1000000 := by
    rw [← hs2]; unfold withinO
    have := num_rest s1
    split <;> (first | (dsimp only; omega) | omega)
  rw [hx, hs1] at HNUM0
  have HM := Lib.hid hm
  have HS2 := Lib.hid hs2
  have HL1 := Lib.hid hl1
  have HL2 := Lib.hid hl2
  have HRW : Hid (R < w.heap.size) := Lib.hid (lt_of_get h)
  clear h hl hx hs1 hin hm hs2 hl1 hl2 hb0 hx0
  go_enter Try.func38, Try.ntmps38
  go_wp2_with fail
  refine HNUM0.out.mono ?_
  rintro e w1 ⟨rfl, hr1, ho1⟩
  have hbx := Box2.new w1 (x, none, 0, 0)
  dsimp only at hbx
  obtain ⟨W2, hW2⟩ : ∃ W, w1.alloc (.cells #[.int .i64 x, .slice none 0 0] 32) = W := ⟨_, rfl⟩
  have HW2 := Lib.hid hW2
  have hb2 : Below w1.heap.size w1 W2 := by rw [← hW2]; exact below_made _ _
  rw [hW2] at hbx
  obtain ⟨N, hN⟩ : ∃ N, w1.heap.size = N := ⟨_, rfl⟩
  have HNN := Lib.hid hN
  rw [hN] at hbx
  have HNW : Hid (W0.heap.size ≤ N) := Lib.hid (by rw [← hN]; exact ho1.size)
  have HWI := Lib.hid (within_any 16 (hr1.below hb2) HL1.out)
  rw [HM.out, HS2.out] at HWI
  have HO2 := Lib.hid (ho1.on hb2)
  have HBX2 := Lib.hid hbx
  clear hr1 ho1 hbx hW2 hb2 hN hW0 hN0
  go_wp2_with fail
  rw [HW2.out, HNN.out]
  refine HWI.out.mono ?_
  rintro e w3 ⟨rfl, hr3, ho3⟩
  have hRN : R < w.heap.size := HRW.out
  have HNR : Hid (¬ N = R) := Lib.hid (fun e => by have := HNW.out; have := HB0.out.size; omega)
  have hR0 : CellRel W0 w3 W0.heap.size R N x s2 0 := ⟨_, none, 0, rfl, (ho3.block N (lt_of_get HBX2.out) HNR.out).trans HBX2.out, World.ownsRow_nil _ _ _ _, hr3, HO2.out.then ho3⟩
  have HR0 := Lib.hid hR0
  clear hr3 ho3 hR0 hRN
  go_wp2_with fail
  go_loopg [9] M (fun g v9 wr => ∃ k : Nat, k + g = M ∧ v9 = .int .i64 k ∧ CellRel W0 wr W0.heap.size R N x s2 k)
  case atStart => exact ⟨0, by omega, rfl, HR0.out⟩
  case round =>
    obtain ⟨k, hkg, rfl, v, va, vc, rfl, hbx, hown, hrd, hon⟩ := hrel
    have HBX := Lib.hid hbx
    have HOWN := Lib.hid hown
    have HRD := Lib.hid hrd
    have HON := Lib.hid hon
    have HKG := Lib.hid hkg
    obtain ⟨x0, x1, y0, y1⟩ := hbx.facts
    dsimp only at x0 x1
    clear hbx hown hrd hon y0 y1
    cases gk with
    | zero =>
      have hkz : ¬ ((k : Int) < (M : Int)) := by omega
      obtain rfl : k = M := by omega
      have hx0 : Box2 wr N0 (0, none, 0, 0) := (HON.out.block N0 (lt_of_get HX0.out) (fun e => by have := HRW.out; rw [HN0.out] at this; omega)).trans HX0.out
      obtain ⟨c0, c1, f0, f1⟩ := hx0.facts
      dsimp only at c0 c1
      have hx9 := hx0.set x va k vc
      obtain ⟨e0, e1, -, -⟩ := hx9.facts
      dsimp only at e0 e1
      obtain ⟨-, a9, cap9, hv9, hna9⟩ := NR.own HOWN.out
      rw [nums_len] at hv9
      simp only [Value.slice.injEq, true_and] at hv9
      obtain ⟨rfl, rfl⟩ := hv9
      have HF : Hid (CellPost R s w (.returned (mkC (x, va, k, vc))) ((wr.setCell ⟨N0, 0, none⟩ (.int .i64 x)).setCell ⟨N0, 1, none⟩ (.slice va k vc))) := Lib.hid (by
        unfold CellPost
        rw [HCO.out]
        dsimp only
        rw [nums_len]
        have hN0R : N0 ≠ R := fun e => by have := HRW.out; rw [HN0.out] at this; omega
        refine ⟨va, vc, rfl, hna9.keep (rows_box hx0 _ _), ?_, ?_⟩
        · unfold RdAt
          rw [Below.heap_setCell _ _ _ _ (Ne.symm hN0R), Below.heap_setCell _ _ _ _ (Ne.symm hN0R)]
          exact HRD.out
        · exact only_box (only_box ((Only.of_below HB0.out).then ⟨HON.out.os, HON.out.tape, HON.out.output, HON.out.size, HON.out.block⟩) (by rw [HN0.out]; omega) _ 0) (by rw [HN0.out]; omega) _ 1)
      clear hx0 hx9 hna9
      go_wp2_with fail
      refine bodyPost_ret (v := mkC (x, va, k, vc)) (by simp [results, Try.f38, go_sem, e0, e1, mkC]) rfl ?_
      exact HF.out
    | succ g =>
      have hkz : (k : Int) < (M : Int) := by omega
      have HNUM := Lib.hid (number_any (w := wr.drew) (R := R) (s := (numsR k s2).2) HRD.out (Nat.le_trans (nums_rest k s2) HL2.out))
      unfold NumPost at HNUM
      have HWL : Hid (W0.heap.size ≤ wr.heap.size) := Lib.hid HON.out.size
      clear hkg
      go_wp2_with fail
      refine dsk.wp_region_peel2 (by kernel_rfl) (by simp only [List.dropLast_cons_cons, List.dropLast_singleton]; exact rfl) rfl (by kernel_rfl) ?_
      refine wpAny_of_held (S := fun w' => w'.cell? ⟨N, 1, none⟩ = some (.slice va k vc)) _ _ _ _ ?_
      have hHeld := (show wr.drew.cell? ⟨N, 1, none⟩ = some (.slice va k vc) from x1)
      refine wpAnyH_take (i := 0) (v := ?v1) rfl (by kernel_rfl) (by kernel_rfl) (by kernel_rfl) (fun _ _ _ h => h) (Or.inl ⟨by rfl, ?hy1⟩) (by assumption) ?rest1
      case hy1 => (intro w0 hSw; (try dsimp only at hSw); go_simp; try with_reducible rfl)
      try simp only [Act.put, List.getElem_toArray, List.getElem_cons_zero, List.getElem_cons_succ, List.setIfInBounds_toArray, List.set_cons_zero, List.set_cons_succ]
      refine wpAnyH_take (i := 1) (v := ?v2) rfl (by kernel_rfl) (by kernel_rfl) (by kernel_rfl) (fun _ _ _ h => h) (Or.inl ⟨by rfl, ?hy2⟩) (by assumption) ?rest2
      case hy2 => (intro w0 hSw; (try dsimp only at hSw); go_simp; try with_reducible rfl)
      try simp only [Act.put, List.getElem_toArray, List.getElem_cons_zero, List.getElem_cons_succ, List.setIfInBounds_toArray, List.set_cons_zero, List.set_cons_succ]
      refine wpAnyH_take (i := 2) (v := ?v3) rfl (by kernel_rfl) (by kernel_rfl) (by kernel_rfl) (fun _ _ _ h => h) (Or.inl ⟨by rfl, ?hy3⟩) (by assumption) ?rest3
      case hy3 => (intro w0 hSw; (try dsimp only at hSw); go_simp; try with_reducible rfl)
      try simp only [Act.put, List.getElem_toArray, List.getElem_cons_zero, List.getElem_cons_succ, List.setIfInBounds_toArray, List.set_cons_zero, List.set_cons_succ]
      refine wpAnyH_ready (rs := [3]) (by kernel_rfl) (by simp) ?_
      refine AllReadyH.cons rfl (fun KQ hKQ => ?_) AllReadyH.nil
      go_simp
      refine HNUM.out.mono ?_
      rintro e W1 ⟨rfl, hr1, ho1⟩
      have ho1 : Only (· = R) wr W1 := ⟨ho1.os, ho1.tape, ho1.output, ho1.size, ho1.block⟩
      have hbx1 : Box2 W1 N (x, va, k, vc) := (ho1.block N (lt_of_get HBX.out) HNR.out).trans HBX.out
      have hv1 : W1.ownsRow W0.heap.size 2 1 (.slice va k vc) k ((numsR k s2).1.map intV) := own_only HOWN.out ho1 (fun j hj e => by
      obtain ⟨cur, h2, _⟩ := own_blk HOWN.out hj
      rw [e, HRD.out] at h2; cases h2)
      refine hKQ.out _ _ ?_ (fun hHeld => ?_)
      · exact hbx1.facts.2.1
      clear hKQ KQ
      try simp only [Act.put, List.getElem_toArray, List.getElem_cons_zero, List.getElem_cons_succ, List.setIfInBounds_toArray, List.set_cons_zero, List.set_cons_succ]
      refine wpAnyH_ready (rs := [4]) (by kernel_rfl) (by simp) ?_
      refine AllReadyH.cons rfl (fun KQ hKQ => ?_) AllReadyH.nil
      go_simp
      refine hKQ.out _ _ ?_ (fun hHeld => ?_)
      · exact (Box2.below hbx1 (below_made _ _)).facts.2.1
      clear hKQ KQ
      try simp only [Act.put, List.getElem_toArray, List.getElem_cons_zero, List.getElem_cons_succ, List.setIfInBounds_toArray, List.set_cons_zero, List.set_cons_succ]
      refine wpAnyH_ready (rs := [5]) (by kernel_rfl) (by simp) ?_
      refine AllReadyH.cons rfl (fun KQ hKQ => ?_) AllReadyH.nil
      have hle1 : W0.heap.size ≤ W1.heap.size := Nat.le_trans HWL.out ho1.size
      obtain ⟨v5, w6, hr6, ho6, hg6⟩ := app_run (own_below hv1 (below_made W1 (.cells #[.int .i64 (numO (numsR k s2).2).1] 2))) (sl_new W1 [(numO (numsR k s2).2).1] 2 1) (by rw [nums_len]; simp only [List.length_cons, List.length_nil]; omega) (by rw [World.size_alloc]; omega) 30
      obtain ⟨hbx6, hst6⟩ := cell_step (w := W0) (N := N) (s := s2) HNW.out (Nat.le_refl _) rfl HOWN.out HON.out HNR.out hr1 ho1 hbx1 rfl ho6 hg6 hv1
      obtain ⟨-, a5, cap5, hv5, -⟩ := NR.own ho6
      rw [show ((numsR k s2).1 ++ [(numO (numsR k s2).2).1]).length = k + 1 by rw [List.length_append, nums_len]; rfl] at hv5
      subst hv5
      have hr6' : (Builtin.append_ #[30, 30] 30 #[.slice va k vc, .slice (some ⟨W1.heap.size, 0, none⟩) 1 1]).run Try.prog (W1.alloc (.cells #[.int .i64 (numO (numsR k s2).2).1] 2)) = .ok (.slice a5 (k + 1) cap5) w6 := hr6
      refine step_app rfl (.tmp 12) (.tmp 15) 30 rfl rfl (by rfl) hr6' ?_
      refine hKQ.out _ _ ?_ (fun hHeld => ?_)
      · exact hbx6.facts.2.1
      clear hKQ KQ
      try simp only [Act.put, List.getElem_toArray, List.getElem_cons_zero, List.getElem_cons_succ, List.setIfInBounds_toArray, List.set_cons_zero, List.set_cons_succ]
      refine wpAnyH_take (i := 6) (v := ?v4) rfl (by kernel_rfl) (by kernel_rfl) (by kernel_rfl) (fun _ _ _ h => h) (Or.inl ⟨by rfl, ?hy4⟩) (by assumption) ?rest4
      case hy4 => (intro w0 hSw; (try dsimp only at hSw); go_simp; try with_reducible rfl)
      try simp only [Act.put, List.getElem_toArray, List.getElem_cons_zero, List.getElem_cons_succ, List.setIfInBounds_toArray, List.set_cons_zero, List.set_cons_succ]
      refine wpAnyH_done (by kernel_rfl) ?_ _
      change wpList _ _ _ _ _ _
      have HREL := Lib.hid (hst6 a5 cap5 rfl)
      obtain ⟨z0, z1, y0, y1⟩ := hbx6.facts
      dsimp only at z0 z1
      clear hst6 hbx6 hr6' hr6 ho6 hg6 hr1 ho1 hbx1 hv1 hHeld x0 x1
      go_wp2_with fail
      go_roundg g
      case measure => omega
      case rel => exact ⟨k + 1, by have := HKG.out; omega, by go_num, HREL.out⟩
end Go.Proofs.Ytghpbhcnblninaa.tbl
