/- What Join answers, and what it leaves: the walk. -/
import Derived.Test.YtghpbhcnblninaaTbG
namespace Go.Proofs.Ytghpbhcnblninaa.tbl
set_option linter.unusedSimpArgs false
set_option linter.unusedVariables false
open Go.RowKit
attribute [local go_sem ↓] Go.wp_at_zero Go.wp_at_succ
open Go.Proofs.Ytghpbhcnblninaa.grp (gof gof_in fits fits_wf IRow intV below_on' below_made ret_bool)

def J1 (w wr : World) (b2 r n : Nat) (D : DataW Value) (L U : Rows) : Prop := ∃ left cnt, Rng wr b2 r n D left cnt ∧ Seen L U left ∧ Below w.heap.size w wr
def J3 (w wr : World) (t b b2 r n : Nat) (D : DataW Value) (L U : Rows) : Prop := ∃ left cnt T, Rng wr b2 r n D left cnt ∧ IsTab wr t b T ∧ Put3 L U T left ∧ Only (Two t b) w wr
theorem rng_rows {wr w2 : World} {b r n cnt : Nat} {D : DataW Value} {left : Lit → Bool} (h : Rng wr b r n D left cnt) (hg : wr.grownBy w2 (some r)) : Rows2 wr w2 :=
  .of_only (F := fun i => i = r) (.of_grown hg (fun k hk => by cases hk; rfl)) (fun g cur fr hgr he => by
    obtain ⟨es, ck, since, seen, c0, _, _, _, _, h5, _⟩ := h
    rw [hgr, h5] at he; cases he)
theorem own_again {w w' : World} {b n : Nat} {D : DataW Value} (h : w.ownsMap Try.prog 2 RH b n D) (hb : w'.heap[b]? = w.heap[b]?) : w'.ownsMap Try.prog 2 RH b n D := by
  obtain ⟨es, ck, h1, h2⟩ := h
  exact ⟨es, ck, hb.trans h1, h2⟩
theorem ix0 (x0 x1 x2 x3 x4 x5 x6 x7 : Int) (w : World) : (Instr.index 66 (.agg #[.int .i64 x0, .int .i64 x1, .int .i64 x2, .int .i64 x3, .int .i64 x4, .int .i64 x5, .int .i64 x6, .int .i64 x7]) (.int .i64 0)).run Try.prog w = .ok (.int .i64 x0) w := by kernel_rfl
theorem ix1 (x0 x1 x2 x3 x4 x5 x6 x7 : Int) (w : World) : (Instr.index 66 (.agg #[.int .i64 x0, .int .i64 x1, .int .i64 x2, .int .i64 x3, .int .i64 x4, .int .i64 x5, .int .i64 x6, .int .i64 x7]) (.int .i64 1)).run Try.prog w = .ok (.int .i64 x1) w := by kernel_rfl
theorem ix2 (x0 x1 x2 x3 x4 x5 x6 x7 : Int) (w : World) : (Instr.index 66 (.agg #[.int .i64 x0, .int .i64 x1, .int .i64 x2, .int .i64 x3, .int .i64 x4, .int .i64 x5, .int .i64 x6, .int .i64 x7]) (.int .i64 2)).run Try.prog w = .ok (.int .i64 x2) w := by kernel_rfl
theorem ix3 (x0 x1 x2 x3 x4 x5 x6 x7 : Int) (w : World) : (Instr.index 66 (.agg #[.int .i64 x0, .int .i64 x1, .int .i64 x2, .int .i64 x3, .int .i64 x4, .int .i64 x5, .int .i64 x6, .int .i64 x7]) (.int .i64 3)).run Try.prog w = .ok (.int .i64 x3) w := by kernel_rfl
theorem ix4 (x0 x1 x2 x3 x4 x5 x6 x7 : Int) (w : World) : (Instr.index 66 (.agg #[.int .i64 x0, .int .i64 x1, .int .i64 x2, .int .i64 x3, .int .i64 x4, .int .i64 x5, .int .i64 x6, .int .i64 x7]) (.int .i64 4)).run Try.prog w = .ok (.int .i64 x4) w := by kernel_rfl
theorem ix5 (x0 x1 x2 x3 x4 x5 x6 x7 : Int) (w : World) : (Instr.index 66 (.agg #[.int .i64 x0, .int .i64 x1, .int .i64 x2, .int .i64 x3, .int .i64 x4, .int .i64 x5, .int .i64 x6, .int .i64 x7]) (.int .i64 5)).run Try.prog w = .ok (.int .i64 x5) w := by kernel_rfl
theorem ix6 (x0 x1 x2 x3 x4 x5 x6 x7 : Int) (w : World) : (Instr.index 66 (.agg #[.int .i64 x0, .int .i64 x1, .int .i64 x2, .int .i64 x3, .int .i64 x4, .int .i64 x5, .int .i64 x6, .int .i64 x7]) (.int .i64 6)).run Try.prog w = .ok (.int .i64 x6) w := by kernel_rfl
theorem ix7 (x0 x1 x2 x3 x4 x5 x6 x7 : Int) (w : World) : (Instr.index 66 (.agg #[.int .i64 x0, .int .i64 x1, .int .i64 x2, .int .i64 x3, .int .i64 x4, .int .i64 x5, .int .i64 x6, .int .i64 x7]) (.int .i64 7)).run Try.prog w = .ok (.int .i64 x7) w := by kernel_rfl
set_option maxHeartbeats 4000000 in
set_option maxRecDepth 1000000 in
theorem join_any {w : World} {t b t2 b2 : Nat} {L U : Rows} (h : IsTab w t b L) (hU : IsTab w t2 b2 U) (hne : t2 ≠ t ∧ b2 ≠ b) :
    Calls Try.prog 20 #[.pointer (some ⟨t, 0, none⟩), .pointer (some ⟨t2, 0, none⟩)] w (JoinPost w t b L U) := by
  obtain ⟨D, ho, hs, hD, hk⟩ := hU.map.keys hU.good
  have HH := Lib.hid h
  have HU := Lib.hid hU
  have HNE := Lib.hid hne
  have HO := Lib.hid ho
  have HD := Lib.hid hD
  have HBT : Hid (b2 ≠ t) := Lib.hid (fun e => by obtain ⟨es, ck, h1⟩ := hU.map.isMap; have := h.obj; unfold TabO at this; rw [← e, h1] at this; cases this)
  have m0 := hU.obj.cells.1
  clear h hU hne hs hD hk
  go_enter Try.func20, Try.ntmps20
  go_wp2_with (at_range; refine wpList_range_own _ rfl _ 65 rfl 2 32 key64 Try.underlying65 RH b2 U.length D rfl ho ?_; intro w0 hrg0 hg0 _)
  go_frame
  go_loopw [5] (fun _ wr => J1 w wr b2 w.heap.size U.length D L U) (fun _ wr => wr.rangeLeft b2 w.heap.size)
  case atStart =>
    have hbb : Below w.heap.size w w0 := ⟨hg0.os, hg0.tape, hg0.output, hg0.size, fun k hk => hg0.block k hk (by simp)⟩
    have hsn : Seen L U (Maps.has D) := fun x c hx hl => by
      rw [has_look (HD.out x (HU.out.good.fine hx).1), hx] at hl; cases hl
    exact ⟨_, _, hrg0, hsn, hbb⟩
  case round =>
    obtain ⟨left, cn0, hrg, hsn, hbw⟩ := hrel
    have HSN := Lib.hid hsn
    have HBW := Lib.hid hbw
    have HRG := Lib.hid hrg
    clear hsn hbw
    go_wp2_with (at_next; refine wpList_next_ranges _ rfl _ rfl 2 key64 RH encZ mkC (fun key kl0 hk => rng_inv hk) (fun v y hv => by obtain ⟨c, rfl, _⟩ := RH_inv hv; exact ⟨c, rfl⟩) b2 w.heap.size U.length _ _ _ rfl HRG.out ?_ ?_)
    · intro hc0 hl0
      have HA := Lib.hid (HSN.out.end HU.out.good.ord hl0)
      have HU1 := Lib.hid (HU.out.below HBW.out)
      have HH1 := Lib.hid (HH.out.below HBW.out)
      have hcu := HU1.out.obj.cells.2.1
      have yy0 := hcu 0 (by omega)
      obtain ⟨q0, hq0⟩ : ∃ q : Nat, cnt U ((0 : Nat) : Int) = q := ⟨_, rfl⟩
      have bq0 : q0 ≤ 40 := by rw [← hq0]; exact HU.out.good.full _
      have HQ0 := Lib.hid hq0
      rw [show cntF U 0 = (q0 : Int) from by unfold cntF; rw [hq0]] at yy0
      clear hq0
      have yy1 := hcu 1 (by omega)
      obtain ⟨q1, hq1⟩ : ∃ q : Nat, cnt U ((1 : Nat) : Int) = q := ⟨_, rfl⟩
      have bq1 : q1 ≤ 40 := by rw [← hq1]; exact HU.out.good.full _
      have HQ1 := Lib.hid hq1
      rw [show cntF U 1 = (q1 : Int) from by unfold cntF; rw [hq1]] at yy1
      clear hq1
      have yy2 := hcu 2 (by omega)
      obtain ⟨q2, hq2⟩ : ∃ q : Nat, cnt U ((2 : Nat) : Int) = q := ⟨_, rfl⟩
      have bq2 : q2 ≤ 40 := by rw [← hq2]; exact HU.out.good.full _
      have HQ2 := Lib.hid hq2
      rw [show cntF U 2 = (q2 : Int) from by unfold cntF; rw [hq2]] at yy2
      clear hq2
      have yy3 := hcu 3 (by omega)
      obtain ⟨q3, hq3⟩ : ∃ q : Nat, cnt U ((3 : Nat) : Int) = q := ⟨_, rfl⟩
      have bq3 : q3 ≤ 40 := by rw [← hq3]; exact HU.out.good.full _
      have HQ3 := Lib.hid hq3
      rw [show cntF U 3 = (q3 : Int) from by unfold cntF; rw [hq3]] at yy3
      clear hq3
      have yy4 := hcu 4 (by omega)
      obtain ⟨q4, hq4⟩ : ∃ q : Nat, cnt U ((4 : Nat) : Int) = q := ⟨_, rfl⟩
      have bq4 : q4 ≤ 40 := by rw [← hq4]; exact HU.out.good.full _
      have HQ4 := Lib.hid hq4
      rw [show cntF U 4 = (q4 : Int) from by unfold cntF; rw [hq4]] at yy4
      clear hq4
      have yy5 := hcu 5 (by omega)
      obtain ⟨q5, hq5⟩ : ∃ q : Nat, cnt U ((5 : Nat) : Int) = q := ⟨_, rfl⟩
      have bq5 : q5 ≤ 40 := by rw [← hq5]; exact HU.out.good.full _
      have HQ5 := Lib.hid hq5
      rw [show cntF U 5 = (q5 : Int) from by unfold cntF; rw [hq5]] at yy5
      clear hq5
      have yy6 := hcu 6 (by omega)
      obtain ⟨q6, hq6⟩ : ∃ q : Nat, cnt U ((6 : Nat) : Int) = q := ⟨_, rfl⟩
      have bq6 : q6 ≤ 40 := by rw [← hq6]; exact HU.out.good.full _
      have HQ6 := Lib.hid hq6
      rw [show cntF U 6 = (q6 : Int) from by unfold cntF; rw [hq6]] at yy6
      clear hq6
      have yy7 := hcu 7 (by omega)
      obtain ⟨q7, hq7⟩ : ∃ q : Nat, cnt U ((7 : Nat) : Int) = q := ⟨_, rfl⟩
      have bq7 : q7 ≤ 40 := by rw [← hq7]; exact HU.out.good.full _
      have HQ7 := Lib.hid hq7
      rw [show cntF U 7 = (q7 : Int) from by unfold cntF; rw [hq7]] at yy7
      clear hq7
      simp only [Nat.add_zero, Nat.reduceAdd] at yy0 yy1 yy2 yy3 yy4 yy5 yy6 yy7
      have hcl := HH1.out.obj.cells.2.1
      have mU := HU1.out.obj.cells.1
      have HCL := Lib.hid hcl
      clear hcu m0 hrg hc0 hl0 hcl
      have gx0 := ix0
      have gx1 := ix1
      have gx2 := ix2
      have gx3 := ix3
      have gx4 := ix4
      have gx5 := ix5
      have gx6 := ix6
      have gx7 := ix7
      obtain ⟨wA, hwA⟩ : ∃ x, x = wr := ⟨_, rfl⟩
      subst hwA
      go_wp2_with fail
      go_loopg [32] 8 (fun g v32 wx => ∃ k : Nat, k + g = 8 ∧ v32 = .int .i64 k ∧ (∀ j, j < k → cnt L (j : Int) + cnt U (j : Int) ≤ 40) ∧ wA = wx)
      case atStart => exact ⟨0, by omega, rfl, fun j hj => by omega, rfl⟩
      case round =>
        obtain ⟨k, hkg, rfl, hall, rfl⟩ := hrel
        have HALL := Lib.hid hall
        clear hall
        cases gk with
        | zero =>
          have hkz : ¬ ((k : Int) < 8) := by omega
          have HC8 : Hid (∀ g : Nat, g < 8 → cnt L (g : Int) + cnt U (g : Int) ≤ 40) := Lib.hid (fun g hg => HALL.out g (by omega))
          have HJ := Lib.hid (HH.out.good.join HU.out.good HA.out HC8.out)
          have HOK := Lib.hid (join_ok HA.out HC8.out)
          have ho2 := own_again HO.out (HBW.out.block b2 HU.out.lt.2.1)
          clear gx0 gx1 gx2 gx3 gx4 gx5 gx6 gx7
          go_wp2_with (at_range; refine wpList_range_own _ rfl _ 65 rfl 2 32 key64 Try.underlying65 RH b2 U.length D rfl ho2 ?_; intro w0 hrg0 hg0 _)
          try go_frame
          go_loopw [8] (fun _ wr => J3 w wr t b b2 wA.heap.size U.length D L U) (fun _ wr => wr.rangeLeft b2 wA.heap.size)
          case atStart =>
            have hbb : Below wA.heap.size wA w0 := ⟨hg0.os, hg0.tape, hg0.output, hg0.size, fun k hk => hg0.block k hk (by simp)⟩
            exact ⟨_, _, L, hrg0, HH1.out.below hbb, Put3.start L HD.out, .of_below (below_on' HBW.out hbb)⟩
          case round =>
            obtain ⟨left3, cn3, T, hrg, htT, hp3, hon⟩ := hrel
            have HT := Lib.hid htT
            have HP3 := Lib.hid hp3
            have HON := Lib.hid hon
            have HRG := Lib.hid hrg
            clear htT hp3 hon
            go_wp2_with (at_next; refine wpList_next_ranges _ rfl _ rfl 2 key64 RH encZ mkC (fun key kl0 hk => rng_inv hk) (fun v y hv => by obtain ⟨c, rfl, _⟩ := RH_inv hv; exact ⟨c, rfl⟩) b2 wA.heap.size U.length _ _ _ rfl HRG.out ?_ ?_)
            · intro hc0 hl0
              have HE := Lib.hid (HP3.out.end HT.out.good HJ.out HU.out.good.ord hl0)
              have HF : Hid (JoinPost w t b L U (.returned (.int .i64 0)) wr) := Lib.hid (by
                unfold JoinPost
                rw [HOK.out]
                exact ⟨rfl, by rw [← HE.out]; exact HT.out, HON.out⟩)
              go_wp2_with fail
              try rw [Exit.noGoto_ret]
              go_ret
              exact HF.out
            · intro x c1 c2 c3 c4 kl0 yd yp w2 cnt2 hkey hlk hv hat hrg2 hlt2 hg2 hs2 hen
              obtain ⟨rfl, hfx⟩ := rng_key hkey
              have hyp : yp = [] := by rw [RH_mk] at hv; simpa using (congrArg Prod.snd (Option.some.inj hv)).symm
              subst hyp
              obtain ⟨cl, a, cap, hlx, hna, ec⟩ := rng_cell (HD.out x hfx) hv hat
              simp only [Prod.mk.injEq] at ec
              obtain ⟨rfl, rfl, rfl, rfl⟩ := ec
              have hwA : w.heap.size ≤ wA.heap.size := HBW.out.size
              have ho2' : Only (Two t b) w w2 := HON.out.trans (.of_grown (F := fun i => i = wA.heap.size) hg2 (fun k hk => by cases hk; rfl)) (fun k hk hlt => by omega)
              have hlt := HH.out.lt
              have ht2 : IsTab w2 t b T := HT.out.keep (hg2.block t HT.out.lt.1 (fun e => by have := Option.some.inj e; omega)) (hg2.block b HT.out.lt.2.1 (fun e => by have := Option.some.inj e; omega)) (rng_rows HRG.out hg2)
              have HO2 := Lib.hid ho2'
              have HT2 := Lib.hid ht2
              have HR2 := Lib.hid hrg2
              have HNA := Lib.hid (hna.keep (HH.out.rows ho2'))
              have HLX := Lib.hid hlx
              have HLK := Lib.hid hlk
              have HFX := Lib.hid hfx
              have HM := Lib.hid (Nat.lt_of_lt_of_eq hlt2 hrg.left_eq.symm)
              have HWA := Lib.hid hwA
              unfold mkC at hen
              dsimp only at hen
              clear hs2 hlt2 hg2 hat hv hkey hrg2 ho2' ht2 hna hlx hlk hfx hrg hwA hlt
              have hb3 : Below w2.heap.size w2 (w2.alloc (.cells #[.int .i64 cl.1, .slice c2 cl.2.length c4] 32)) := below_made _ _
              have hbx := Box2.new w2 (cl.1, c2, cl.2.length, c4)
              obtain ⟨W3, hW3⟩ : ∃ W, w2.alloc (.cells #[.int .i64 cl.1, .slice c2 cl.2.length c4] 32) = W := ⟨_, rfl⟩
              dsimp only at hbx
              rw [hW3] at hb3 hbx
              have HW3 := Lib.hid hW3
              obtain ⟨N, hN⟩ : ∃ N, w2.heap.size = N := ⟨_, rfl⟩
              have HNN := Lib.hid hN
              rw [hN] at hbx
              have HO3 := Lib.hid (HO2.out.on hb3)
              have HT3 := Lib.hid (HT2.out.below hb3)
              have HR3 := Lib.hid (rng_below HR2.out hb3)
              have HNA3 := Lib.hid (HNA.out.keep (.of_below hb3))
              obtain ⟨x0, x1, -, -⟩ := hbx.facts
              dsimp only at x0 x1
              clear hb3 hbx hW3 hN
              have HFI := Lib.hid (HU.out.good.fine HLX.out).2
              have HPU := Lib.hid (put_any HT3.out HFX.out HFI.out.acc HFI.out.all HNA3.out.sl (HNA3.out.ne_tab HT3.out) (by have := HFI.out.few; omega))
              have HDP := Lib.hid (HP3.out.put (x := x) HLX.out)
              have HRO := Lib.hid (HP3.out.room HT.out.good HJ.out HA.out HU.out.good HLK.out HFX.out HLX.out)
              go_wp2_with fail
              rw [HW3.out, HNN.out]
              go_wp2_with fail
              refine HPU.out.mono ?_
              intro e w5 hp
              unfold PutPost at hp
              rw [HRO.out] at hp
              obtain ⟨rfl, ht5, ho5⟩ := hp
              have hr5 := rng_same HR3.out (ho5.block b2 HR3.out.owns.lt (fun e => by rcases e with e | e; exact HBT.out e; exact HNE.out.2 e)) (ho5.block _ HR3.out.lt (fun e => by have := HH.out.lt; have := HWA.out; rcases e with e | e <;> omega))
              have HREL : Hid (J3 w w5 t b b2 wA.heap.size U.length D L U) := Lib.hid ⟨_, _, _, hr5, ht5, HDP.out, HO3.out.then ho5⟩
              have HMS : Hid (w5.rangeLeft b2 wA.heap.size < wr.rangeLeft b2 wA.heap.size) := Lib.hid (by rw [hr5.left_eq]; exact HM.out)
              clear ht5 ho5 hr5
              go_wp2_with fail
              go_roundw
              case rel => exact HREL.out
              case measure => exact HMS.out
        | succ g =>
          have hkz : (k : Int) < 8 := by omega
          have ct := HCL.out k (by omega)
          have h8 : k = 0 ∨ k = 1 ∨ k = 2 ∨ k = 3 ∨ k = 4 ∨ k = 5 ∨ k = 6 ∨ k = 7 := by omega
          rcases h8 with rfl | rfl | rfl | rfl | rfl | rfl | rfl | rfl
          · obtain ⟨p, hp⟩ : ∃ p : Nat, cnt L ((0 : Nat) : Int) = p := ⟨_, rfl⟩
            have hp40 : p ≤ 40 := by rw [← hp]; exact HH.out.good.full _
            have HP := Lib.hid hp
            rw [show cntF L 0 = (p : Int) from by unfold cntF; rw [hp]] at ct
            clear hp
            simp only [Nat.add_zero, Nat.reduceAdd] at ct
            have hgk : 0 + (g + 1) = 8 := hkg
            clear hkz
            by_cases hfull : 40 < p + q0
            · have HF : Hid (JoinPost w t b L U (.returned (.int .i64 7)) wA) := Lib.hid (join_same HH.out (join_full HA.out (g := 0) (by omega) (by have e1 := HP.out; have e2 := HQ0.out; omega)) HBW.out)
              have hfi : 40 < (p : Int) + (q0 : Int) := by omega
              clear hfull hkg hgk
              go_wp2_with fail
              try rw [Exit.noGoto_ret]
              go_ret
              exact HF.out
            · have hfi : ¬ 40 < (p : Int) + (q0 : Int) := by omega
              have HNX : Hid (∀ j : Nat, j < 0 + 1 → cnt L (j : Int) + cnt U (j : Int) ≤ 40) := Lib.hid (fun j hj => by
                rcases Nat.lt_or_ge j 0 with h1 | h1
                · exact HALL.out j h1
                · obtain rfl : j = 0 := by omega
                  have e1 := HP.out; have e2 := HQ0.out
                  omega)
              have HGK := Lib.hid hgk
              clear hfull hkg hgk
              go_wp2_with fail
              go_roundg g
              case measure => omega
              case rel => exact ⟨_, by have := HGK.out; omega, by go_num, HNX.out, rfl⟩
          · obtain ⟨p, hp⟩ : ∃ p : Nat, cnt L ((1 : Nat) : Int) = p := ⟨_, rfl⟩
            have hp40 : p ≤ 40 := by rw [← hp]; exact HH.out.good.full _
            have HP := Lib.hid hp
            rw [show cntF L 1 = (p : Int) from by unfold cntF; rw [hp]] at ct
            clear hp
            simp only [Nat.add_zero, Nat.reduceAdd] at ct
            have hgk : 1 + (g + 1) = 8 := hkg
            clear hkz
            by_cases hfull : 40 < p + q1
            · have HF : Hid (JoinPost w t b L U (.returned (.int .i64 7)) wA) := Lib.hid (join_same HH.out (join_full HA.out (g := 1) (by omega) (by have e1 := HP.out; have e2 := HQ1.out; omega)) HBW.out)
              have hfi : 40 < (p : Int) + (q1 : Int) := by omega
              clear hfull hkg hgk
              go_wp2_with fail
              try rw [Exit.noGoto_ret]
              go_ret
              exact HF.out
            · have hfi : ¬ 40 < (p : Int) + (q1 : Int) := by omega
              have HNX : Hid (∀ j : Nat, j < 1 + 1 → cnt L (j : Int) + cnt U (j : Int) ≤ 40) := Lib.hid (fun j hj => by
                rcases Nat.lt_or_ge j 1 with h1 | h1
                · exact HALL.out j h1
                · obtain rfl : j = 1 := by omega
                  have e1 := HP.out; have e2 := HQ1.out
                  omega)
              have HGK := Lib.hid hgk
              clear hfull hkg hgk
              go_wp2_with fail
              go_roundg g
              case measure => omega
              case rel => exact ⟨_, by have := HGK.out; omega, by go_num, HNX.out, rfl⟩
          · obtain ⟨p, hp⟩ : ∃ p : Nat, cnt L ((2 : Nat) : Int) = p := ⟨_, rfl⟩
            have hp40 : p ≤ 40 := by rw [← hp]; exact HH.out.good.full _
            have HP := Lib.hid hp
            rw [show cntF L 2 = (p : Int) from by unfold cntF; rw [hp]] at ct
            clear hp
            simp only [Nat.add_zero, Nat.reduceAdd] at ct
            have hgk : 2 + (g + 1) = 8 := hkg
            clear hkz
            by_cases hfull : 40 < p + q2
            · have HF : Hid (JoinPost w t b L U (.returned (.int .i64 7)) wA) := Lib.hid (join_same HH.out (join_full HA.out (g := 2) (by omega) (by have e1 := HP.out; have e2 := HQ2.out; omega)) HBW.out)
              have hfi : 40 < (p : Int) + (q2 : Int) := by omega
              clear hfull hkg hgk
              go_wp2_with fail
              try rw [Exit.noGoto_ret]
              go_ret
              exact HF.out
            · have hfi : ¬ 40 < (p : Int) + (q2 : Int) := by omega
              have HNX : Hid (∀ j : Nat, j < 2 + 1 → cnt L (j : Int) + cnt U (j : Int) ≤ 40) := Lib.hid (fun j hj => by
                rcases Nat.lt_or_ge j 2 with h1 | h1
                · exact HALL.out j h1
                · obtain rfl : j = 2 := by omega
                  have e1 := HP.out; have e2 := HQ2.out
                  omega)
              have HGK := Lib.hid hgk
              clear hfull hkg hgk
              go_wp2_with fail
              go_roundg g
              case measure => omega
              case rel => exact ⟨_, by have := HGK.out; omega, by go_num, HNX.out, rfl⟩
          · obtain ⟨p, hp⟩ : ∃ p : Nat, cnt L ((3 : Nat) : Int) = p := ⟨_, rfl⟩
            have hp40 : p ≤ 40 := by rw [← hp]; exact HH.out.good.full _
            have HP := Lib.hid hp
            rw [show cntF L 3 = (p : Int) from by unfold cntF; rw [hp]] at ct
            clear hp
            simp only [Nat.add_zero, Nat.reduceAdd] at ct
            have hgk : 3 + (g + 1) = 8 := hkg
            clear hkz
            by_cases hfull : 40 < p + q3
            · have HF : Hid (JoinPost w t b L U (.returned (.int .i64 7)) wA) := Lib.hid (join_same HH.out (join_full HA.out (g := 3) (by omega) (by have e1 := HP.out; have e2 := HQ3.out; omega)) HBW.out)
              have hfi : 40 < (p : Int) + (q3 : Int) := by omega
              clear hfull hkg hgk
              go_wp2_with fail
              try rw [Exit.noGoto_ret]
              go_ret
              exact HF.out
            · have hfi : ¬ 40 < (p : Int) + (q3 : Int) := by omega
              have HNX : Hid (∀ j : Nat, j < 3 + 1 → cnt L (j : Int) + cnt U (j : Int) ≤ 40) := Lib.hid (fun j hj => by
                rcases Nat.lt_or_ge j 3 with h1 | h1
                · exact HALL.out j h1
                · obtain rfl : j = 3 := by omega
                  have e1 := HP.out; have e2 := HQ3.out
                  omega)
              have HGK := Lib.hid hgk
              clear hfull hkg hgk
              go_wp2_with fail
              go_roundg g
              case measure => omega
              case rel => exact ⟨_, by have := HGK.out; omega, by go_num, HNX.out, rfl⟩
          · obtain ⟨p, hp⟩ : ∃ p : Nat, cnt L ((4 : Nat) : Int) = p := ⟨_, rfl⟩
            have hp40 : p ≤ 40 := by rw [← hp]; exact HH.out.good.full _
            have HP := Lib.hid hp
            rw [show cntF L 4 = (p : Int) from by unfold cntF; rw [hp]] at ct
            clear hp
            simp only [Nat.add_zero, Nat.reduceAdd] at ct
            have hgk : 4 + (g + 1) = 8 := hkg
            clear hkz
            by_cases hfull : 40 < p + q4
            · have HF : Hid (JoinPost w t b L U (.returned (.int .i64 7)) wA) := Lib.hid (join_same HH.out (join_full HA.out (g := 4) (by omega) (by have e1 := HP.out; have e2 := HQ4.out; omega)) HBW.out)
              have hfi : 40 < (p : Int) + (q4 : Int) := by omega
              clear hfull hkg hgk
              go_wp2_with fail
              try rw [Exit.noGoto_ret]
              go_ret
              exact HF.out
            · have hfi : ¬ 40 < (p : Int) + (q4 : Int) := by omega
              have HNX : Hid (∀ j : Nat, j < 4 + 1 → cnt L (j : Int) + cnt U (j : Int) ≤ 40) := Lib.hid (fun j hj => by
                rcases Nat.lt_or_ge j 4 with h1 | h1
                · exact HALL.out j h1
                · obtain rfl : j = 4 := by omega
                  have e1 := HP.out; have e2 := HQ4.out
                  omega)
              have HGK := Lib.hid hgk
              clear hfull hkg hgk
              go_wp2_with fail
              go_roundg g
              case measure => omega
              case rel => exact ⟨_, by have := HGK.out; omega, by go_num, HNX.out, rfl⟩
          · obtain ⟨p, hp⟩ : ∃ p : Nat, cnt L ((5 : Nat) : Int) = p := ⟨_, rfl⟩
            have hp40 : p ≤ 40 := by rw [← hp]; exact HH.out.good.full _
            have HP := Lib.hid hp
            rw [show cntF L 5 = (p : Int) from by unfold cntF; rw [hp]] at ct
            clear hp
            simp only [Nat.add_zero, Nat.reduceAdd] at ct
            have hgk : 5 + (g + 1) = 8 := hkg
            clear hkz
            by_cases hfull : 40 < p + q5
            · have HF : Hid (JoinPost w t b L U (.returned (.int .i64 7)) wA) := Lib.hid (join_same HH.out (join_full HA.out (g := 5) (by omega) (by have e1 := HP.out; have e2 := HQ5.out; omega)) HBW.out)
              have hfi : 40 < (p : Int) + (q5 : Int) := by omega
              clear hfull hkg hgk
              go_wp2_with fail
              try rw [Exit.noGoto_ret]
              go_ret
              exact HF.out
            · have hfi : ¬ 40 < (p : Int) + (q5 : Int) := by omega
              have HNX : Hid (∀ j : Nat, j < 5 + 1 → cnt L (j : Int) + cnt U (j : Int) ≤ 40) := Lib.hid (fun j hj => by
                rcases Nat.lt_or_ge j 5 with h1 | h1
                · exact HALL.out j h1
                · obtain rfl : j = 5 := by omega
                  have e1 := HP.out; have e2 := HQ5.out
                  omega)
              have HGK := Lib.hid hgk
              clear hfull hkg hgk
              go_wp2_with fail
              go_roundg g
              case measure => omega
              case rel => exact ⟨_, by have := HGK.out; omega, by go_num, HNX.out, rfl⟩
          · obtain ⟨p, hp⟩ : ∃ p : Nat, cnt L ((6 : Nat) : Int) = p := ⟨_, rfl⟩
            have hp40 : p ≤ 40 := by rw [← hp]; exact HH.out.good.full _
            have HP := Lib.hid hp
            rw [show cntF L 6 = (p : Int) from by unfold cntF; rw [hp]] at ct
            clear hp
            simp only [Nat.add_zero, Nat.reduceAdd] at ct
            have hgk : 6 + (g + 1) = 8 := hkg
            clear hkz
            by_cases hfull : 40 < p + q6
            · have HF : Hid (JoinPost w t b L U (.returned (.int .i64 7)) wA) := Lib.hid (join_same HH.out (join_full HA.out (g := 6) (by omega) (by have e1 := HP.out; have e2 := HQ6.out; omega)) HBW.out)
              have hfi : 40 < (p : Int) + (q6 : Int) := by omega
              clear hfull hkg hgk
              go_wp2_with fail
              try rw [Exit.noGoto_ret]
              go_ret
              exact HF.out
            · have hfi : ¬ 40 < (p : Int) + (q6 : Int) := by omega
              have HNX : Hid (∀ j : Nat, j < 6 + 1 → cnt L (j : Int) + cnt U (j : Int) ≤ 40) := Lib.hid (fun j hj => by
                rcases Nat.lt_or_ge j 6 with h1 | h1
                · exact HALL.out j h1
                · obtain rfl : j = 6 := by omega
                  have e1 := HP.out; have e2 := HQ6.out
                  omega)
              have HGK := Lib.hid hgk
              clear hfull hkg hgk
              go_wp2_with fail
              go_roundg g
              case measure => omega
              case rel => exact ⟨_, by have := HGK.out; omega, by go_num, HNX.out, rfl⟩
          · obtain ⟨p, hp⟩ : ∃ p : Nat, cnt L ((7 : Nat) : Int) = p := ⟨_, rfl⟩
            have hp40 : p ≤ 40 := by rw [← hp]; exact HH.out.good.full _
            have HP := Lib.hid hp
            rw [show cntF L 7 = (p : Int) from by unfold cntF; rw [hp]] at ct
            clear hp
            simp only [Nat.add_zero, Nat.reduceAdd] at ct
            have hgk : 7 + (g + 1) = 8 := hkg
            clear hkz
            by_cases hfull : 40 < p + q7
            · have HF : Hid (JoinPost w t b L U (.returned (.int .i64 7)) wA) := Lib.hid (join_same HH.out (join_full HA.out (g := 7) (by omega) (by have e1 := HP.out; have e2 := HQ7.out; omega)) HBW.out)
              have hfi : 40 < (p : Int) + (q7 : Int) := by omega
              clear hfull hkg hgk
              go_wp2_with fail
              try rw [Exit.noGoto_ret]
              go_ret
              exact HF.out
            · have hfi : ¬ 40 < (p : Int) + (q7 : Int) := by omega
              have HNX : Hid (∀ j : Nat, j < 7 + 1 → cnt L (j : Int) + cnt U (j : Int) ≤ 40) := Lib.hid (fun j hj => by
                rcases Nat.lt_or_ge j 7 with h1 | h1
                · exact HALL.out j h1
                · obtain rfl : j = 7 := by omega
                  have e1 := HP.out; have e2 := HQ7.out
                  omega)
              have HGK := Lib.hid hgk
              clear hfull hkg hgk
              go_wp2_with fail
              go_roundg g
              case measure => omega
              case rel => exact ⟨_, by have := HGK.out; omega, by go_num, HNX.out, rfl⟩
    · intro x c1 c2 c3 c4 kl0 yd yp w2 cnt2 hkey hlk hv hat hrg2 hlt2 hg2 hs2 hen
      obtain ⟨rfl, hfx⟩ := rng_key hkey
      have hyp : yp = [] := by rw [RH_mk] at hv; simpa using (congrArg Prod.snd (Option.some.inj hv)).symm
      subst hyp
      obtain ⟨cl, a, cap, hlx, hna, -⟩ := rng_cell (HD.out x hfx) hv hat
      have hb2 : Below w.heap.size w w2 := HBW.out.grown hg2 HBW.out.size (fun k hk => by cases hk; exact Nat.le_refl _)
      have HB2 := Lib.hid hb2
      have HR2 := Lib.hid hrg2
      have HLX := Lib.hid hlx
      have HM := Lib.hid (Nat.lt_of_lt_of_eq hlt2 hrg.left_eq.symm)
      have HHAS := Lib.hid (has_any (HH.out.below hb2) hfx)
      clear hs2 hlt2 hg2 hat hv hkey hrg2 hb2 hna hlx hlk hfx hrg
      cases hd : look L x with
      | some d =>
        have HF : Hid (∀ w', Below w.heap.size w w' → JoinPost w t b L U (.returned (.int .i64 2)) w') := Lib.hid (fun w' hb => join_same HH.out (join_two HLX.out hd) hb)
        rw [hd] at HHAS
        clear hd
        go_wp2_with fail
        refine HHAS.out.mono ?_
        rintro e w3 ⟨rfl, hb3⟩
        have HB3 := Lib.hid (below_on' HB2.out hb3)
        clear hb3
        go_wp2_with fail
        try rw [Exit.noGoto_ret]
        go_ret
        exact HF.out _ HB3.out
      | none =>
        have HST := Lib.hid (HSN.out.step hd)
        rw [hd] at HHAS
        clear hd
        go_wp2_with fail
        refine HHAS.out.mono ?_
        rintro e w3 ⟨rfl, hb3⟩
        have hr3 := rng_below HR2.out hb3
        have HREL : Hid (J1 w w3 b2 w.heap.size U.length D L U) := Lib.hid ⟨_, _, hr3, HST.out, below_on' HB2.out hb3⟩
        have HMS : Hid (w3.rangeLeft b2 w.heap.size < wr.rangeLeft b2 w.heap.size) := Lib.hid (by rw [hr3.left_eq]; exact HM.out)
        clear hb3 hr3
        go_wp2_with fail
        go_roundw
        case rel => exact HREL.out
        case measure => exact HMS.out
end Go.Proofs.Ytghpbhcnblninaa.tbl
