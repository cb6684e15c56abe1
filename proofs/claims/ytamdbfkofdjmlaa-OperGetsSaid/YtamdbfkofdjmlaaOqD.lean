/- The law OperGets. -/
import Derived.Test.YtamdbfkofdjmlaaOqC
import Derived.Deep.RegionHeld3
namespace Go.Proofs.Ytamdbfkofdjmlaa.opr
set_option linter.unusedSimpArgs false
set_option linter.unusedVariables false
open Go.RowKit
attribute [local go_sem ↓] Go.wp_at_zero Go.wp_at_succ
open Go.Proofs.Ytamdbfkofdjmlaa.tbl (Only lt_of_get)
open Go.Proofs.Ytamdbfkofdjmlaa.grp (below_on' below_made)
/-- A call that answers a row of these records. -/
abbrev Gives (f : FuncId) (args : Array Value) (L : List Rc) (W w' : World) : Prop := Calls Try.prog f args w' fun e w'' => ∃ v', e = .returned v' ∧ Sr w'' v' L ∧ Below w'.heap.size w' w'' ∧ Below W.heap.size W w''
theorem gives {f : FuncId} {args : Array Value} {L : List Rc} {W w' : World} (hw : Below W.heap.size W w') (h : Calls Try.prog f args w' fun e w'' => ∃ v', e = .returned v' ∧ Own w'' w'.heap.size v' L ∧ Below w'.heap.size w' w'') : Gives f args L W w' :=
  h.mono fun e w'' ⟨v', e1, e2, e3⟩ => ⟨v', e1, e2.sr, e3, below_on' hw e3⟩
theorem same_any {W w' : World} (hw : Below W.heap.size W w') {u v : Value} {L : List Rc} (h : Sr w' u L) (h' : Sr w' v L) (hl : L.length ≤ 1000000) :
    Calls Try.prog 12 #[u, v] w' fun e w'' => e = .returned (.bool true) ∧ Below w'.heap.size w' w'' ∧ Below W.heap.size W w'' :=
  (equal_any h h' hl hl).mono fun e w'' ⟨h1, h2⟩ => ⟨by rw [h1, decide_eq_true rfl], h2, below_on' hw h2⟩
set_option maxHeartbeats 25600000 in
set_option maxRecDepth 1000000 in
theorem law_gets {w : World} {v : Value} {vs : List Value} {ls : List (List Rc)} (h : Lr w v vs ls) (hl : ls.length ≤ maxLen) (nv : Nv) (hx : Cm w (.slice nv.xa nv.xl nv.xc)) (hbig : ∀ l ∈ ls, l.length ≤ 140737488355328) :
    Calls Try.prog 4 #[nodeV nv, v] w fun e w' => e = .returned (.bool true) ∧ Below w.heap.size w w' := by
  have hb0 := below_made w (.cells nv.cells 29)
  have HB0 := Lib.hid hb0
  have HHV := Lib.hid (heavy_any (h.below hb0) hl nv (hx.under hb0) hbig)
  have HLR := Lib.hid (h.below hb0)
  have HWK := Lib.hid (fun w => works_any w)
  have HNB := Lib.hid (NBox.new w nv)
  obtain ⟨c0, c1, c2, c3, c4, c5, c6⟩ := (NBox.new w nv).facts
  obtain ⟨a, c, rfl⟩ := h.len
  obtain ⟨n, hn⟩ : ∃ n, ls.length = n := ⟨_, rfl⟩
  rw [hn] at HLR HHV ⊢
  have HG := Lib.hid (fun (hf : ls.flatten.length ≤ 500) (h20 : ls.length ≤ 20) W w' (hw : Below (w.alloc (.cells nv.cells 29)).heap.size (w.alloc (.cells nv.cells 29)) w') (hW : w.alloc (.cells nv.cells 29) = W) => (show Gives 10 #[nodeV nv, .slice a n c] (srt (pre (decide (nv.kd = 8)) ls ls.length)) W w' from
    gives (by rw [← hW]; exact hw) (gets_any (HLR.out.below hw) (by omega) (by omega) nv)))
  have HRG := Lib.hid (fun (hf : ls.flatten.length ≤ 500) (h20 : ls.length ≤ 20) W w' (hw : Below (w.alloc (.cells nv.cells 29)).heap.size (w.alloc (.cells nv.cells 29)) w') (hW : w.alloc (.cells nv.cells 29) = W) => (show Gives 14 #[nodeV nv, .slice a n c] (srt (pre (decide (nv.kd = 8)) ls ls.length)) W w' from
    gives (by rw [← hW]; exact hw) (rgets_any (HLR.out.below hw) (by omega) (by omega) nv)))
  have HM := Lib.hid (fun (hf : ls.flatten.length ≤ 500) (h20 : ls.length ≤ 20) W w' (hw : Below (w.alloc (.cells nv.cells 29)).heap.size (w.alloc (.cells nv.cells 29)) w') (hW : w.alloc (.cells nv.cells 29) = W) => (show Gives 15 #[.slice a n c] (srt ls.flatten) W w' from
    gives (by rw [← hW]; exact hw) (merge_any (HLR.out.below hw) (by omega) (by omega))))
  have HC := Lib.hid (fun (hf : ls.flatten.length ≤ 500) (h20 : ls.length ≤ 20) W w' (hw : Below (w.alloc (.cells nv.cells 29)).heap.size (w.alloc (.cells nv.cells 29)) w') (hW : w.alloc (.cells nv.cells 29) = W) => (show Gives 17 #[.slice a n c] ls.flatten W w' from
    gives (by rw [← hW]; exact hw) (concat_any (HLR.out.below hw) (by omega) (by omega))))
  have HRM := Lib.hid (fun (hf : ls.flatten.length ≤ 500) W w' u (hw : Below W.heap.size W w') (hu : Sr w' u ls.flatten) => (show Gives 16 #[u] (srt ls.flatten) W w' from gives hw (rmerge_any hu (by omega))))
  have HEQ := Lib.hid (fun W w' u v L hw h h' hl => same_any (W := W) (w' := w') hw (u := u) (v := v) (L := L) h h' hl)
  have HCEL := Lib.hid (fun W w' (hw : Below (w.alloc (.cells nv.cells 29)).heap.size (w.alloc (.cells nv.cells 29)) w') (hW : w.alloc (.cells nv.cells 29) = W) => (HNB.out.below hw).facts)
  obtain ⟨G, hG⟩ : ∃ G, srt (pre (decide (nv.kd = 8)) ls ls.length) = G := ⟨_, rfl⟩
  have hGl : ls.flatten.length ≤ 500 → G.length ≤ 1000000 := fun hf => by
    rw [← hG, srt_len, pre_len _ (Nat.le_refl _), tot_all]; omega
  rw [hG] at HG HRG
  have HGL := Lib.hid hGl
  obtain ⟨s, kd, ia, il, ic, op, xn, xa, xl, xc, nn⟩ := nv
  dsimp only [nodeV, Nv.cells] at HB0 HHV HG HRG HM HC HCEL c0 c1 c2 c3 c4 c5 c6 ⊢
  obtain ⟨W0, hW0⟩ : ∃ W, w.alloc (.cells #[.string s, .int .u8 (kd : Int), .slice ia il ic, .int .u8 (op : Int), .int .i64 xn, .slice xa xl xc, .int .i64 nn] 29) = W := ⟨_, rfl⟩
  have HWE := Lib.hid hW0
  have HCELS := Lib.hid (fun w' hw => HCEL.out W0 w' hw hW0)
  have HG1 := Lib.hid (fun hf h20 w' hw => HG.out hf h20 W0 w' hw hW0)
  have HRG1 := Lib.hid (fun hf h20 w' hw => HRG.out hf h20 W0 w' hw hW0)
  have HM1 := Lib.hid (fun hf h20 w' hw => HM.out hf h20 W0 w' hw hW0)
  have HC1 := Lib.hid (fun hf h20 w' hw => HC.out hf h20 W0 w' hw hW0)
  rw [hW0] at HB0 HHV HCELS HG1 HRG1 HM1 HC1
  clear hb0 h hx hl hbig hn hG hGl HG HRG HM HC HCEL HLR HNB hW0
  go_enter Try.func4, Try.ntmps4
  go_wp2_with fail
  rw [HWE.out]
  (with_reducible refine HHV.out.mono ?_)
  rintro e w1 ⟨hor, hb1⟩
  rcases hor with rfl | ⟨rfl, hf, h20⟩
  · have HB1 := Lib.hid (below_on' HB0.out hb1)
    clear hb1
    go_wp2_with fail
    refine (HWK.out _).mono ?_
    rintro e w2 ⟨rfl, hb2⟩
    have HB2 := Lib.hid (below_on' HB1.out hb2)
    clear hb2
    go_wp2
    go_ret
    exact ⟨rfl, HB2.out⟩
  · have HG2 := Lib.hid (HG1.out hf h20)
    have HRG2 := Lib.hid (HRG1.out hf h20)
    have HM2 := Lib.hid (HM1.out hf h20)
    have HC2 := Lib.hid (HC1.out hf h20)
    have HRM2 := Lib.hid (HRM.out hf W0)
    have HEQ2 := Lib.hid (HEQ.out W0)
    have HGS := Lib.hid (HGL.out hf)
    have HSS : Hid ((srt ls.flatten).length ≤ 1000000) := Lib.hid (by rw [srt_len]; omega)
    have HR : Hid (Below W0.heap.size W0 w1) := Lib.hid hb1
    clear hf h20 hb1 HG1 HRG1 HM1 HC1 HRM HEQ HGL c0 c1 c2 c3 c4 c5 c6
    go_wp2_with fail
    go_region_held3 (fun w' => w'.cell? ⟨w.heap.size, 0, none⟩ = some (.string s) ∧ w'.cell? ⟨w.heap.size, 1, none⟩ = some (.int .u8 (kd : Int)) ∧ w'.cell? ⟨w.heap.size, 2, none⟩ = some (.slice ia il ic) ∧ w'.cell? ⟨w.heap.size, 3, none⟩ = some (.int .u8 (op : Int)) ∧ w'.cell? ⟨w.heap.size, 4, none⟩ = some (.int .i64 xn) ∧ w'.cell? ⟨w.heap.size, 5, none⟩ = some (.slice xa xl xc) ∧ w'.cell? ⟨w.heap.size, 6, none⟩ = some (.int .i64 nn)) (first | exact HCELS.out _ HR.out.drew | exact HCELS.out _ (below_on' k22 b25) | exact HCELS.out _ k22 | exact HCELS.out _ k21 | exact HCELS.out _ k20 | exact HCELS.out _ k18 | exact HCELS.out _ k15 | exact HCELS.out _ k14 | exact HCELS.out _ k11) (first
      | (go_at_call 10; with_reducible refine Calls.mono (HG2.out _ ?_) ?_; (first | exact HR.out.drew | exact k14); rintro e w11 ⟨v11, rfl, s11, b11, k11⟩)
      | (go_at_call 14; with_reducible refine Calls.mono (HRG2.out _ ?_) ?_; (first | exact HR.out.drew | exact k11); rintro e w14 ⟨v14, rfl, s14, b14, k14⟩)
      | (go_at_call 12; first
          | (with_reducible refine Calls.mono (HEQ2.out _ _ _ _ k14 (s11.below b14) s14 HGS.out) ?_; rintro e w15 ⟨rfl, b15, k15⟩)
          | (with_reducible refine Calls.mono (HEQ2.out _ _ _ _ k11 s11 (s14.below b11) HGS.out) ?_; rintro e w15 ⟨rfl, b15, k15⟩)
          | (with_reducible refine Calls.mono (HEQ2.out _ _ _ _ k21 ((s18.below b20).below b21) s21 HSS.out) ?_; rintro e w22 ⟨rfl, b22, k22⟩)
          | (with_reducible refine Calls.mono (HEQ2.out _ _ _ _ k21 (s18.below b21) s21 HSS.out) ?_; rintro e w22 ⟨rfl, b22, k22⟩)
          | (with_reducible refine Calls.mono (HEQ2.out _ _ _ _ k18 s18 (s21.below b18) HSS.out) ?_; rintro e w22 ⟨rfl, b22, k22⟩))
      | (go_at_call 15; with_reducible refine Calls.mono (HM2.out _ ?_) ?_; (first | exact k15 | exact k20 | exact k21); rintro e w18 ⟨v18, rfl, s18, b18, k18⟩)
      | (go_at_call 17; with_reducible refine Calls.mono (HC2.out _ ?_) ?_; (first | exact k15 | exact k18); rintro e w20 ⟨v20, rfl, s20, b20, k20⟩)
      | (go_at_call 16; first
          | (with_reducible refine Calls.mono (HRM2.out _ _ k20 s20) ?_; rintro e w21 ⟨v21, rfl, s21, b21, k21⟩)
          | (with_reducible refine Calls.mono (HRM2.out _ _ k18 (s20.below b18)) ?_; rintro e w21 ⟨v21, rfl, s21, b21, k21⟩))
      | (go_at_call 11; with_reducible refine Calls.mono (HWK.out _) ?_; rintro e w25 ⟨rfl, b25⟩))
    all_goals (go_wp2_with fail; go_ret; exact ⟨rfl, below_on' (below_on' HB0.out k22) b25⟩)
end Go.Proofs.Ytamdbfkofdjmlaa.opr
