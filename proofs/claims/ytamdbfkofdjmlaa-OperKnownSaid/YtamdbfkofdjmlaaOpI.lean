/- The merge of two runs: the other step, and the merge. -/
import Derived.Test.YtamdbfkofdjmlaaOpH
namespace Go.Proofs.Ytamdbfkofdjmlaa.opr
set_option linter.unusedSimpArgs false
set_option linter.unusedVariables false
open Go.RowKit
attribute [local go_sem ↓] Go.wp_at_zero Go.wp_at_succ
open Go.Proofs.Ytamdbfkofdjmlaa.tbl (Only lt_of_get)
set_option maxHeartbeats 12800000 in
set_option maxRecDepth 1000000 in
theorem sym_lo {n : Nat} (IH : SymOk n) {w : World} {g o S : Nat} {l : List Rc} (h : Blk w g o S l) {a m b N cap : Nat} (hn : b - a ≤ n + 1) (hN : l.length = N) (h1 : a + 1 < m) (h2 : m + 1 < b) (h3 : b ≤ N) (hl : N ≤ 1000000) (hu1 : UpR a m l) (hu2 : UpR m b l) (hm : m ≤ (a + b) / 2) :
    Calls Try.prog 65 #[.slice (some ⟨g, o, none⟩) N cap, .int .i64 a, .int .i64 m, .int .i64 b, cmpF] w (SymPost w g o S l a b) := by
  have HIH := Lib.hid IH
  have HLN := Lib.hid hN
  have HUP := Lib.hid (And.intro hu1 hu2)
  obtain ⟨M, hM⟩ : ∃ M, (a + b) / 2 = M := ⟨_, rfl⟩
  rw [hM] at hm
  obtain ⟨D, hD⟩ : ∃ D, m - a = D := ⟨_, rfl⟩
  obtain ⟨F, hF⟩ : ∃ F, b - m = F := ⟨_, rfl⟩
  obtain ⟨T, hT⟩ : ∃ T, M + m = T := ⟨_, rfl⟩
  obtain ⟨PP, hPP⟩ : ∃ P, T - 1 = P := ⟨_, rfl⟩
  have ha0 : (0 : Int) ≤ (a : Int) := by omega
  have hm0 : (0 : Int) ≤ (m : Int) := by omega
  have hb0 : (0 : Int) ≤ (b : Int) := by omega
  have hD1 : (m : Int) - (a : Int) = (D : Int) := by omega
  have hD2 : ((D : Int) == 1) = false := beq_eq_false_iff_ne.2 (by omega)
  have hD3 : (D : Int) ≤ 1000000 := by omega
  have hF1 : (b : Int) - (m : Int) = (F : Int) := by omega
  have hF2 : ((F : Int) == 1) = false := beq_eq_false_iff_ne.2 (by omega)
  have hF3 : (F : Int) ≤ 1000000 := by omega
  have hM1 : ((a : Int) + (b : Int)) / 2 = (M : Int) := by omega
  have hM2 : (M : Int) ≤ 1000000 := by omega
  have hT1 : (M : Int) + (m : Int) = (T : Int) := by omega
  have hT2 : (T : Int) ≤ 2000000 := by omega
  have hP1 : (T : Int) - 1 = (PP : Int) := by omega
  have hP2 : (PP : Int) ≤ 2000000 := by omega
  have hma : (a : Int) ≤ 1000000 := by omega
  have hmm : (m : Int) ≤ 1000000 := by omega
  have hmb : (b : Int) ≤ 1000000 := by omega
  have h3' : (b : Int) ≤ (N : Int) := by omega
  have hl' : (N : Int) ≤ 1000000 := by omega
  obtain ⟨s0, hs0⟩ : ∃ s, a = s := ⟨_, rfl⟩
  obtain ⟨r0, hr0⟩ : ∃ r, m = r := ⟨_, rfl⟩
  have hmM : ¬ ((M : Int) < (m : Int)) := by omega
  have HST0 : Hid ((m > (a + b) / 2 ∧ s0 + b = (a + b) / 2 + m ∧ r0 = (a + b) / 2) ∨ (m ≤ (a + b) / 2 ∧ s0 = a ∧ r0 = m)) := Lib.hid (.inr (by omega))
  have HR0 : Hid (m = r0) := Lib.hid hr0
  have HS0 : Hid (a = s0) := Lib.hid hs0
  have HF0 : Hid (Srch m PP s0 r0 s0 r0 l) := Lib.hid (Srch.start (by omega) l)
  have HO0 : Hid (Blk w g o S l ∧ Only (· = g) w w) := Lib.hid ⟨h, Only.refl _ _⟩
  have HNUM : Hid (a + 1 < m ∧ m + 1 < b ∧ b ≤ N ∧ N ≤ 1000000 ∧ b - a ≤ n + 1 ∧ (a + b) / 2 = M ∧ M + m = T ∧ T - 1 = PP ∧ a ≤ s0 ∧ s0 ≤ r0 ∧ r0 ≤ m ∧ r0 ≤ M ∧ s0 + b ≥ T) := Lib.hid (by refine ⟨h1, h2, h3, hl, hn, hM, hT, hPP, ?_, ?_, ?_, ?_, ?_⟩ <;> omega)
  clear h hN hn h1 h2 h3 hl hu1 hu2 hm hD hF hM hT hPP hs0 hr0 IH
  go_enter Try.func65, Try.ntmps65
  go_wp2
  go_loopg [20, 21] (b - a) (fun k v20 v21 wr => ∃ s r, v20 = .int .i64 (s : Nat) ∧ v21 = .int .i64 (r : Nat) ∧ r - s ≤ k ∧ Hid (Srch m PP s0 r0 s r l) ∧ Hid (Blk wr g o S l ∧ Only (· = g) w wr))
  case atStart =>
    have hnum := HNUM.out
    have hs0 := HS0.out
    have hr0 := HR0.out
    exact ⟨a, m, rfl, rfl, by omega, Lib.hid (by rw [← HS0.out, ← HR0.out]; exact Srch.start (by omega) l), HO0⟩
  case round =>
    obtain ⟨s, r, rfl, rfl, hk, HF, HBO⟩ := hrel
    by_cases hlt : s < r
    · have hlt' : (s : Int) < (r : Int) := by omega
      have hs0 := HF.out.h1
      have hr0 := HF.out.h3
      have hnum := HNUM.out
      obtain ⟨c, hc⟩ : ∃ c, (s + r) / 2 = c := ⟨_, rfl⟩
      obtain ⟨X, hX⟩ : ∃ X, PP - c = X := ⟨_, rfl⟩
      have bs : (s : Int) ≤ 1000000 := by omega
      have br : (r : Int) ≤ 1000000 := by omega
      have hcI : ((s : Int) + (r : Int)) / 2 = (c : Int) := by omega
      have hc0 : (0 : Int) ≤ (c : Int) := by omega
      have hcN : (c : Int) < (N : Int) := by omega
      have hX1 : (PP : Int) - (c : Int) = (X : Int) := by omega
      have hX0 : (0 : Int) ≤ (X : Int) := by omega
      have hXN : (X : Int) < (N : Int) := by omega
      have wX : IntKind.i64.wrap ((PP : Int) - (c : Int)) = (X : Int) := by rw [IntKind.wrap_i64]; omega
      have wXX : IntKind.i64.wrap (X : Int) = (X : Int) := by rw [IntKind.wrap_i64]; omega
      have wc1 : IntKind.i64.wrap ((c : Int) + 1) = ((c + 1 : Nat) : Int) := by rw [IntKind.wrap_i64]; omega
      obtain ⟨x, gx⟩ := rec_at (l := l) (k := X) (by have := HLN.out; omega)
      obtain ⟨y, gy⟩ := rec_at (l := l) (k := c) (by have := HLN.out; omega)
      have HIJ : Hid (s ≤ c ∧ c < r ∧ r - s ≤ gk ∧ PP - c = X) := Lib.hid ⟨by omega, by omega, hk, hX⟩
      have HCAT : Hid (∀ w', Below wr.heap.size wr w' → w'.cell? ⟨g, o + X * 3, none⟩ = some (.int .i64 x.1) ∧ w'.cell? ⟨g, o + X * 3 + 1, none⟩ = some (.int .i64 x.2.1) ∧ w'.cell? ⟨g, o + X * 3 + 2, none⟩ = some (.int .i64 x.2.2) ∧ w'.cell? ⟨g, o + c * 3, none⟩ = some (.int .i64 y.1) ∧ w'.cell? ⟨g, o + c * 3 + 1, none⟩ = some (.int .i64 y.2.1) ∧ w'.cell? ⟨g, o + c * 3 + 2, none⟩ = some (.int .i64 y.2.2)) := Lib.hid fun w' hw => by
        obtain ⟨e1, e2, e3⟩ := (HBO.out.1.below hw).at gx
        obtain ⟨e4, e5, e6⟩ := (HBO.out.1.below hw).at gy
        exact ⟨e1, e2, e3, e4, e5, e6⟩
      have HCMP := Lib.hid (cmp_at x y wr)
      have HR : Hid (Below wr.heap.size wr wr) := Lib.hid (Below.refl _ _)
      have HST : Hid (∀ w', Below wr.heap.size wr w' → Blk w' g o S l ∧ Only (· = g) w w') := Lib.hid fun w' hw => ⟨HBO.out.1.below hw, HBO.out.2.on hw⟩
      have HXY := Lib.hid (And.intro gx gy)
      clear gx gy hc hX hk hs0 hr0 hnum
      by_cases hxy : x.1 < y.1
      · have hci : cmpI x.1 y.1 < 0 := cmpI_neg.2 hxy
        obtain ⟨q, hq⟩ : ∃ q, cmpI x.1 y.1 = q := ⟨_, rfl⟩
        rw [hq] at hci
        rw [hq] at HCMP

        have hqb : (!decide (q < 0)) = false := by simp; omega
        have HLT := Lib.hid hxy
        clear hq hxy
        obtain ⟨x1, x2, x3⟩ := x
        obtain ⟨y1, y2, y3⟩ := y
        unfold rcA at HCMP
        dsimp only at HCAT HCMP HLT
        go_wp2_with fail
        go_region_held3 (fun w' => w'.cell? ⟨g, o + X * 3, none⟩ = some (.int .i64 x1) ∧ w'.cell? ⟨g, o + X * 3 + 1, none⟩ = some (.int .i64 x2) ∧ w'.cell? ⟨g, o + X * 3 + 2, none⟩ = some (.int .i64 x3) ∧ w'.cell? ⟨g, o + c * 3, none⟩ = some (.int .i64 y1) ∧ w'.cell? ⟨g, o + c * 3 + 1, none⟩ = some (.int .i64 y2) ∧ w'.cell? ⟨g, o + c * 3 + 2, none⟩ = some (.int .i64 y3)) (first | exact HCAT.out _ HR.out.drew | exact HCAT.out _ hb3) (first
          | (go_at_call 25; with_reducible refine (HCMP.out _ ?_).mono ?_; exact HR.out.drew; rintro e w3 ⟨rfl, hb3⟩))
        have HB3 := Lib.hid (HST.out w3 hb3)
        clear hb3
        have HF1 : Hid (Srch m PP s0 r0 s c l) := Lib.hid (HF.out.down HIJ.out.1 HIJ.out.2.1 (fun u v hu hv => by
          rw [HIJ.out.2.2.2] at hv
          exact is_less HXY.out.2 HXY.out.1 HLT.out u v hu hv))
        go_wp2
        go_roundg (c - s)
        case measure => have := HIJ.out; omega
        case rel => exact ⟨s, c, rfl, rfl, by omega, HF1, HB3⟩
      · have hci : ¬ (cmpI x.1 y.1 < 0) := fun h => hxy (cmpI_neg.1 h)
        obtain ⟨q, hq⟩ : ∃ q, cmpI x.1 y.1 = q := ⟨_, rfl⟩
        rw [hq] at hci
        rw [hq] at HCMP
        have hci2 : (0 : Int) ≤ q := by omega
        have hqb : (!decide (q < 0)) = true := by simp; omega
        have HLT := Lib.hid hxy
        clear hq hxy
        obtain ⟨x1, x2, x3⟩ := x
        obtain ⟨y1, y2, y3⟩ := y
        unfold rcA at HCMP
        dsimp only at HCAT HCMP HLT
        go_wp2_with fail
        go_region_held3 (fun w' => w'.cell? ⟨g, o + X * 3, none⟩ = some (.int .i64 x1) ∧ w'.cell? ⟨g, o + X * 3 + 1, none⟩ = some (.int .i64 x2) ∧ w'.cell? ⟨g, o + X * 3 + 2, none⟩ = some (.int .i64 x3) ∧ w'.cell? ⟨g, o + c * 3, none⟩ = some (.int .i64 y1) ∧ w'.cell? ⟨g, o + c * 3 + 1, none⟩ = some (.int .i64 y2) ∧ w'.cell? ⟨g, o + c * 3 + 2, none⟩ = some (.int .i64 y3)) (first | exact HCAT.out _ HR.out.drew | exact HCAT.out _ hb3) (first
          | (go_at_call 25; with_reducible refine (HCMP.out _ ?_).mono ?_; exact HR.out.drew; rintro e w3 ⟨rfl, hb3⟩))
        have HB3 := Lib.hid (HST.out w3 hb3)
        clear hb3
        have HF1 : Hid (Srch m PP s0 r0 (c + 1) r l) := Lib.hid (HF.out.up HIJ.out.1 HIJ.out.2.1 (fun u v hu hv => by
          rw [HIJ.out.2.2.2] at hv
          have h1 := HLT.out
          rw [HXY.out.2] at hu
          rw [HXY.out.1] at hv
          injection hu with hu; injection hv with hv
          rw [← hu, ← hv]
          dsimp only at h1 ⊢
          omega))
        go_wp2
        go_roundg (r - (c + 1))
        case measure => have := HIJ.out; omega
        case rel => exact ⟨c + 1, r, rfl, rfl, by omega, HF1, HB3⟩
    · have hsr : s = r := by have := HF.out.h2; omega
      subst hsr
      have hnum := HNUM.out
      have hs0 := HF.out.h1
      have hr0 := HF.out.h3
      obtain ⟨E, hE⟩ : ∃ E, T - s = E := ⟨_, rfl⟩
      have hnl : ¬ ((s : Int) < (s : Int)) := by omega
      have bs : (s : Int) ≤ 1000000 := by omega
      have bs0 : (0 : Int) ≤ (s : Int) := by omega
      have hE1 : (T : Int) - (s : Int) = (E : Int) := by omega
      have hE2 : (E : Int) ≤ 1000000 := by omega
      have HCUT : Hid (CutAt a m b s E l ∧ s + (E - m) = M) := Lib.hid (by
        have h1 := HF.out
        rw [show PP = (a + b) / 2 + m - 1 by omega] at h1
        have h2 := h1.cut (by omega) (by omega) HST0.out
        rw [show (a + b) / 2 + m - s = E by omega] at h2
        rw [show (a + b) / 2 = M by omega] at h2
        exact h2)
      have HSY : Hid (∀ w1 q, Rot s m E l q → Blk w1 g o S q → Only (· = g) wr w1 → Sy1 w g o S l a b M s E w1 q) := Lib.hid fun w1 q hr hB hO =>
        sy1_of (wr := w) HCUT.out.1 HCUT.out.2 HUP.out.1 HUP.out.2 (by have := HLN.out; omega) hr hB (HBO.out.2.then hO)
      have HSE : Hid (a ≤ s ∧ s ≤ m ∧ m ≤ E ∧ E ≤ b ∧ s + (E - m) = M ∧ s ≤ M ∧ M ≤ E) := Lib.hid (by
        have h1 := HCUT.out.1
        have h2 := HCUT.out.2
        have e1 := h1.h1; have e2 := h1.h2; have e3 := h1.h3; have e4 := h1.h4
        refine ⟨e1, e2, e3, e4, h2, ?_, ?_⟩ <;> omega)
      clear hE hs0 hr0 hlt hk
      by_cases hA : s < m
      · have hA1 : (s : Int) < (m : Int) := by omega
        have hse := HSE.out
        by_cases hA2 : m < E
        · have hA2' : (m : Int) < (E : Int) := by omega
          have HCL := Lib.hid (rotate_any (cap := cap) HBO.out.1 HLN.out hA hA2 (by omega) (by omega))
          clear hA hA2 hnum hse
          go_wp2_with fail
          (with_reducible refine HCL.out.mono ?_)
          rintro e wx ⟨rfl, q, hx1, hx2, hx3⟩
          have H1 := Lib.hid (HSY.out wx q hx1 hx2 hx3)
          have hnum := HNUM.out
          have hse := HSE.out
          clear hx1 hx2 hx3 HCL
          by_cases hB : a < s ∧ s < M
          · obtain ⟨hB1, hB2⟩ := hB
            have hB1' : (a : Int) < (s : Int) := by omega
            have hB2' : (s : Int) < (M : Int) := by omega
            have HCL := Lib.hid (HIH.out wx g o S _ a s M N cap (by omega) H1.out.blk (H1.out.seg.len.trans HLN.out) hB1 hB2 (by omega) (by omega) H1.out.u1 H1.out.u2)
            clear hB1 hB2 hnum
            go_wp2_with fail
            (with_reducible refine HCL.out.mono ?_)
            rintro e wy ⟨rfl, u, hy1, hy2, hy3, hy4⟩
            have H2 := Lib.hid (sy2_of H1.out HSE.out.2.2.2.2.2.2 hy1 hy2 hy3 hy4)
            have hnum := HNUM.out
            have hse := HSE.out
            clear hy1 hy2 hy3 hy4 HCL
            by_cases hC : M < E ∧ E < b
            · obtain ⟨hC1, hC2⟩ := hC
              have hC1' : (M : Int) < (E : Int) := by omega
              have hC2' : (E : Int) < (b : Int) := by omega
              have HCL := Lib.hid (HIH.out wy g o S _ M E b N cap (by omega) H2.out.blk ((H2.out.seg.len.trans H2.out.segr.len).trans HLN.out) hC1 hC2 (by omega) (by omega) H2.out.u3 H2.out.u4)
              clear hC1 hC2 hnum
              go_wp2_with fail
              all_goals
                (with_reducible refine HCL.out.mono ?_)
                rintro e wz ⟨rfl, v, hz1, hz2, hz3, hz4⟩
                have HFIN := Lib.hid (sy_end H2.out (by have := HNUM.out; omega) (by have := HNUM.out; omega) hz1 hz2 hz3 hz4)
                clear hz1 hz2 hz3 hz4
                go_wp2
                all_goals (go_end0; exact HFIN.out)
            · have HFIN := Lib.hid (sy_no H2.out (by have := HNUM.out; omega) HSE.out.2.2.2.2.2.2 HSE.out.2.2.2.1 hC)
              by_cases hC1 : M < E
              · have hC1' : (M : Int) < (E : Int) := by omega
                have hC2' : ¬ ((E : Int) < (b : Int)) := by omega
                clear hC1 hC hnum
                go_wp2
                all_goals (go_end0; exact HFIN.out)
              · have hC1' : ¬ ((M : Int) < (E : Int)) := by omega
                clear hC1 hC hnum
                go_wp2
                all_goals (go_end0; exact HFIN.out)
          · have H2 := Lib.hid (sy2_no (w2 := wx) H1.out HSE.out.2.2.2.2.2.2 hB HSE.out.1 HSE.out.2.2.2.2.2.1)
            have hse := HSE.out
            by_cases hB1 : a < s
            · have hB1' : (a : Int) < (s : Int) := by omega
              have hB2' : ¬ ((s : Int) < (M : Int)) := by omega
              clear hB hB1
              by_cases hC : M < E ∧ E < b
              · obtain ⟨hC1, hC2⟩ := hC
                have hC1' : (M : Int) < (E : Int) := by omega
                have hC2' : (E : Int) < (b : Int) := by omega
                have HCL := Lib.hid (HIH.out wx g o S _ M E b N cap (by omega) H2.out.blk ((H2.out.seg.len.trans H2.out.segr.len).trans HLN.out) hC1 hC2 (by omega) (by omega) H2.out.u3 H2.out.u4)
                clear hC1 hC2 hnum
                go_wp2_with fail
                all_goals
                  (with_reducible refine HCL.out.mono ?_)
                  rintro e wz ⟨rfl, v, hz1, hz2, hz3, hz4⟩
                  have HFIN := Lib.hid (sy_end H2.out (by have := HNUM.out; omega) (by have := HNUM.out; omega) hz1 hz2 hz3 hz4)
                  clear hz1 hz2 hz3 hz4
                  go_wp2
                  all_goals (go_end0; exact HFIN.out)
              · have HFIN := Lib.hid (sy_no H2.out (by have := HNUM.out; omega) HSE.out.2.2.2.2.2.2 HSE.out.2.2.2.1 hC)
                by_cases hC1 : M < E
                · have hC1' : (M : Int) < (E : Int) := by omega
                  have hC2' : ¬ ((E : Int) < (b : Int)) := by omega
                  clear hC1 hC hnum
                  go_wp2
                  all_goals (go_end0; exact HFIN.out)
                · have hC1' : ¬ ((M : Int) < (E : Int)) := by omega
                  clear hC1 hC hnum
                  go_wp2
                  all_goals (go_end0; exact HFIN.out)
            · have hB1' : ¬ ((a : Int) < (s : Int)) := by omega
              clear hB hB1
              by_cases hC : M < E ∧ E < b
              · obtain ⟨hC1, hC2⟩ := hC
                have hC1' : (M : Int) < (E : Int) := by omega
                have hC2' : (E : Int) < (b : Int) := by omega
                have HCL := Lib.hid (HIH.out wx g o S _ M E b N cap (by omega) H2.out.blk ((H2.out.seg.len.trans H2.out.segr.len).trans HLN.out) hC1 hC2 (by omega) (by omega) H2.out.u3 H2.out.u4)
                clear hC1 hC2 hnum
                go_wp2_with fail
                all_goals
                  (with_reducible refine HCL.out.mono ?_)
                  rintro e wz ⟨rfl, v, hz1, hz2, hz3, hz4⟩
                  have HFIN := Lib.hid (sy_end H2.out (by have := HNUM.out; omega) (by have := HNUM.out; omega) hz1 hz2 hz3 hz4)
                  clear hz1 hz2 hz3 hz4
                  go_wp2
                  all_goals (go_end0; exact HFIN.out)
              · have HFIN := Lib.hid (sy_no H2.out (by have := HNUM.out; omega) HSE.out.2.2.2.2.2.2 HSE.out.2.2.2.1 hC)
                by_cases hC1 : M < E
                · have hC1' : (M : Int) < (E : Int) := by omega
                  have hC2' : ¬ ((E : Int) < (b : Int)) := by omega
                  clear hC1 hC hnum
                  go_wp2
                  all_goals (go_end0; exact HFIN.out)
                · have hC1' : ¬ ((M : Int) < (E : Int)) := by omega
                  clear hC1 hC hnum
                  go_wp2
                  all_goals (go_end0; exact HFIN.out)
        · have hA2' : ¬ ((m : Int) < (E : Int)) := by omega
          have H1 := Lib.hid (HSY.out wr l (by rw [show E = m by omega]; exact Rot.id _ _ _ (by omega)) HBO.out.1 (Only.refl _ _))
          clear hA hA2
          by_cases hB : a < s ∧ s < M
          · obtain ⟨hB1, hB2⟩ := hB
            have hB1' : (a : Int) < (s : Int) := by omega
            have hB2' : (s : Int) < (M : Int) := by omega
            have HCL := Lib.hid (HIH.out wr g o S _ a s M N cap (by omega) H1.out.blk (H1.out.seg.len.trans HLN.out) hB1 hB2 (by omega) (by omega) H1.out.u1 H1.out.u2)
            clear hB1 hB2 hnum
            go_wp2_with fail
            (with_reducible refine HCL.out.mono ?_)
            rintro e wy ⟨rfl, u, hy1, hy2, hy3, hy4⟩
            have H2 := Lib.hid (sy2_of H1.out HSE.out.2.2.2.2.2.2 hy1 hy2 hy3 hy4)
            have hnum := HNUM.out
            have hse := HSE.out
            clear hy1 hy2 hy3 hy4 HCL
            by_cases hC : M < E ∧ E < b
            · obtain ⟨hC1, hC2⟩ := hC
              have hC1' : (M : Int) < (E : Int) := by omega
              have hC2' : (E : Int) < (b : Int) := by omega
              have HCL := Lib.hid (HIH.out wy g o S _ M E b N cap (by omega) H2.out.blk ((H2.out.seg.len.trans H2.out.segr.len).trans HLN.out) hC1 hC2 (by omega) (by omega) H2.out.u3 H2.out.u4)
              clear hC1 hC2 hnum
              go_wp2_with fail
              all_goals
                (with_reducible refine HCL.out.mono ?_)
                rintro e wz ⟨rfl, v, hz1, hz2, hz3, hz4⟩
                have HFIN := Lib.hid (sy_end H2.out (by have := HNUM.out; omega) (by have := HNUM.out; omega) hz1 hz2 hz3 hz4)
                clear hz1 hz2 hz3 hz4
                go_wp2
                all_goals (go_end0; exact HFIN.out)
            · have HFIN := Lib.hid (sy_no H2.out (by have := HNUM.out; omega) HSE.out.2.2.2.2.2.2 HSE.out.2.2.2.1 hC)
              by_cases hC1 : M < E
              · have hC1' : (M : Int) < (E : Int) := by omega
                have hC2' : ¬ ((E : Int) < (b : Int)) := by omega
                clear hC1 hC hnum
                go_wp2
                all_goals (go_end0; exact HFIN.out)
              · have hC1' : ¬ ((M : Int) < (E : Int)) := by omega
                clear hC1 hC hnum
                go_wp2
                all_goals (go_end0; exact HFIN.out)
          · have H2 := Lib.hid (sy2_no (w2 := wr) H1.out HSE.out.2.2.2.2.2.2 hB HSE.out.1 HSE.out.2.2.2.2.2.1)
            have hse := HSE.out
            by_cases hB1 : a < s
            · have hB1' : (a : Int) < (s : Int) := by omega
              have hB2' : ¬ ((s : Int) < (M : Int)) := by omega
              clear hB hB1
              by_cases hC : M < E ∧ E < b
              · obtain ⟨hC1, hC2⟩ := hC
                have hC1' : (M : Int) < (E : Int) := by omega
                have hC2' : (E : Int) < (b : Int) := by omega
                have HCL := Lib.hid (HIH.out wr g o S _ M E b N cap (by omega) H2.out.blk ((H2.out.seg.len.trans H2.out.segr.len).trans HLN.out) hC1 hC2 (by omega) (by omega) H2.out.u3 H2.out.u4)
                clear hC1 hC2 hnum
                go_wp2_with fail
                all_goals
                  (with_reducible refine HCL.out.mono ?_)
                  rintro e wz ⟨rfl, v, hz1, hz2, hz3, hz4⟩
                  have HFIN := Lib.hid (sy_end H2.out (by have := HNUM.out; omega) (by have := HNUM.out; omega) hz1 hz2 hz3 hz4)
                  clear hz1 hz2 hz3 hz4
                  go_wp2
                  all_goals (go_end0; exact HFIN.out)
              · have HFIN := Lib.hid (sy_no H2.out (by have := HNUM.out; omega) HSE.out.2.2.2.2.2.2 HSE.out.2.2.2.1 hC)
                by_cases hC1 : M < E
                · have hC1' : (M : Int) < (E : Int) := by omega
                  have hC2' : ¬ ((E : Int) < (b : Int)) := by omega
                  clear hC1 hC hnum
                  go_wp2
                  all_goals (go_end0; exact HFIN.out)
                · have hC1' : ¬ ((M : Int) < (E : Int)) := by omega
                  clear hC1 hC hnum
                  go_wp2
                  all_goals (go_end0; exact HFIN.out)
            · have hB1' : ¬ ((a : Int) < (s : Int)) := by omega
              clear hB hB1
              by_cases hC : M < E ∧ E < b
              · obtain ⟨hC1, hC2⟩ := hC
                have hC1' : (M : Int) < (E : Int) := by omega
                have hC2' : (E : Int) < (b : Int) := by omega
                have HCL := Lib.hid (HIH.out wr g o S _ M E b N cap (by omega) H2.out.blk ((H2.out.seg.len.trans H2.out.segr.len).trans HLN.out) hC1 hC2 (by omega) (by omega) H2.out.u3 H2.out.u4)
                clear hC1 hC2 hnum
                go_wp2_with fail
                all_goals
                  (with_reducible refine HCL.out.mono ?_)
                  rintro e wz ⟨rfl, v, hz1, hz2, hz3, hz4⟩
                  have HFIN := Lib.hid (sy_end H2.out (by have := HNUM.out; omega) (by have := HNUM.out; omega) hz1 hz2 hz3 hz4)
                  clear hz1 hz2 hz3 hz4
                  go_wp2
                  all_goals (go_end0; exact HFIN.out)
              · have HFIN := Lib.hid (sy_no H2.out (by have := HNUM.out; omega) HSE.out.2.2.2.2.2.2 HSE.out.2.2.2.1 hC)
                by_cases hC1 : M < E
                · have hC1' : (M : Int) < (E : Int) := by omega
                  have hC2' : ¬ ((E : Int) < (b : Int)) := by omega
                  clear hC1 hC hnum
                  go_wp2
                  all_goals (go_end0; exact HFIN.out)
                · have hC1' : ¬ ((M : Int) < (E : Int)) := by omega
                  clear hC1 hC hnum
                  go_wp2
                  all_goals (go_end0; exact HFIN.out)
      · have hA1 : ¬ ((s : Int) < (m : Int)) := by omega
        have hse := HSE.out
        have H1 := Lib.hid (HSY.out wr l (by rw [show s = m by omega]; exact Rot.id' _ _ _ (by omega)) HBO.out.1 (Only.refl _ _))
        clear hA
        by_cases hB : a < s ∧ s < M
        · obtain ⟨hB1, hB2⟩ := hB
          have hB1' : (a : Int) < (s : Int) := by omega
          have hB2' : (s : Int) < (M : Int) := by omega
          have HCL := Lib.hid (HIH.out wr g o S _ a s M N cap (by omega) H1.out.blk (H1.out.seg.len.trans HLN.out) hB1 hB2 (by omega) (by omega) H1.out.u1 H1.out.u2)
          clear hB1 hB2 hnum
          go_wp2_with fail
          (with_reducible refine HCL.out.mono ?_)
          rintro e wy ⟨rfl, u, hy1, hy2, hy3, hy4⟩
          have H2 := Lib.hid (sy2_of H1.out HSE.out.2.2.2.2.2.2 hy1 hy2 hy3 hy4)
          have hnum := HNUM.out
          have hse := HSE.out
          clear hy1 hy2 hy3 hy4 HCL
          by_cases hC : M < E ∧ E < b
          · obtain ⟨hC1, hC2⟩ := hC
            have hC1' : (M : Int) < (E : Int) := by omega
            have hC2' : (E : Int) < (b : Int) := by omega
            have HCL := Lib.hid (HIH.out wy g o S _ M E b N cap (by omega) H2.out.blk ((H2.out.seg.len.trans H2.out.segr.len).trans HLN.out) hC1 hC2 (by omega) (by omega) H2.out.u3 H2.out.u4)
            clear hC1 hC2 hnum
            go_wp2_with fail
            all_goals
              (with_reducible refine HCL.out.mono ?_)
              rintro e wz ⟨rfl, v, hz1, hz2, hz3, hz4⟩
              have HFIN := Lib.hid (sy_end H2.out (by have := HNUM.out; omega) (by have := HNUM.out; omega) hz1 hz2 hz3 hz4)
              clear hz1 hz2 hz3 hz4
              go_wp2
              all_goals (go_end0; exact HFIN.out)
          · have HFIN := Lib.hid (sy_no H2.out (by have := HNUM.out; omega) HSE.out.2.2.2.2.2.2 HSE.out.2.2.2.1 hC)
            by_cases hC1 : M < E
            · have hC1' : (M : Int) < (E : Int) := by omega
              have hC2' : ¬ ((E : Int) < (b : Int)) := by omega
              clear hC1 hC hnum
              go_wp2
              all_goals (go_end0; exact HFIN.out)
            · have hC1' : ¬ ((M : Int) < (E : Int)) := by omega
              clear hC1 hC hnum
              go_wp2
              all_goals (go_end0; exact HFIN.out)
        · have H2 := Lib.hid (sy2_no (w2 := wr) H1.out HSE.out.2.2.2.2.2.2 hB HSE.out.1 HSE.out.2.2.2.2.2.1)
          have hse := HSE.out
          by_cases hB1 : a < s
          · have hB1' : (a : Int) < (s : Int) := by omega
            have hB2' : ¬ ((s : Int) < (M : Int)) := by omega
            clear hB hB1
            by_cases hC : M < E ∧ E < b
            · obtain ⟨hC1, hC2⟩ := hC
              have hC1' : (M : Int) < (E : Int) := by omega
              have hC2' : (E : Int) < (b : Int) := by omega
              have HCL := Lib.hid (HIH.out wr g o S _ M E b N cap (by omega) H2.out.blk ((H2.out.seg.len.trans H2.out.segr.len).trans HLN.out) hC1 hC2 (by omega) (by omega) H2.out.u3 H2.out.u4)
              clear hC1 hC2 hnum
              go_wp2_with fail
              all_goals
                (with_reducible refine HCL.out.mono ?_)
                rintro e wz ⟨rfl, v, hz1, hz2, hz3, hz4⟩
                have HFIN := Lib.hid (sy_end H2.out (by have := HNUM.out; omega) (by have := HNUM.out; omega) hz1 hz2 hz3 hz4)
                clear hz1 hz2 hz3 hz4
                go_wp2
                all_goals (go_end0; exact HFIN.out)
            · have HFIN := Lib.hid (sy_no H2.out (by have := HNUM.out; omega) HSE.out.2.2.2.2.2.2 HSE.out.2.2.2.1 hC)
              by_cases hC1 : M < E
              · have hC1' : (M : Int) < (E : Int) := by omega
                have hC2' : ¬ ((E : Int) < (b : Int)) := by omega
                clear hC1 hC hnum
                go_wp2
                all_goals (go_end0; exact HFIN.out)
              · have hC1' : ¬ ((M : Int) < (E : Int)) := by omega
                clear hC1 hC hnum
                go_wp2
                all_goals (go_end0; exact HFIN.out)
          · have hB1' : ¬ ((a : Int) < (s : Int)) := by omega
            clear hB hB1
            by_cases hC : M < E ∧ E < b
            · obtain ⟨hC1, hC2⟩ := hC
              have hC1' : (M : Int) < (E : Int) := by omega
              have hC2' : (E : Int) < (b : Int) := by omega
              have HCL := Lib.hid (HIH.out wr g o S _ M E b N cap (by omega) H2.out.blk ((H2.out.seg.len.trans H2.out.segr.len).trans HLN.out) hC1 hC2 (by omega) (by omega) H2.out.u3 H2.out.u4)
              clear hC1 hC2 hnum
              go_wp2_with fail
              all_goals
                (with_reducible refine HCL.out.mono ?_)
                rintro e wz ⟨rfl, v, hz1, hz2, hz3, hz4⟩
                have HFIN := Lib.hid (sy_end H2.out (by have := HNUM.out; omega) (by have := HNUM.out; omega) hz1 hz2 hz3 hz4)
                clear hz1 hz2 hz3 hz4
                go_wp2
                all_goals (go_end0; exact HFIN.out)
            · have HFIN := Lib.hid (sy_no H2.out (by have := HNUM.out; omega) HSE.out.2.2.2.2.2.2 HSE.out.2.2.2.1 hC)
              by_cases hC1 : M < E
              · have hC1' : (M : Int) < (E : Int) := by omega
                have hC2' : ¬ ((E : Int) < (b : Int)) := by omega
                clear hC1 hC hnum
                go_wp2
                all_goals (go_end0; exact HFIN.out)
              · have hC1' : ¬ ((M : Int) < (E : Int)) := by omega
                clear hC1 hC hnum
                go_wp2
                all_goals (go_end0; exact HFIN.out)
theorem sym_all : ∀ n, SymOk n
  | 0 => fun w g o S l a m b N cap hn _ _ h1 h2 _ _ _ _ => by omega
  | n + 1 => fun w g o S l a m b N cap hn h hN h1 h2 h3 hl hu1 hu2 => by
    by_cases e1 : a + 1 = m
    · exact sym_up h hN e1 h2 h3 hl hu2
    by_cases e2 : m + 1 = b
    · exact sym_down h hN (by omega) e2 h3 hl hu1
    by_cases e3 : (a + b) / 2 < m
    · exact sym_hi (sym_all n) h hn hN (by omega) (by omega) h3 hl hu1 hu2 e3
    · exact sym_lo (sym_all n) h hn hN (by omega) (by omega) h3 hl hu1 hu2 (by omega)
theorem sym_any {w : World} {g o S : Nat} {l : List Rc} (h : Blk w g o S l) {a m b N cap : Nat} (hN : l.length = N) (h1 : a < m) (h2 : m < b) (h3 : b ≤ N) (hl : N ≤ 1000000) (hu1 : UpR a m l) (hu2 : UpR m b l) :
    Calls Try.prog 65 #[.slice (some ⟨g, o, none⟩) N cap, .int .i64 a, .int .i64 m, .int .i64 b, cmpF] w fun e w' => e = .returned (.tuple #[]) ∧ ∃ r, Seg a b l r ∧ UpR a b r ∧ Blk w' g o S r ∧ Only (· = g) w w' :=
  sym_all _ w g o S l a m b N cap (Nat.le_refl _) h hN h1 h2 h3 hl hu1 hu2
end Go.Proofs.Ytamdbfkofdjmlaa.opr
