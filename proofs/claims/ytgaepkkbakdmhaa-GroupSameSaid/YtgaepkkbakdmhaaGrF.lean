/- GroupSame returns true of every two keys and every par, in whatever world, and turns nothing that was there. -/
import Derived.Test.YtgaepkkbakdmhaaGrD
namespace Go.Proofs.Ytgaepkkbakdmhaa.grp
set_option linter.unusedSimpArgs false
set_option linter.unusedVariables false
open Go.RowKit

set_option maxHeartbeats 1600000 in
set_option maxRecDepth 1000000 in
theorem same_no (a b par : Int) (ha : fits a) (hb : fits b) (w1 : World) (hm : mayB par = false) : Calls Try.prog 6 #[.int .i64 a, .int .i64 b, .int .i64 par] w1 fun e w' => e = .returned (.bool true) ∧ Below w1.heap.size w1 w' := by
  have H1 := Lib.hid (fun w => of_any a w ha)
  have H2 := Lib.hid (fun w => of_any b w hb)
  have H3 := Lib.hid (fun w => part_any a w ha)
  have H4 := Lib.hid (fun w => part_any b w hb)
  have H6 := Lib.hid (fun w => place_any a par w ha)
  have H7 := Lib.hid (fun w => place_any b par w hb)
  have HQ := Lib.hid (may_no hm)
  have hq0 := plc_no (k := a) hm
  have hq1 : plc a par < 0 := by omega
  clear hm hq0
  by_cases hg : gof a = gof b
  · have hp : pof b = pof a := by unfold pof; rw [hg]
    have hl : plc b par = plc a par := by unfold plc; rw [hg]
    rw [← hg] at H2
    rw [hp] at H4
    rw [hl] at H7
    clear hg hp hl ha hb
    obtain ⟨g, hg⟩ : ∃ g, gof a = g := ⟨_, rfl⟩
    obtain ⟨p, hp⟩ : ∃ p, pof a = p := ⟨_, rfl⟩
    rw [hg] at H1 H2 
    rw [hp] at H3 H4
    obtain ⟨q, hq⟩ : ∃ q, plc a par = q := ⟨_, rfl⟩
    rw [hq] at H6 H7 hq1
    clear hq
    clear hg hp
    have hpp : (p != p) = false := by simp
    have hqq : (q != q) = false := by simp
    go_enter Try.func6, Try.ntmps6
    go_wp2_with fail
    refine (H1.out w1).mono ?_
    rintro e w2 ⟨rfl, rfl⟩
    go_wp2_with fail
    refine (H2.out w2).mono ?_
    rintro e w2 ⟨rfl, rfl⟩
    go_wp2_with fail
    refine (H3.out w2).mono ?_
    rintro e w2 ⟨rfl, rfl⟩
    go_wp2_with fail
    refine (H4.out w2).mono ?_
    rintro e w2 ⟨rfl, rfl⟩
    go_wp2_with fail
    refine (H6.out w2).mono ?_
    rintro e w2 ⟨rfl, rfl⟩
    go_wp2_with fail
    refine (H7.out w2).mono ?_
    rintro e w1 ⟨rfl, rfl⟩
    go_wp2_with fail
    refine (H6.out w1).mono ?_
    rintro e w2 ⟨rfl, rfl⟩
    rcases HQ.out with hq | ⟨hq, hq2⟩
    · go_wp2_with fail
      refine (works_any w2).mono ?_
      rintro e w3 ⟨rfl, hb⟩
      have HB := Lib.hid hb
      clear hb
      go_wp2_with fail
      go_ret
      exact ⟨rfl, HB.out⟩
    · go_wp2_with fail
      refine (works_any w2).mono ?_
      rintro e w3 ⟨rfl, hb⟩
      have HB := Lib.hid hb
      clear hb
      go_wp2_with fail
      go_ret
      exact ⟨rfl, HB.out⟩
  · have hne : (gof a == gof b) = false := by simp [hg]
    clear hg ha hb
    obtain ⟨g, hg⟩ : ∃ g, gof a = g := ⟨_, rfl⟩
    obtain ⟨g2, hg2⟩ : ∃ g, gof b = g := ⟨_, rfl⟩
    rw [hg] at H1 hne 
    rw [hg2] at H2 hne
    obtain ⟨q, hq⟩ : ∃ q, plc a par = q := ⟨_, rfl⟩
    rw [hq] at H6 hq1
    clear hq
    clear hg hg2
    go_enter Try.func6, Try.ntmps6
    go_wp2_with fail
    refine (H1.out w1).mono ?_
    rintro e w2 ⟨rfl, rfl⟩
    go_wp2_with fail
    refine (H2.out w2).mono ?_
    rintro e w1 ⟨rfl, rfl⟩
    go_wp2_with fail
    refine (H6.out w1).mono ?_
    rintro e w2 ⟨rfl, rfl⟩
    rcases HQ.out with hq | ⟨hq, hq2⟩
    · go_wp2_with fail
      refine (works_any w2).mono ?_
      rintro e w3 ⟨rfl, hb⟩
      have HB := Lib.hid hb
      clear hb
      go_wp2_with fail
      go_ret
      exact ⟨rfl, HB.out⟩
    · go_wp2_with fail
      refine (works_any w2).mono ?_
      rintro e w3 ⟨rfl, hb⟩
      have HB := Lib.hid hb
      clear hb
      go_wp2_with fail
      go_ret
      exact ⟨rfl, HB.out⟩
set_option maxHeartbeats 1600000 in
set_option maxRecDepth 1000000 in
theorem same_yes (a b par : Int) (ha : fits a) (hb : fits b) (w1 : World) (hm : mayB par = true) : Calls Try.prog 6 #[.int .i64 a, .int .i64 b, .int .i64 par] w1 fun e w' => e = .returned (.bool true) ∧ Below w1.heap.size w1 w' := by
  have H1 := Lib.hid (fun w => of_any a w ha)
  have H2 := Lib.hid (fun w => of_any b w hb)
  have H3 := Lib.hid (fun w => part_any a w ha)
  have H4 := Lib.hid (fun w => part_any b w hb)
  have H6 := Lib.hid (fun w => place_any a par w ha)
  have H7 := Lib.hid (fun w => place_any b par w hb)
  have HC : Hid (∀ v w, IRow w v (owns (plc a par) par) → Calls Try.prog 18 #[v, .int .i64 (gof a)] w fun e w' => e = .returned (.bool true) ∧ w' = w) := Lib.hid (fun v w h => (contains_any h (by have := owns_len (plc a par) par; omega) (gof a)).mono fun _ _ hp => ⟨by rw [hp.1, decide_eq_true (owns_key hm)], hp.2⟩)
  have hq0 : 0 ≤ plc a par ∧ plc a par < par := by rw [plc_yes hm]; exact plO_in (gof_in a).1 (gof_in a).2 hm
  obtain ⟨hq1, hq2⟩ := hq0
  clear hm
  by_cases hg : gof a = gof b
  · have hp : pof b = pof a := by unfold pof; rw [hg]
    have hl : plc b par = plc a par := by unfold plc; rw [hg]
    rw [← hg] at H2
    rw [hp] at H4
    rw [hl] at H7
    clear hg hp hl ha hb
    obtain ⟨g, hg⟩ : ∃ g, gof a = g := ⟨_, rfl⟩
    obtain ⟨p, hp⟩ : ∃ p, pof a = p := ⟨_, rfl⟩
    rw [hg] at H1 H2 HC
    rw [hp] at H3 H4
    obtain ⟨q, hq⟩ : ∃ q, plc a par = q := ⟨_, rfl⟩
    rw [hq] at H6 H7 HC hq1 hq2
    clear hq
    clear hg hp
    have hpp : (p != p) = false := by simp
    have hqq : (q != q) = false := by simp
    go_enter Try.func6, Try.ntmps6
    go_wp2_with fail
    refine (H1.out w1).mono ?_
    rintro e w2 ⟨rfl, rfl⟩
    go_wp2_with fail
    refine (H2.out w2).mono ?_
    rintro e w2 ⟨rfl, rfl⟩
    go_wp2_with fail
    refine (H3.out w2).mono ?_
    rintro e w2 ⟨rfl, rfl⟩
    go_wp2_with fail
    refine (H4.out w2).mono ?_
    rintro e w2 ⟨rfl, rfl⟩
    go_wp2_with fail
    refine (H6.out w2).mono ?_
    rintro e w2 ⟨rfl, rfl⟩
    go_wp2_with fail
    refine (H7.out w2).mono ?_
    rintro e w1 ⟨rfl, rfl⟩
    go_wp2_with fail
    refine (H6.out w1).mono ?_
    rintro e w2 ⟨rfl, rfl⟩
    go_wp2_with fail
    refine (owns_any q par w2).mono ?_
    rintro e w3 ⟨v, rfl, ho, hb⟩
    have HO := Lib.hid (own_irow ho)
    have HB := Lib.hid hb
    clear ho hb
    go_wp2_with fail
    refine (H1.out w3).mono ?_
    rintro e w4 ⟨rfl, rfl⟩
    go_wp2_with fail
    refine (HC.out v w4 HO.out).mono ?_
    rintro e w5 ⟨rfl, rfl⟩
    go_wp2_with fail
    refine (works_any w5).mono ?_
    rintro e w6 ⟨rfl, hb⟩
    have HB := Lib.hid (below_on' HB.out hb)
    clear hb
    go_wp2_with fail
    go_ret
    exact ⟨rfl, HB.out⟩
  · have hne : (gof a == gof b) = false := by simp [hg]
    clear hg ha hb
    obtain ⟨g, hg⟩ : ∃ g, gof a = g := ⟨_, rfl⟩
    obtain ⟨g2, hg2⟩ : ∃ g, gof b = g := ⟨_, rfl⟩
    rw [hg] at H1 hne HC
    rw [hg2] at H2 hne
    obtain ⟨q, hq⟩ : ∃ q, plc a par = q := ⟨_, rfl⟩
    rw [hq] at H6 HC hq1 hq2
    clear hq
    clear hg hg2
    go_enter Try.func6, Try.ntmps6
    go_wp2_with fail
    refine (H1.out w1).mono ?_
    rintro e w2 ⟨rfl, rfl⟩
    go_wp2_with fail
    refine (H2.out w2).mono ?_
    rintro e w1 ⟨rfl, rfl⟩
    go_wp2_with fail
    refine (H6.out w1).mono ?_
    rintro e w2 ⟨rfl, rfl⟩
    go_wp2_with fail
    refine (owns_any q par w2).mono ?_
    rintro e w3 ⟨v, rfl, ho, hb⟩
    have HO := Lib.hid (own_irow ho)
    have HB := Lib.hid hb
    clear ho hb
    go_wp2_with fail
    refine (H1.out w3).mono ?_
    rintro e w4 ⟨rfl, rfl⟩
    go_wp2_with fail
    refine (HC.out v w4 HO.out).mono ?_
    rintro e w5 ⟨rfl, rfl⟩
    go_wp2_with fail
    refine (works_any w5).mono ?_
    rintro e w6 ⟨rfl, hb⟩
    have HB := Lib.hid (below_on' HB.out hb)
    clear hb
    go_wp2_with fail
    go_ret
    exact ⟨rfl, HB.out⟩
theorem law_same (a b par : Int) (ha : fits a) (hb : fits b) (w : World) : Calls Try.prog 6 #[.int .i64 a, .int .i64 b, .int .i64 par] w fun e w' => e = .returned (.bool true) ∧ Below w.heap.size w w' := by
  cases hm : mayB par with
  | true => exact same_yes a b par ha hb w hm
  | false => exact same_no a b par ha hb w hm
end Go.Proofs.Ytgaepkkbakdmhaa.grp
