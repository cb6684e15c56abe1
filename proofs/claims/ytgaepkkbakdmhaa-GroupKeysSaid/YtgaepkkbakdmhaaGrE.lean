/- GroupKnown, GroupKeys and GroupSame return true, in whatever world, and turn nothing that was there. -/
import Derived.Test.YtgaepkkbakdmhaaGrD
namespace Go.Proofs.Ytgaepkkbakdmhaa.grp
set_option linter.unusedSimpArgs false
set_option linter.unusedVariables false
open Go.RowKit

set_option maxHeartbeats 1600000 in
set_option maxRecDepth 1000000 in
theorem law_known (w : World) : Calls Try.prog 3 #[] w fun e w' => e = .returned (.bool true) ∧ Below w.heap.size w w' := by
  have h1 : Hid (pof 9 = 0) := Lib.hid rfl
  have h2 : Hid (plc (-1) 3 = 2) := Lib.hid rfl
  have h3 : Hid (owns 0 3 = [0, 1, 2]) := Lib.hid (by decide)
  have h4 : Hid (owns 2 3 = [6, 7]) := Lib.hid (by decide)
  have h5 : Hid (owns 3 3 = []) := Lib.hid (by decide)
  have H1 := Lib.hid (fun w => part_any 9 w ⟨by omega, by omega⟩)
  have H2 := Lib.hid (fun w => place_any (-1) 3 w ⟨by omega, by omega⟩)
  rw [h1.out] at H1
  rw [h2.out] at H2
  go_enter Try.func3, Try.ntmps3
  go_wp2_with fail
  refine (works_any w).mono ?_
  rintro e w1 ⟨rfl, hb⟩
  have HB := Lib.hid hb
  clear hb
  go_wp2_with fail
  refine (H1.out w1).mono ?_
  rintro e w2 ⟨rfl, rfl⟩
  go_wp2_with fail
  refine (H2.out w2).mono ?_
  rintro e w3 ⟨rfl, rfl⟩
  go_wp2_with fail
  refine (owns_any 0 3 w3).mono ?_
  rintro e w4 ⟨v, rfl, ho, hb⟩
  rw [h3.out] at ho
  have HO := Lib.hid (own_irow ho)
  have HB := Lib.hid (below_on' HB.out hb)
  clear ho hb
  go_wp2_with fail
  refine (equal_same (HO.out.on (below_made _ _)) (irow_new w4 [0, 1, 2] 3 3 rfl _) (by decide)).mono ?_
  rintro e w5 ⟨rfl, hb⟩
  have HB := Lib.hid (below_on' HB.out (below_on' (below_made _ _) hb))
  clear hb
  go_wp2_with fail
  refine (owns_any 2 3 w5).mono ?_
  rintro e w6 ⟨v, rfl, ho, hb⟩
  rw [h4.out] at ho
  have HO := Lib.hid (own_irow ho)
  have HB := Lib.hid (below_on' HB.out hb)
  clear ho hb
  go_wp2_with fail
  refine (equal_same (HO.out.on (below_made _ _)) (irow_new w6 [6, 7] 2 2 rfl _) (by decide)).mono ?_
  rintro e w7 ⟨rfl, hb⟩
  have HB := Lib.hid (below_on' HB.out (below_on' (below_made _ _) hb))
  clear hb
  go_wp2_with fail
  refine (owns_any 3 3 w7).mono ?_
  rintro e w8 ⟨v, rfl, ho, hb⟩
  rw [h5.out] at ho
  have HB := Lib.hid (below_on' HB.out hb)
  obtain ⟨a, c, rfl, -⟩ := own_irow ho
  clear ho hb
  go_wp2_with fail
  go_ret
  exact ⟨rfl, HB.out⟩

set_option maxHeartbeats 1600000 in
set_option maxRecDepth 1000000 in
theorem law_keys (key par z : Int) (hk : fits key) (w : World) : Calls Try.prog 4 #[.int .i64 key, .int .i64 par, .int .i64 z] w fun e w' => e = .returned (.bool true) ∧ Below w.heap.size w w' := by
  have H1 := Lib.hid (of_any key w hk)
  have H2 := Lib.hid (rof_any key w hk)
  have H3 := Lib.hid (part_any key w hk)
  have H4 := Lib.hid (rpart_any key w hk)
  have H5 := Lib.hid (place_any key par w hk)
  have H6 := Lib.hid (rplace_any key par w hk)
  obtain ⟨g, hg⟩ : ∃ g, gof key = g := ⟨_, rfl⟩
  obtain ⟨p, hp⟩ : ∃ p, pof key = p := ⟨_, rfl⟩
  obtain ⟨q, hq⟩ : ∃ q, plc key par = q := ⟨_, rfl⟩
  rw [hg] at H1 H2
  rw [hp] at H3 H4
  rw [hq] at H5 H6
  clear hg hp hq hk
  go_enter Try.func4, Try.ntmps4
  go_wp2_with fail
  refine H1.out.mono ?_
  rintro e w1 ⟨rfl, rfl⟩
  go_wp2_with fail
  refine H2.out.mono ?_
  rintro e w1 ⟨rfl, rfl⟩
  go_wp2_with fail
  refine H3.out.mono ?_
  rintro e w1 ⟨rfl, rfl⟩
  go_wp2_with fail
  refine H4.out.mono ?_
  rintro e w1 ⟨rfl, rfl⟩
  go_wp2_with fail
  refine H5.out.mono ?_
  rintro e w1 ⟨rfl, rfl⟩
  go_wp2_with fail
  refine H6.out.mono ?_
  rintro e w1 ⟨rfl, rfl⟩
  go_wp2_with fail
  refine (owns_any z par w1).mono ?_
  rintro e w2 ⟨v, rfl, ho, hb⟩
  have HO := Lib.hid (own_irow ho)
  have HB := Lib.hid hb
  clear ho hb
  go_wp2_with fail
  refine (rowns_any z par w2).mono ?_
  rintro e w3 ⟨v', rfl, ho, hb⟩
  have HO' := Lib.hid (own_irow ho)
  have HO := Lib.hid (HO.out.on hb)
  have HB := Lib.hid (below_on' HB.out hb)
  clear ho hb
  go_wp2_with fail
  refine (equal_same HO.out HO'.out (by have := owns_len z par; omega)).mono ?_
  rintro e w4 ⟨rfl, hb⟩
  have HB := Lib.hid (below_on' HB.out hb)
  clear hb
  go_wp2_with fail
  refine (works_any w4).mono ?_
  rintro e w5 ⟨rfl, hb⟩
  have HB := Lib.hid (below_on' HB.out hb)
  clear hb
  go_wp2_with fail
  go_ret
  exact ⟨rfl, HB.out⟩
end Go.Proofs.Ytgaepkkbakdmhaa.grp
