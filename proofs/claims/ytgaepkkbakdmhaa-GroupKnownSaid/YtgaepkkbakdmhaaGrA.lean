/- What group.Of, Part, Place and the reference's answer: of every key. -/
import Derived.Test.YtgaepkkbakdmhaaRows
import Derived.Test.YtgaepkkbakdmhaaGrP
import Derived.WalkKit
import Derived.BigQuiet
import Derived.Handy
import Derived.Lib.Hide
namespace Go.Proofs.Ytgaepkkbakdmhaa.grp
set_option linter.unusedSimpArgs false
set_option linter.unusedVariables false
open Go.RowKit

theorem fits_wf {n : Int} (h : (Lit.int .i64 n).wf = true) : fits n := by
  simp [Lit.wf, IntKind.min, IntKind.max, IntKind.signed, IntKind.bits] at h
  exact ⟨by omega, by omega⟩
theorem ret_int {k : IntKind} {a b : Int} (h : a = b) : Ending.returned (.int k a) = .returned (.int k b) := by rw [h]
theorem of_any (k : Int) (w : World) (hk : fits k) : Calls Try.prog 13 #[.int .i64 k] w fun e w' => e = .returned (.int .i64 (gof k)) ∧ w' = w := by
  obtain ⟨h1, h2⟩ := hk
  have HT : Hid ((k.tmod 8 + 8) % 8 = gof k) := Lib.hid (by rw [← rem_twice, Int.tmod_eq_emod_of_nonneg (a := k.tmod 8 + 8) (by have := rem_in k; omega)])
  obtain ⟨r1, r2, -⟩ := rem_in k
  obtain ⟨r, hr⟩ : ∃ r, k.tmod 8 = r := ⟨_, rfl⟩
  rw [hr] at HT r1 r2
  go_enter Try.func13, Try.ntmps13
  go_wp2_with fail
  go_ret
  exact ⟨ret_int HT.out, rfl⟩
theorem part_any (k : Int) (w : World) (hk : fits k) : Calls Try.prog 9 #[.int .i64 k] w fun e w' => e = .returned (.int .i64 (pof k)) ∧ w' = w := by
  have HG := Lib.hid (of_any k w hk)
  have HT : Hid (gof k / 4 = pof k) := Lib.hid rfl
  obtain ⟨r1, r2⟩ := gof_in k
  obtain ⟨r, hr⟩ : ∃ r, gof k = r := ⟨_, rfl⟩
  rw [hr] at HT HG r1 r2
  clear hk hr
  go_enter Try.func9, Try.ntmps9
  go_wp2_with fail
  refine HG.out.mono ?_
  rintro e w1 ⟨rfl, rfl⟩
  go_wp2_with fail
  go_ret
  exact ⟨ret_int HT.out, rfl⟩
theorem ret_bool {a b : Bool} (h : a = b) : Ending.returned (.bool a) = .returned (.bool b) := by rw [h]
theorem may_any (par : Int) (w : World) : Calls Try.prog 19 #[.int .i64 par] w fun e w' => e = .returned (.bool (mayB par)) ∧ w' = w := by
  have HT : Hid ((decide (1 ≤ par) && decide (par ≤ 4)) = mayB par) := Lib.hid rfl
  by_cases h1 : 1 ≤ par
  · by_cases h2 : par ≤ 4
    · have HT : Hid (true = mayB par) := Lib.hid (by rw [← HT.out]; simp [h1, h2])
      go_enter Try.func19, Try.ntmps19
      go_wp2_with fail
      go_ret
      exact ⟨ret_bool HT.out, rfl⟩
    · have HT : Hid (false = mayB par) := Lib.hid (by rw [← HT.out]; simp [h2])
      go_enter Try.func19, Try.ntmps19
      go_wp2_with fail
      go_ret
      exact ⟨ret_bool HT.out, rfl⟩
  · have HT : Hid (false = mayB par) := Lib.hid (by rw [← HT.out]; simp [h1])
    go_enter Try.func19, Try.ntmps19
    go_wp2_with fail
    go_ret
    exact ⟨ret_bool HT.out, rfl⟩
theorem placeOf_any (g par : Int) (w : World) (h0 : 0 ≤ g) (h1 : g < 8) (hp : mayB par = true) : Calls Try.prog 20 #[.int .i64 g, .int .i64 par] w fun e w' => e = .returned (.int .i64 (plO g par)) ∧ w' = w := by
  have hp := may_four hp
  have HT : Hid (g * par / 8 = plO g par) := Lib.hid rfl
  rcases hp with rfl | rfl | rfl | rfl <;>
    (go_enter Try.func20, Try.ntmps20
     go_wp2_with fail
     go_ret
     exact ⟨ret_int (by simpa using HT.out), rfl⟩)
theorem place_any (k par : Int) (w : World) (hk : fits k) : Calls Try.prog 10 #[.int .i64 k, .int .i64 par] w fun e w' => e = .returned (.int .i64 (plc k par)) ∧ w' = w := by
  have HM := Lib.hid (may_any par w)
  have HG := Lib.hid (of_any k w hk)
  clear hk
  cases hp : mayB par with
  | true =>
    have HP := Lib.hid (placeOf_any (gof k) par w (gof_in k).1 (gof_in k).2 hp)
    have HT := Lib.hid (plc_yes (k := k) hp)
    rw [hp] at HM
    rw [HT.out]
    obtain ⟨g, hg⟩ : ∃ g, gof k = g := ⟨_, rfl⟩
    rw [hg] at HG HP ⊢
    obtain ⟨r, hr⟩ : ∃ r, plO g par = r := ⟨_, rfl⟩
    rw [hr] at HP ⊢
    clear hp hg hr HT
    go_enter Try.func10, Try.ntmps10
    go_wp2_with fail
    refine HM.out.mono ?_
    rintro e w1 ⟨rfl, rfl⟩
    go_wp2_with fail
    refine HG.out.mono ?_
    rintro e w1 ⟨rfl, rfl⟩
    go_wp2_with fail
    refine HP.out.mono ?_
    rintro e w1 ⟨rfl, rfl⟩
    go_wp2_with fail
    go_ret
    exact ⟨rfl, rfl⟩
  | false =>
    rw [plc_no hp]
    rw [hp] at HM
    clear hp
    go_enter Try.func10, Try.ntmps10
    go_wp2_with fail
    refine HM.out.mono ?_
    rintro e w1 ⟨rfl, rfl⟩
    go_wp2_with fail
    go_ret
    exact ⟨rfl, rfl⟩
theorem rof_any (k : Int) (w : World) (hk : fits k) : Calls Try.prog 14 #[.int .i64 k] w fun e w' => e = .returned (.int .i64 (gof k)) ∧ w' = w := by
  obtain ⟨h1, h2⟩ := hk
  have HT : Hid ((k.tmod 8 + 8) % 8 = gof k) := Lib.hid (by rw [← rem_twice, Int.tmod_eq_emod_of_nonneg (a := k.tmod 8 + 8) (by have := rem_in k; omega)])
  obtain ⟨r1, r2, -⟩ := rem_in k
  obtain ⟨r, hr⟩ : ∃ r, k.tmod 8 = r := ⟨_, rfl⟩
  rw [hr] at HT r1 r2
  go_enter Try.func14, Try.ntmps14
  go_wp2_with fail
  go_ret
  exact ⟨ret_int HT.out, rfl⟩
theorem rpart_any (k : Int) (w : World) (hk : fits k) : Calls Try.prog 15 #[.int .i64 k] w fun e w' => e = .returned (.int .i64 (pof k)) ∧ w' = w := by
  have HG := Lib.hid (rof_any k w hk)
  have HT : Hid (gof k / 4 = pof k) := Lib.hid rfl
  obtain ⟨r1, r2⟩ := gof_in k
  obtain ⟨r, hr⟩ : ∃ r, gof k = r := ⟨_, rfl⟩
  rw [hr] at HT HG r1 r2
  clear hk hr
  by_cases h4 : r < 4
  · go_enter Try.func15, Try.ntmps15
    go_wp2_with fail
    refine HG.out.mono ?_
    rintro e w1 ⟨rfl, rfl⟩
    go_wp2_with fail
    go_ret
    exact ⟨ret_int (by rw [← HT.out]; omega), rfl⟩
  · go_enter Try.func15, Try.ntmps15
    go_wp2_with fail
    refine HG.out.mono ?_
    rintro e w1 ⟨rfl, rfl⟩
    go_wp2_with fail
    go_ret
    exact ⟨ret_int (by rw [← HT.out]; omega), rfl⟩
set_option maxHeartbeats 800000 in
theorem rplace_any (k par : Int) (w : World) (hk : fits k) : Calls Try.prog 16 #[.int .i64 k, .int .i64 par] w fun e w' => e = .returned (.int .i64 (plc k par)) ∧ w' = w := by
  have HG := Lib.hid (rof_any k w hk)
  clear hk
  cases hp : mayB par with
  | true =>
    rw [plc_yes hp]
    have hq := may_four hp
    obtain ⟨g0, g1⟩ := gof_in k
    obtain ⟨g, hg⟩ : ∃ g, gof k = g := ⟨_, rfl⟩
    rw [hg] at HG g0 g1 ⊢
    have HT : Hid (g * par / 8 = plO g par) := Lib.hid rfl
    clear hp hg
    rcases hq with rfl | rfl | rfl | rfl <;>
      (go_enter Try.func16, Try.ntmps16
       go_wp2_with fail
       refine HG.out.mono ?_
       rintro e w1 ⟨rfl, rfl⟩
       go_wp2_with fail
       go_ret
       exact ⟨ret_int (by simpa using HT.out), rfl⟩)
  | false =>
    rw [plc_no hp]
    rcases may_no hp with hq | ⟨hq, hq2⟩ <;>
      (clear hp
       go_enter Try.func16, Try.ntmps16
       go_wp2_with fail
       go_ret
       exact ⟨rfl, rfl⟩)
end Go.Proofs.Ytgaepkkbakdmhaa.grp
