/- What group.Of, Part, Place and the reference's answer: of every key. -/
import Derived.Test.YtghpbhcnblninaaRows
import Derived.Test.YtghpbhcnblninaaGrP
import Derived.WalkKit
import Derived.BigQuiet
import Derived.Handy
import Derived.Lib.Hide
namespace Go.Proofs.Ytghpbhcnblninaa.grp
set_option linter.unusedSimpArgs false
set_option linter.unusedVariables false
open Go.RowKit

theorem fits_wf {n : Int} (h : (Lit.int .i64 n).wf = true) : fits n := by
  simp [Lit.wf, IntKind.min, IntKind.max, IntKind.signed, IntKind.bits] at h
  exact ⟨by omega, by omega⟩
theorem ret_int {k : IntKind} {a b : Int} (h : a = b) : Ending.returned (.int k a) = .returned (.int k b) := by rw [h]
theorem of_any (k : Int) (w : World) (hk : fits k) : Calls Try.prog 35 #[.int .i64 k] w fun e w' => e = .returned (.int .i64 (gof k)) ∧ w' = w := by
  obtain ⟨h1, h2⟩ := hk
  have HT : Hid ((k.tmod 8 + 8) % 8 = gof k) := Lib.hid (by rw [← rem_twice, Int.tmod_eq_emod_of_nonneg (a := k.tmod 8 + 8) (by have := rem_in k; omega)])
  obtain ⟨r1, r2, -⟩ := rem_in k
  obtain ⟨r, hr⟩ : ∃ r, k.tmod 8 = r := ⟨_, rfl⟩
  rw [hr] at HT r1 r2
  go_enter Try.func35, Try.ntmps35
  go_wp2_with fail
  go_ret
  exact ⟨ret_int HT.out, rfl⟩
theorem ret_bool {a b : Bool} (h : a = b) : Ending.returned (.bool a) = .returned (.bool b) := by rw [h]
theorem may_any (par : Int) (w : World) : Calls Try.prog 55 #[.int .i64 par] w fun e w' => e = .returned (.bool (mayB par)) ∧ w' = w := by
  have HT : Hid ((decide (1 ≤ par) && decide (par ≤ 4)) = mayB par) := Lib.hid rfl
  by_cases h1 : 1 ≤ par
  · by_cases h2 : par ≤ 4
    · have HT : Hid (true = mayB par) := Lib.hid (by rw [← HT.out]; simp [h1, h2])
      go_enter Try.func55, Try.ntmps55
      go_wp2_with fail
      go_ret
      exact ⟨ret_bool HT.out, rfl⟩
    · have HT : Hid (false = mayB par) := Lib.hid (by rw [← HT.out]; simp [h2])
      go_enter Try.func55, Try.ntmps55
      go_wp2_with fail
      go_ret
      exact ⟨ret_bool HT.out, rfl⟩
  · have HT : Hid (false = mayB par) := Lib.hid (by rw [← HT.out]; simp [h1])
    go_enter Try.func55, Try.ntmps55
    go_wp2_with fail
    go_ret
    exact ⟨ret_bool HT.out, rfl⟩
theorem placeOf_any (g par : Int) (w : World) (h0 : 0 ≤ g) (h1 : g < 8) (hp : mayB par = true) : Calls Try.prog 56 #[.int .i64 g, .int .i64 par] w fun e w' => e = .returned (.int .i64 (plO g par)) ∧ w' = w := by
  have hp := may_four hp
  have HT : Hid (g * par / 8 = plO g par) := Lib.hid rfl
  rcases hp with rfl | rfl | rfl | rfl <;>
    (go_enter Try.func56, Try.ntmps56
     go_wp2_with fail
     go_ret
     exact ⟨ret_int (by simpa using HT.out), rfl⟩)
theorem place_any (k par : Int) (w : World) (hk : fits k) : Calls Try.prog 34 #[.int .i64 k, .int .i64 par] w fun e w' => e = .returned (.int .i64 (plc k par)) ∧ w' = w := by
  have HM := Lib.hid (may_any par w)
  have HG := Lib.hid (of_any k w hk)
  clear hk
  cases hp : mayB par with
  | true =>
    have HP := Lib.hid (placeOf_any (gof k) par w (gof_in k).1 (gof_in k).2 hp)
    have HT := Lib.hid (plc_yes (k := k) hp)
    rw [hp] at HM
    rw [HT.out]
    obtain ⟨g, hg⟩ : ∃ g, gof k = g := ⟨_, rfl⟩
    rw [hg] at HG HP ⊢
    obtain ⟨r, hr⟩ : ∃ r, plO g par = r := ⟨_, rfl⟩
    rw [hr] at HP ⊢
    clear hp hg hr HT
    go_enter Try.func34, Try.ntmps34
    go_wp2_with fail
    refine HM.out.mono ?_
    rintro e w1 ⟨rfl, rfl⟩
    go_wp2_with fail
    refine HG.out.mono ?_
    rintro e w1 ⟨rfl, rfl⟩
    go_wp2_with fail
    refine HP.out.mono ?_
    rintro e w1 ⟨rfl, rfl⟩
    go_wp2_with fail
    go_ret
    exact ⟨rfl, rfl⟩
  | false =>
    rw [plc_no hp]
    rw [hp] at HM
    clear hp
    go_enter Try.func34, Try.ntmps34
    go_wp2_with fail
    refine HM.out.mono ?_
    rintro e w1 ⟨rfl, rfl⟩
    go_wp2_with fail
    go_ret
    exact ⟨rfl, rfl⟩
theorem rof_any (k : Int) (w : World) (hk : fits k) : Calls Try.prog 50 #[.int .i64 k] w fun e w' => e = .returned (.int .i64 (gof k)) ∧ w' = w := by
  obtain ⟨h1, h2⟩ := hk
  have HT : Hid ((k.tmod 8 + 8) % 8 = gof k) := Lib.hid (by rw [← rem_twice, Int.tmod_eq_emod_of_nonneg (a := k.tmod 8 + 8) (by have := rem_in k; omega)])
  obtain ⟨r1, r2, -⟩ := rem_in k
  obtain ⟨r, hr⟩ : ∃ r, k.tmod 8 = r := ⟨_, rfl⟩
  rw [hr] at HT r1 r2
  go_enter Try.func50, Try.ntmps50
  go_wp2_with fail
  go_ret
  exact ⟨ret_int HT.out, rfl⟩
end Go.Proofs.Ytghpbhcnblninaa.grp
