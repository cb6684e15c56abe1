/- What the reference's Owns answers; the small thing that every statement of the layer asks. -/
import Derived.Test.YtgaepkkbakdmhaaGrC
namespace Go.Proofs.Ytgaepkkbakdmhaa.grp
set_option linter.unusedSimpArgs false
set_option linter.unusedVariables false
open Go.RowKit

theorem has_of {z par : Int} {k : Nat} (hk : (k : Int) < 8) (h0 : 0 ≤ z) : hasB z par k = decide (plc k par = z) := by
  have hg : gof (k : Int) = k := by unfold gof; omega
  cases hp : mayB par with
  | true => rw [plc_yes hp, hg]; simp [hasB, hp]
  | false =>
    rw [plc_no hp]
    have : ¬ ((-1 : Int) = z) := by omega
    simp [hasB, hp, this]
theorem has_below {z par : Int} {k : Nat} (hk : (k : Int) < 8) (h0 : z < 0) : hasB z par k = false := by
  cases hp : mayB par with
  | true =>
    have := plO_in (g := k) (by omega) hk hp
    have h : ¬ plO k par = z := by omega
    simp [hasB, h]
  | false => simp [hasB, hp]
set_option maxHeartbeats 800000 in
set_option maxRecDepth 1000000 in
theorem rowns_any (z par : Int) (w : World) : Calls Try.prog 17 #[.int .i64 z, .int .i64 par] w (OwnPost z par w) := by
  obtain ⟨i0, hi, hz0, hz1, hz2⟩ := info_parts infoI
  go_enter Try.func17, Try.ntmps17
  go_wp2_with fail
  go_loopg [5, 6] 8 (fun g v5 v6 wr => ∃ k : Nat, k + g = 8 ∧ v6 = .int .i64 k ∧ OwnRel z par w wr v5 k)
  case atStart => exact ⟨0, by omega, rfl, World.ownsRow_nil _ _ _ _, Below.refl _ _⟩
  case round =>
    obtain ⟨k, hk, rfl, hown, hb⟩ := hrel
    have HO := Lib.hid hown; have HB := Lib.hid hb
    have HL := Lib.hid (fun j hj => (hown.lt j hj).1)
    have hlen := ownL_len z par k
    cases gk with
    | zero =>
      have hkz : ¬ ((k : Int) < 8) := by omega
      obtain rfl : k = 8 := by omega
      clear hown hb hlen
      go_wp2_with fail
      try rw [Exit.noGoto_ret]
      go_ret
      exact ⟨_, rfl, HO.out, HB.out⟩
    | succ g =>
      have hkz : (k : Int) < 8 := by omega
      by_cases h0 : 0 ≤ z
      · have HC := Lib.hid (rplace_any (k : Int) par wr ⟨by omega, by omega⟩)
        have HH := Lib.hid (has_of (par := par) hkz h0)
        have HSZ : Hid (∀ o, w.heap.size ≤ (wr.alloc o).heap.size) := Lib.hid (fun o => by rw [World.size_alloc]; have := hb.size; omega)
        obtain ⟨p, hpo⟩ : ∃ p, plc k par = p := ⟨_, rfl⟩
        rw [hpo] at HC HH
        clear hown hb hpo
        by_cases hpz : p = z
        · subst hpz
          have HY : Hid (hasB p par k = true) := Lib.hid (by rw [HH.out]; simp)
          clear HH
          go_wp2_with fail
          refine HC.out.mono ?_
          rintro e w2 ⟨rfl, rfl⟩
          go_wp2_with (at_builtin; refine wpList_append_own _ rfl (.tmp 20) (.tmp 22) 26 rfl w.heap.size 3 i0 (.int .i64 0) 1 8 Try.underlying26 hi hz0 hz1 hz2 rfl (by decide) _ _ _ rfl (HO.out.alloc _) ⟨_, 0, none⟩ 1 1 [.int .i64 (k : Int)] rfl rfl (cell_one_new _ _ _) (by simp [Value.oneCell']) (by unfold maxLen; omega) (by omega) (HSZ.out _) ?_)
          intro v4 w3 k4 g4 _
          have HR2 := Lib.hid (own_more HY.out HB.out HL.out k4 g4)
          clear k4 g4
          go_wp2_with fail
          go_roundg g
          case measure => omega
          case rel => exact ⟨k + 1, by omega, by go_num, HR2.out⟩
        · have hne : (p == z) = false := by simp [hpz]
          have HY : Hid (hasB z par k = false) := Lib.hid (by rw [HH.out]; simp [hpz])
          have HR2 := Lib.hid (own_same HY.out ⟨HO.out, HB.out⟩)
          clear HH hpz
          go_wp2_with fail
          refine HC.out.mono ?_
          rintro e w2 ⟨rfl, rfl⟩
          go_wp2_with fail
          go_roundg g
          case measure => omega
          case rel => exact ⟨k + 1, by omega, by go_num, HR2.out⟩
      · have HR2 := Lib.hid (own_same (has_below (par := par) hkz (by omega)) ⟨HO.out, HB.out⟩)
        clear hown hb
        go_wp2_with fail
        go_roundg g
        case measure => omega
        case rel => exact ⟨k + 1, by omega, by go_num, HR2.out⟩
set_option maxHeartbeats 800000 in
set_option maxRecDepth 1000000 in
theorem works_any (w : World) : Calls Try.prog 8 #[] w fun e w' => e = .returned (.bool true) ∧ Below w.heap.size w w' := by
  have h1 : Hid (gof 9 = 1) := Lib.hid rfl
  have h2 : Hid (gof (-1) = 7) := Lib.hid rfl
  have h3 : Hid (pof (-1) = 1) := Lib.hid rfl
  have H1 := Lib.hid (of_any 9 w ⟨by omega, by omega⟩)
  have H2 := Lib.hid (of_any (-1) w ⟨by omega, by omega⟩)
  have H3 := Lib.hid (part_any (-1) w ⟨by omega, by omega⟩)
  rw [h1.out] at H1
  rw [h2.out] at H2
  rw [h3.out] at H3
  go_enter Try.func8, Try.ntmps8
  go_wp2_with fail
  refine H1.out.mono ?_
  rintro e w1 ⟨rfl, rfl⟩
  go_wp2_with fail
  refine H2.out.mono ?_
  rintro e w1 ⟨rfl, rfl⟩
  go_wp2_with fail
  refine H3.out.mono ?_
  rintro e w1 ⟨rfl, rfl⟩
  go_wp2_with fail
  go_ret
  exact ⟨rfl, Below.refl _ _⟩
end Go.Proofs.Ytgaepkkbakdmhaa.grp
