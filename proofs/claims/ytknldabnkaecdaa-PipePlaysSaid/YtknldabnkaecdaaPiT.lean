/- What the reference's May and Bytes answer: as May and Bytes. -/
import Derived.Test.YtknldabnkaecdaaPiN
import Derived.Test.YtknldabnkaecdaaByM
import Derived.Deep.RegionHeld
namespace Go.Proofs.Ytknldabnkaecdaa.pip
set_option linter.unusedSimpArgs false
set_option linter.unusedVariables false
open Go.RowKit
attribute [local go_sem ↓] Go.wp_at_zero Go.wp_at_succ
open Go.Proofs.Ytknldabnkaecdaa.byt (fits intV txt flat)
theorem RisesTo.down {rs : List Rc} {k n : Nat} (h : RisesTo rs k) (hn : n ≤ k) : RisesTo rs n := fun i x y hx hy hi => h i x y hx hy (by omega)
theorem may_of {x y : Int} {rs : List Rc} (hr : Rises rs) {b : Bool} (h : b = true ↔ (0 ≤ x ∧ 0 ≤ y ∧ (y = 0 ∨ rs = []))) : b = mayB (x, y, rs) := by
  cases b with
  | true =>
    obtain ⟨h1, h2, h3⟩ := h.1 rfl
    refine (mayB_yes ⟨h1, h2, fun hy => ?_, hr⟩).symm
    rcases h3 with h3 | h3
    · dsimp only at hy; omega
    · exact h3
  | false =>
    refine (mayB_no fun hm => ?_).symm
    have : false = true := h.2 ⟨hm.1, hm.2.1, by
      by_cases hy : 0 < y
      · exact .inr (hm.2.2.1 hy)
      · have h0 : (0 : Int) ≤ y := hm.2.1
        exact .inl (by omega)⟩
    cases this
theorem may_no_rise {x y : Int} {rs : List Rc} {i : Nat} {p q : Rc} (hx : rs[i]? = some p) (hy : rs[i + 1]? = some q) (h : q.1 ≤ p.1) : false = mayB (x, y, rs) := by
  refine (mayB_no fun hm => ?_).symm
  have := hm.2.2.2 i p q hx hy (List.getElem?_eq_some_iff.1 hy).1
  omega
set_option maxHeartbeats 1600000 in
set_option maxRecDepth 1000000 in
theorem rmay_any {v : Value} {m : Ms} (w : World) (h : MV w v m) (hl : m.2.2.length ≤ 9223372036854775806) :
    Calls Try.prog 23 #[v] w fun e w' => e = .returned (.bool (mayB m)) ∧ Below w.heap.size w w' := by
  obtain ⟨a, c, rfl, hs⟩ := h.parts
  obtain ⟨x, y, rs⟩ := m
  dsimp only at hs hl ⊢
  obtain ⟨n, hn⟩ : ∃ n, rs.length = n := ⟨_, rfl⟩
  have hb0 := below_made w (.cells #[.int .i64 x, .int .i64 y, .slice a rs.length c] 29)
  have hx0 := Bx.new w x y (.slice a rs.length c)
  rw [hn] at hb0 hx0 hs hl ⊢
  have HS := Lib.hid (hs.below hb0)
  have HB0 := Lib.hid hb0
  obtain ⟨N, hN⟩ : ∃ n, w.heap.size = n := ⟨_, rfl⟩
  rw [hN] at hx0
  obtain ⟨W0, hW0⟩ : ∃ W, w.alloc (.cells #[.int .i64 x, .int .i64 y, .slice a n c] 29) = W := ⟨_, rfl⟩
  rw [hW0] at hx0 HS HB0
  have HX0 := Lib.hid hx0
  have HN := Lib.hid hn
  have hn1 : (n : Int) ≤ 9223372036854775806 := by omega
  clear h hs hb0 hx0 hn hl
  go_enter Try.func23, Try.ntmps23
  go_wp2_with fail
  go_loopg [3] n (fun g v3 wr => ∃ k : Nat, n ≤ k + g ∧ v3 = .int .i64 k ∧ 1 ≤ k ∧ Hid (k ≤ n + 1) ∧ Hid (RisesTo rs k) ∧ Hid (Below W0.heap.size W0 wr))
  case atStart => exact ⟨1, by omega, rfl, Nat.le_refl _, Lib.hid (by omega), Lib.hid (.zero _ _ (by omega)), Lib.hid (Below.refl _ _)⟩
  case round =>
    obtain ⟨k, hkg, rfl, hk1, HKN, HR, HB⟩ := hrel
    have hx1 := HX0.out.below HB.out
    obtain ⟨⟨c0, c1, c2⟩, f0⟩ := hx1.facts
    have HBB : Hid (∀ w', Below wr.heap.size wr w' → Below w.heap.size w w') := Lib.hid (fun w' h => below_on' HB0.out (below_on' HB.out h))
    by_cases hkn : k < n
    · have hkz : (k : Int) < (n : Int) := by omega
      obtain ⟨j, hj⟩ : ∃ j, k = j + 1 := ⟨k - 1, by omega⟩
      obtain ⟨q, hq⟩ := rec_at (rs := rs) (k := k) (by rw [HN.out]; exact hkn)
      obtain ⟨p, hp⟩ := rec_at (rs := rs) (k := j) (by rw [HN.out]; omega)
      have hsr := HS.out.below HB.out
      rw [← HN.out] at hsr
      obtain ⟨gb, o, c', e1, e2, p1, p2, p3⟩ := hsr.at hq
      obtain ⟨gb', o', c'', e3, e4, q1, q2, q3⟩ := hsr.at hp
      injection e1 with e1a e1n e1b
      subst e1a e1b
      injection e3 with e3a e3n e3b
      injection e3a with e3a
      injection e3a with e3c e3d
      subst e3c e3d
      clear e1n e3n e3b
      have hkj : (k : Int) - 1 = (j : Int) := by omega
      have hjn : (j : Int) < (n : Int) := by omega
      have hj0 : (0 : Int) ≤ (j : Int) := by omega
      have HJ := Lib.hid hj
      have HQ := Lib.hid hq
      have HP := Lib.hid hp
      have HKG := Lib.hid hkg
      obtain ⟨y1, y2, y3⟩ := q
      obtain ⟨x1, x2, x3⟩ := p
      dsimp only at p1 q1
      clear p2 p3 q2 q3 hq hp e2 e4 hkg hj hsr hx1 c0 c1
      by_cases hle : y1 ≤ x1
      · have HE : Hid (false = mayB (x, y, rs)) := Lib.hid (may_no_rise HP.out (by have := HQ.out; rwa [HJ.out] at this) hle)
        go_wp2_with fail
        go_quiet (fail)
        go_wp2_with fail
        go_ret
        exact ⟨ret_bool HE.out, by first | exact HBB.out _ (below_drewN _ _) | (rw [← hN]; exact HBB.out _ (below_drewN _ _))⟩
      · have HR1 : Hid (RisesTo rs (k + 1)) := Lib.hid (by
          have h1 := HR.out
          have h2 := HQ.out
          rw [HJ.out] at h1 h2 ⊢
          exact h1.more HP.out h2 (by omega))
        go_wp2_with fail
        go_quiet (fail)
        go_wp2_with fail
        go_roundg (n - (k + 1))
        case measure => have := HKG.out; omega
        case rel => exact ⟨k + 1, by omega, by go_num, by omega, Lib.hid (by have := HKN.out; omega), HR1, Lib.hid (below_on' HB.out (below_drewN _ _))⟩
    · have hkz : ¬ ((k : Int) < (n : Int)) := by omega
      have HRI : Hid (Rises rs) := Lib.hid (HR.out.down (by rw [HN.out]; omega))
      have HNZ : Hid (n = 0 ↔ rs = []) := Lib.hid (by rw [← HN.out]; exact List.length_eq_zero_iff)
      have HWW : Hid (Below w.heap.size w wr) := Lib.hid (HBB.out _ (Below.refl _ _))
      clear hkg hk1 hx1 hkn
      by_cases hx : x < 0
      · have hxg : ¬ (0 ≤ x) := by omega
        have HE : Hid (false = mayB (x, y, rs)) := Lib.hid (may_of HRI.out ⟨(fun h => by cases h), fun h => absurd h.1 (by omega)⟩)
        go_wp2_with fail
        go_ret
        exact ⟨ret_bool HE.out, by first | exact HWW.out | (rw [← hN]; exact HWW.out)⟩
      by_cases hy : y < 0
      · have HE : Hid (false = mayB (x, y, rs)) := Lib.hid (may_of HRI.out ⟨(fun h => by cases h), fun h => absurd h.2.1 (by omega)⟩)
        go_wp2_with fail
        go_ret
        exact ⟨ret_bool HE.out, by first | exact HWW.out | (rw [← hN]; exact HWW.out)⟩
      by_cases hy0 : y = 0
      · subst hy0
        have HE : Hid (true = mayB (x, 0, rs)) := Lib.hid (may_of HRI.out ⟨fun _ => ⟨by omega, Int.le_refl _, .inl rfl⟩, fun _ => rfl⟩)
        go_wp2_with fail
        go_ret
        exact ⟨ret_bool HE.out, by first | exact HWW.out | (rw [← hN]; exact HWW.out)⟩
      have hyb : (y == 0) = false := by simp [hy0]
      by_cases hz : n = 0
      · subst hz
        have HE : Hid (true = mayB (x, y, rs)) := Lib.hid (may_of HRI.out ⟨fun _ => ⟨by omega, by omega, .inr (HNZ.out.1 rfl)⟩, fun _ => rfl⟩)
        clear hy0
        go_wp2_with fail
        go_ret
        exact ⟨ret_bool HE.out, by first | exact HWW.out | (rw [← hN]; exact HWW.out)⟩
      · have HE : Hid (false = mayB (x, y, rs)) := Lib.hid (may_of HRI.out ⟨(fun h => by cases h), fun h => by
          rcases h.2.2 with h | h
          · exact absurd h hy0
          · exact absurd (HNZ.out.2 h) hz⟩)
        have hzb : ((n : Int) == 0) = false := by simp; omega
        clear hy0
        go_wp2_with fail
        go_ret
        exact ⟨ret_bool HE.out, by first | exact HWW.out | (rw [← hN]; exact HWW.out)⟩
end Go.Proofs.Ytknldabnkaecdaa.pip
