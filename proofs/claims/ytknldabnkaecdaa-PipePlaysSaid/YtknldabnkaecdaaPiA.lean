/- What May, rise, apart, New, Len and Room answer. -/
import Derived.Test.YtknldabnkaecdaaPiM
namespace Go.Proofs.Ytknldabnkaecdaa.pip
set_option linter.unusedSimpArgs false
set_option linter.unusedVariables false
open Go.RowKit
attribute [local go_sem ↓] Go.wp_at_zero Go.wp_at_succ
theorem ret_bool {a b : Bool} (h : a = b) : Ending.returned (.bool a) = .returned (.bool b) := by rw [h]
/-- The places rise as far as the first k. -/
def RisesTo (rs : List Rc) (k : Nat) : Prop := ∀ (i : Nat) (x y : Rc), rs[i]? = some x → rs[i + 1]? = some y → i + 1 < k → x.1 < y.1
def Rises (rs : List Rc) : Prop := RisesTo rs rs.length
def MayP (m : Ms) : Prop := 0 ≤ m.1 ∧ 0 ≤ m.2.1 ∧ (0 < m.2.1 → m.2.2 = []) ∧ Rises m.2.2
open Classical in
noncomputable def riseB (rs : List Rc) : Bool := decide (Rises rs)
open Classical in
noncomputable def mayB (m : Ms) : Bool := decide (MayP m)
theorem riseB_yes {rs : List Rc} (h : Rises rs) : true = riseB rs := by classical exact (decide_eq_true h).symm
theorem riseB_no {rs : List Rc} {i : Nat} {x y : Rc} (hx : rs[i]? = some x) (hy : rs[i + 1]? = some y) (h : y.1 ≤ x.1) : false = riseB rs := by
  classical
  refine (decide_eq_false fun hr => ?_).symm
  have := hr i x y hx hy (List.getElem?_eq_some_iff.1 hy).1
  omega
theorem mayB_yes {m : Ms} (h : MayP m) : mayB m = true := by classical exact decide_eq_true h
theorem mayB_no {m : Ms} (h : ¬ MayP m) : mayB m = false := by classical exact decide_eq_false h
theorem may_iff {m : Ms} : mayB m = true ↔ MayP m := by classical exact decide_eq_true_iff
theorem RisesTo.zero (rs : List Rc) (k : Nat) (h : k ≤ 1) : RisesTo rs k := fun i x y _ _ hi => by omega
theorem RisesTo.more {rs : List Rc} {k : Nat} (h : RisesTo rs (k + 1)) {x y : Rc} (hx : rs[k]? = some x) (hy : rs[k + 1]? = some y) (hxy : x.1 < y.1) : RisesTo rs (k + 2) := fun i x' y' hx' hy' hi => by
  by_cases e : i = k
  · subst e
    rw [hx] at hx'; rw [hy] at hy'
    obtain rfl := Option.some.inj hx'
    obtain rfl := Option.some.inj hy'
    exact hxy
  · exact h i x' y' hx' hy' (by omega)
theorem rec_at {rs : List Rc} {k : Nat} (h : k < rs.length) : ∃ r, rs[k]? = some r := ⟨_, List.getElem?_eq_getElem h⟩
theorem rises_nil : Rises [] := fun i x y hx => by simp at hx
set_option maxHeartbeats 1600000 in
set_option maxRecDepth 1000000 in
theorem rise_any {rs : List Rc} {a : Option Addr} {c : Nat} (w : World) (h : Sr w (.slice a rs.length c) rs) (hl : rs.length ≤ 9223372036854775807) :
    Calls Try.prog 30 #[.slice a rs.length c] w fun e w' => e = .returned (.bool (riseB rs)) ∧ Below w.heap.size w w' := by
  obtain ⟨n, hn⟩ : ∃ n, rs.length = n := ⟨_, rfl⟩
  have HS := Lib.hid h
  have HN := Lib.hid hn
  have hn1 : (n : Int) ≤ 9223372036854775807 := by omega
  have HB0 : Hid (Below w.heap.size w w) := Lib.hid (Below.refl _ _)
  rw [hn] at HS ⊢
  clear h hn hl
  go_enter Try.func30, Try.ntmps30
  go_wp2_with fail
  go_loopg [6] n (fun g v6 wr => ∃ k : Nat, k + g = n ∧ v6 = .int .i64 k ∧ Hid (RisesTo rs k) ∧ Hid (Below w.heap.size w wr))
  case atStart => exact ⟨0, by omega, rfl, Lib.hid (.zero _ _ (by omega)), HB0⟩
  case round =>
    clear HB0
    obtain ⟨k, hkg, rfl, HR, HB⟩ := hrel
    cases gk with
    | zero =>
      have hkz : ¬ ((k : Int) < (n : Int)) := by omega
      have HE : Hid (true = riseB rs) := Lib.hid (riseB_yes (by have := HR.out; unfold Rises; rw [HN.out]; rwa [show k = n by omega] at this))
      go_wp2
      go_ret
      exact ⟨ret_bool HE.out, HB.out⟩
    | succ g =>
      have hkz : (k : Int) < (n : Int) := by omega
      obtain ⟨y, hy⟩ := rec_at (rs := rs) (k := k) (by rw [HN.out]; omega)
      obtain ⟨gb, o, c1, e1, e2, p1, p2, p3⟩ := (HS.out.keep (.of_below HB.out)).at hy
      injection e1 with e1a e1n e1b
      subst e1a e1b
      clear e1n
      by_cases hk0 : k = 0
      · have HR1 : Hid (RisesTo rs (k + 1)) := Lib.hid (.zero _ _ (by omega))
        have hd : decide (0 < k) = false := decide_eq_false (by omega)
        have hd2 : ¬ ((0 : Int) < (k : Int)) := by omega
        have HKG := Lib.hid hkg
        clear p1 p2 p3 hy e2 hkg hk0
        go_wp2_with fail
        go_quiet (fail)
        go_wp2_with fail
        go_roundg g
        case measure => omega
        case rel => exact ⟨k + 1, by have := HKG.out; omega, rfl, HR1, Lib.hid (below_on' HB.out (below_drewN _ _))⟩
      · obtain ⟨j, hj⟩ : ∃ j, k = j + 1 := ⟨k - 1, by omega⟩
        obtain ⟨x, hx⟩ := rec_at (rs := rs) (k := j) (by rw [HN.out]; omega)
        obtain ⟨gb', o', c2, e3, e4, q1, q2, q3⟩ := (HS.out.keep (.of_below HB.out)).at hx
        injection e3 with e3a e3n e3b
        clear e3n
        injection e3a with e3a
        injection e3a with e3c e3d
        subst e3c e3d e3b
        have hkj : (k : Int) - 1 = (j : Int) := by omega
        have hd : decide (0 < k) = true := decide_eq_true (by omega)
        have hd2 : (0 : Int) < (k : Int) := by omega
        have hjn : (j : Int) < (n : Int) := by omega
        have hj0 : (0 : Int) ≤ (j : Int) := by omega
        have HJ := Lib.hid hj
        have HY := Lib.hid hy
        have HX := Lib.hid hx
        have HKG := Lib.hid hkg
        obtain ⟨y1, y2, y3⟩ := y
        obtain ⟨x1, x2, x3⟩ := x
        dsimp only at p1 q1
        clear p2 p3 q2 q3 hy hx e2 e4 hkg hj hk0
        by_cases hle : y1 ≤ x1
        · have HE : Hid (false = riseB rs) := Lib.hid (riseB_no HX.out (by have := HY.out; rwa [HJ.out] at this) hle)
          go_wp2_with fail
          go_quiet (fail)
          go_wp2_with fail
          go_ret
          exact ⟨ret_bool HE.out, below_on' HB.out (below_drewN _ _)⟩
        · have HR1 : Hid (RisesTo rs (k + 1)) := Lib.hid (by
            have h1 := HR.out
            have h2 := HY.out
            rw [HJ.out] at h1 h2 ⊢
            exact h1.more HX.out h2 (by omega))
          go_wp2_with fail
          go_quiet (fail)
          go_wp2_with fail
          go_roundg g
          case measure => omega
          case rel => exact ⟨k + 1, by have := HKG.out; omega, rfl, HR1, Lib.hid (below_on' HB.out (below_drewN _ _))⟩
end Go.Proofs.Ytknldabnkaecdaa.pip
