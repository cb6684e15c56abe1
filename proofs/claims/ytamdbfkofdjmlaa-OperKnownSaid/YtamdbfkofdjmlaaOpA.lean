/- What the comparison answers; the exchange of two runs. -/
import Derived.Test.YtamdbfkofdjmlaaOpM
import Derived.BigRegion
import Derived.BigQuiet
import Derived.Deep.LoopGhost
namespace Go.Proofs.Ytamdbfkofdjmlaa.opr
set_option linter.unusedSimpArgs false
set_option linter.unusedVariables false
open Go.RowKit
attribute [local go_sem ↓] Go.wp_at_zero Go.wp_at_succ
open Go.Proofs.Ytamdbfkofdjmlaa.tbl (Only lt_of_get)
def cmpI (a b : Int) : Int := if a < b then -1 else if b < a then 1 else 0
theorem cmpI_neg {a b : Int} : cmpI a b < 0 ↔ a < b := by unfold cmpI; split <;> (try split) <;> omega
def rcA (r : Rc) : Value := .agg #[.int .i64 r.1, .int .i64 r.2.1, .int .i64 r.2.2]
theorem nan_any (x : Int) (w : World) : Calls Try.prog 45 #[.int .i64 x] w fun e w' => e = .returned (.bool false) ∧ w = w' := by
  go_enter Try.func45, Try.ntmps45
  go_wp2
  go_ret
  exact ⟨rfl, rfl⟩
theorem compare_any (x y : Int) (w : World) : Calls Try.prog 26 #[.int .i64 x, .int .i64 y] w fun e w' => e = .returned (.int .i64 (cmpI x y)) ∧ w = w' := by
  have HN := Lib.hid (fun x w => nan_any x w)
  by_cases h1 : x < y
  · have hc : cmpI x y = -1 := by unfold cmpI; rw [if_pos h1]
    rw [hc]
    clear hc
    go_enter Try.func26, Try.ntmps26
    go_wp2_with fail
    refine (HN.out _ _).mono ?_
    rintro e w1 ⟨rfl, rfl⟩
    go_wp2_with fail
    refine (HN.out _ _).mono ?_
    rintro e w1 ⟨rfl, rfl⟩
    go_wp2
    go_ret
    exact ⟨rfl, rfl⟩
  by_cases h2 : y < x
  · have hc : cmpI x y = 1 := by unfold cmpI; rw [if_neg h1, if_pos h2]
    rw [hc]
    clear hc
    go_enter Try.func26, Try.ntmps26
    go_wp2_with fail
    refine (HN.out _ _).mono ?_
    rintro e w1 ⟨rfl, rfl⟩
    go_wp2_with fail
    refine (HN.out _ _).mono ?_
    rintro e w1 ⟨rfl, rfl⟩
    go_wp2
    go_ret
    exact ⟨rfl, rfl⟩
  · have hc : cmpI x y = 0 := by unfold cmpI; rw [if_neg h1, if_neg h2]
    rw [hc]
    clear hc
    go_enter Try.func26, Try.ntmps26
    go_wp2_with fail
    refine (HN.out _ _).mono ?_
    rintro e w1 ⟨rfl, rfl⟩
    go_wp2_with fail
    refine (HN.out _ _).mono ?_
    rintro e w1 ⟨rfl, rfl⟩
    go_wp2
    go_ret
    exact ⟨rfl, rfl⟩
theorem cmp_any (x y : Rc) (w : World) : Calls Try.prog 25 #[rcA x, rcA y] w fun e w' => e = .returned (.int .i64 (cmpI x.1 y.1)) ∧ Below w.heap.size w w' := by
  have HC := Lib.hid (fun w => compare_any x.1 y.1 w)
  have HB := Lib.hid ((grp.below_made w (.cells #[.int .i64 x.1, .int .i64 x.2.1, .int .i64 x.2.2] 32)).trans ((grp.below_made _ (.cells #[.int .i64 y.1, .int .i64 y.2.1, .int .i64 y.2.2] 32)).mono (by simp)))
  obtain ⟨x1, x2, x3⟩ := x
  obtain ⟨y1, y2, y3⟩ := y
  unfold rcA
  dsimp only at HC HB ⊢
  go_enter Try.func25, Try.ntmps25
  go_wp2_with fail
  refine (HC.out _).mono ?_
  rintro e w1 ⟨rfl, rfl⟩
  go_wp2
  go_ret
  exact ⟨rfl, HB.out⟩
abbrev cmpF : Value := .func (.func 25) #[] #[]
theorem only_drew {F : Nat → Prop} {w w' : World} (h : Only F w w') : Only F w w'.drew := ⟨h.os, h.tape, h.output, h.size, h.block⟩
theorem Blk.drew {w : World} {g o S : Nat} {l : List Rc} (h : Blk w g o S l) : Blk w.drew g o S l := by obtain ⟨cur, h1, h2⟩ := h; exact ⟨cur, h1, h2⟩
def XchRel (w : World) (g o S : Nat) (l : List Rc) (a b n : Nat) (k : Nat) (v : Value) (wr : World) : Prop :=
  ∃ i : Nat, v = .int .i64 i ∧ i + k = n ∧ Blk wr g o S (xch l a b i) ∧ Only (· = g) w wr
set_option maxHeartbeats 6400000 in
set_option maxRecDepth 1000000 in
theorem swapRange_any {w : World} {g o S : Nat} {l : List Rc} (h : Blk w g o S l) {a b n N cap : Nat} (hN : l.length = N) (hab : a + n ≤ b) (hb : b + n ≤ N) (hl : N ≤ 1000000) :
    Calls Try.prog 101 #[.slice (some ⟨g, o, none⟩) N cap, .int .i64 a, .int .i64 b, .int .i64 n, cmpF] w fun e w' => e = .returned (.tuple #[]) ∧ Blk w' g o S (xch l a b n) ∧ Only (· = g) w w' := by
  have HH := Lib.hid h
  have HLN := Lib.hid hN
  clear h hN
  go_enter Try.func101, Try.ntmps101
  go_wp2
  go_loopg [10] n (fun k v wr => Hid (XchRel w g o S l a b n k v wr))
  case atStart => exact Lib.hid ⟨0, rfl, by omega, HH.out, Only.refl _ _⟩
  case round =>
    obtain ⟨i, rfl, hik, hB, hO⟩ := hrel.out
    by_cases hlt : i < n
    case neg =>
      obtain rfl : i = n := by omega
      have HB := Lib.hid hB
      have HO := Lib.hid hO
      have hin : ¬ ((i : Int) < (i : Int)) := by omega
      clear hB hO hrel hlt
      go_wp2
      go_end0
      exact ⟨rfl, HB.out, HO.out⟩
    case pos =>
      have hin : (i : Int) < (n : Int) := by omega
      have hxl : (xch l a b i).length = N := (xch_len l a b i).trans HLN.out
      obtain ⟨X, hX⟩ : ∃ X, a + i = X := ⟨_, rfl⟩
      obtain ⟨Y, hY⟩ : ∃ Y, b + i = Y := ⟨_, rfl⟩
      have gx : (xch l a b i)[X]? = some (xch l a b i)[X] := List.getElem?_eq_getElem (by omega)
      have gy : (xch l a b i)[Y]? = some (xch l a b i)[Y] := List.getElem?_eq_getElem (by omega)
      obtain ⟨x, hx⟩ : ∃ x, (xch l a b i)[X] = x := ⟨_, rfl⟩
      obtain ⟨y, hy⟩ : ∃ x, (xch l a b i)[Y] = x := ⟨_, rfl⟩
      rw [hx] at gx
      rw [hy] at gy
      have wx : IntKind.i64.wrap ((a : Int) + (i : Int)) = (X : Int) := by rw [IntKind.wrap_i64]; omega
      have wy : IntKind.i64.wrap ((b : Int) + (i : Int)) = (Y : Int) := by rw [IntKind.wrap_i64]; omega
      have bx : (X : Int) < (N : Int) := by omega
      have by' : (Y : Int) < (N : Int) := by omega
      obtain ⟨x0, x1, x2⟩ := hB.at gx
      obtain ⟨y0, y1, y2⟩ := hB.at gy
      have fz := hB.frozen
      have HB := Lib.hid hB
      have HO := Lib.hid hO
      have HXY := Lib.hid (And.intro gx gy)
      have HIK := Lib.hid (And.intro hik hlt)
      have HXE := Lib.hid (And.intro hX hY)
      have HBD := Lib.hid (And.intro hab (And.intro hb hl))
      have hX0 : (0 : Int) ≤ (X : Int) := by omega
      have hwi : IntKind.i64.wrap ((i : Int) + 1) = ((i + 1 : Nat) : Int) := by rw [IntKind.wrap_i64]; omega
      have nXY : ¬ (X = Y) := by omega
      have nYX : ¬ (Y = X) := by omega
      have hY0 : (0 : Int) ≤ (Y : Int) := by omega
      clear hB hO hrel hxl hX hY gx gy hx hy hik hlt hab hb hl
      obtain ⟨p1, p2, p3⟩ := x
      obtain ⟨q1, q2, q3⟩ := y
      dsimp only at x0 x1 x2 y0 y1 y2
      go_wp2_with fail
      go_region
      all_goals go_wp2
      go_roundg (n - (i + 1))
      case measure => have := HIK.out; omega
      case rel =>
        obtain ⟨e1, e2⟩ := HXE.out
        obtain ⟨g1, g2⟩ := HXY.out
        obtain ⟨k1, k2⟩ := HIK.out
        refine Lib.hid ⟨i + 1, rfl, by omega, ?_, ?_⟩
        · have h1 := HB.out.swp g1 g2
          unfold xch
          rw [e1, e2]
          show Blk (World.drew (set3 (set3 wr g (o + X * 3) (q1, q2, q3)) g (o + Y * 3) (p1, p2, p3))) g o S _
          exact h1.drew
        · show Only _ w (World.drew (set3 (set3 wr g (o + X * 3) (q1, q2, q3)) g (o + Y * 3) (p1, p2, p3)))
          exact only_drew ((HO.out.then (only_set3 wr g (o + X * 3) (q1, q2, q3))).then (only_set3 _ g (o + Y * 3) (p1, p2, p3)))
end Go.Proofs.Ytamdbfkofdjmlaa.opr
