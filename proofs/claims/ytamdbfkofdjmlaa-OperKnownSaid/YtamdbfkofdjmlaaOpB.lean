/- Two runs, one behind the other, are exchanged. -/
import Derived.Test.YtamdbfkofdjmlaaOpA
namespace Go.Proofs.Ytamdbfkofdjmlaa.opr
set_option linter.unusedSimpArgs false
set_option linter.unusedVariables false
open Go.RowKit
attribute [local go_sem ↓] Go.wp_at_zero Go.wp_at_succ
open Go.Proofs.Ytamdbfkofdjmlaa.tbl (Only lt_of_get)
structure RotRel (w : World) (g o S : Nat) (l : List Rc) (a m b : Nat) (i j A : Nat) (c : List Rc) (wr : World) : Prop where
  i0 : 0 < i
  j0 : 0 < j
  hA : A + i = m
  hj : m + j ≤ b
  len : c.length = l.length
  blk : Blk wr g o S c
  only : Only (· = g) w wr
  rot : ∀ r, Rot A m (m + j) c r → Rot a m b l r
theorem RotRel.big {w wr w' : World} {g o S : Nat} {l c : List Rc} {a m b i j A : Nat} (h : RotRel w g o S l a m b i j A c wr) (hij : j < i) (hb : b ≤ l.length) (hB : Blk w' g o S (xch c A m j)) (hO : Only (· = g) wr w') : RotRel w g o S l a m b (i - j) j (A + j) (xch c A m j) w' := by
  have := h.hA; have := h.hj; have := h.len
  refine ⟨by omega, h.j0, by omega, h.hj, (xch_len _ _ _ _).trans h.len, hB, h.only.then hO, fun r hr => h.rot r ?_⟩
  have e : A = m - i := by omega
  have e2 : A + j = m - (i - j) := by omega
  rw [e2, e] at hr
  rw [e]
  exact rot_big hij (by omega) (by omega) hr
theorem RotRel.less {w wr w' : World} {g o S : Nat} {l c : List Rc} {a m b i j A : Nat} (h : RotRel w g o S l a m b i j A c wr) (hij : i < j) (hb : b ≤ l.length) (hB : Blk w' g o S (xch c A (m + j - i) i)) (hO : Only (· = g) wr w') : RotRel w g o S l a m b i (j - i) A (xch c A (m + j - i) i) w' := by
  have := h.hA; have := h.hj; have := h.len
  refine ⟨h.i0, by omega, h.hA, by omega, (xch_len _ _ _ _).trans h.len, hB, h.only.then hO, fun r hr => h.rot r ?_⟩
  have e : A = m - i := by omega
  rw [e] at hr ⊢
  exact rot_less hij (by omega) (by omega) hr
theorem RotRel.even {w wr w' : World} {g o S : Nat} {l c : List Rc} {a m b i A : Nat} (h : RotRel w g o S l a m b i i A c wr) (hb : b ≤ l.length) (hB : Blk w' g o S (xch c A m i)) (hO : Only (· = g) wr w') : ∃ r, Rot a m b l r ∧ Blk w' g o S r ∧ Only (· = g) w w' := by
  have := h.hA; have := h.hj; have := h.len
  refine ⟨_, h.rot _ ?_, hB, h.only.then hO⟩
  have e : A = m - i := by omega
  rw [e]
  exact rot_even (by omega) (by omega)
set_option maxHeartbeats 6400000 in
set_option maxRecDepth 1000000 in
theorem rotate_any {w : World} {g o S : Nat} {l : List Rc} (h : Blk w g o S l) {a m b N cap : Nat} (hN : l.length = N) (h1 : a < m) (h2 : m < b) (h3 : b ≤ N) (hl : N ≤ 1000000) :
    Calls Try.prog 76 #[.slice (some ⟨g, o, none⟩) N cap, .int .i64 a, .int .i64 m, .int .i64 b, cmpF] w fun e w' => e = .returned (.tuple #[]) ∧ ∃ r, Rot a m b l r ∧ Blk w' g o S r ∧ Only (· = g) w w' := by
  obtain ⟨i0, hi0⟩ : ∃ i, m = a + i := ⟨m - a, by omega⟩
  obtain ⟨j0, hj0⟩ : ∃ j, b = m + j := ⟨b - m, by omega⟩
  have e1 : IntKind.i64.wrap ((m : Int) - (a : Int)) = (i0 : Int) := by rw [IntKind.wrap_i64]; omega
  have e2 : IntKind.i64.wrap ((b : Int) - (m : Int)) = (j0 : Int) := by rw [IntKind.wrap_i64]; omega
  have H0 : Hid (RotRel w g o S l a m b i0 j0 a l w) := Lib.hid ⟨by omega, by omega, by omega, by omega, rfl, h, Only.refl _ _, fun r hr => by rw [← hj0] at hr; exact hr⟩
  have HBN : Hid (b ≤ N ∧ N ≤ 1000000) := Lib.hid ⟨h3, hl⟩
  have HLN := Lib.hid hN
  clear h hN h1 h2 hi0 hj0
  go_enter Try.func76, Try.ntmps76
  go_wp2
  go_loopg [10, 11] (i0 + j0) (fun k v10 v11 wr => ∃ i j A c, v10 = .int .i64 (i : Nat) ∧ v11 = .int .i64 (j : Nat) ∧ i + j ≤ k ∧ Hid (RotRel w g o S l a m b i j A c wr))
  case atStart => exact ⟨i0, j0, a, l, rfl, rfl, Nat.le_refl _, H0⟩
  case round =>
    obtain ⟨i, j, A, c, rfl, rfl, hk, HR⟩ := hrel
    have HLC : Hid (c.length = N) := Lib.hid (HR.out.len.trans HLN.out)
    have hA := HR.out.hA
    have hjb := HR.out.hj
    have hi0 := HR.out.i0
    have hj0 := HR.out.j0
    have hbN := HBN.out.1
    have hN1 := HBN.out.2
    have bA : (A : Int) ≤ 1000000 := by omega
    have wA' : (m : Int) - (i : Int) = (A : Int) := by omega
    have HARI := Lib.hid (And.intro hA (And.intro hjb (And.intro hi0 (And.intro hj0 (And.intro hbN (And.intro hN1 hk))))))
    by_cases hij : i = j
    · subst hij
      have HE := Lib.hid (fun w' => HR.out.even (w' := w') (by rw [HLN.out]; exact hbN))
      have HSW := Lib.hid (swapRange_any (a := A) (b := m) (n := i) (cap := cap) HR.out.blk HLC.out (by omega) (by omega) hN1)
      clear hA hjb hi0 hj0 hbN hN1 hk
      go_wp2_with fail
      (with_reducible refine HSW.out.mono ?_)
      rintro e w1 ⟨rfl, hB1, hO1⟩
      have HE1 := Lib.hid (HE.out w1 hB1 hO1)
      clear hB1 hO1
      go_wp2
      go_end0
      exact ⟨rfl, HE1.out⟩
    · have hne : ¬ ((i : Int) = (j : Int)) := by omega
      by_cases hlt : j < i
      · have hlt' : (j : Int) < (i : Int) := by omega
        have bI : ((i - j : Nat) : Int) ≤ 1000000 := by omega
        have wI' : (i : Int) - (j : Int) = ((i - j : Nat) : Int) := by omega
        have HE := Lib.hid (fun w' => HR.out.big (w' := w') hlt (by rw [HLN.out]; exact hbN))
        have HSW := Lib.hid (swapRange_any (a := A) (b := m) (n := j) (cap := cap) HR.out.blk HLC.out (by omega) (by omega) hN1)
        clear hA hjb hi0 hj0 hbN hN1 hk hij hlt
        go_wp2_with fail
        (with_reducible refine HSW.out.mono ?_)
        rintro e w1 ⟨rfl, hB1, hO1⟩
        have HE1 := Lib.hid (HE.out w1 hB1 hO1)
        clear hB1 hO1
        go_wp2
        go_roundg (i - j + j)
        case measure => obtain ⟨_, _, _, _, _, _, _⟩ := HARI.out; omega
        case rel => exact ⟨i - j, j, A + j, _, rfl, rfl, Nat.le_refl _, HE1⟩
      · have hlt' : ¬ ((j : Int) < (i : Int)) := by omega
        have hlt2 : i < j := by omega
        have bJ : ((j - i : Nat) : Int) ≤ 1000000 := by omega
        have wJ' : (j : Int) - (i : Int) = ((j - i : Nat) : Int) := by omega
        have bM : ((m + j - i : Nat) : Int) ≤ 1000000 := by omega
        have bMJ : (m : Int) + (j : Int) ≤ 1000000 := by omega
        have bMJ0 : (0 : Int) ≤ (m : Int) + (j : Int) := by omega
        have wM' : (m : Int) + (j : Int) - (i : Int) = ((m + j - i : Nat) : Int) := by omega
        have HE := Lib.hid (fun w' => HR.out.less (w' := w') hlt2 (by rw [HLN.out]; exact hbN))
        have HSW := Lib.hid (swapRange_any (a := A) (b := m + j - i) (n := i) (cap := cap) HR.out.blk HLC.out (by omega) (by omega) hN1)
        clear hA hjb hi0 hj0 hbN hN1 hk hij hlt hlt2
        go_wp2_with fail
        (with_reducible refine HSW.out.mono ?_)
        rintro e w1 ⟨rfl, hB1, hO1⟩
        have HE1 := Lib.hid (HE.out w1 hB1 hO1)
        clear hB1 hO1
        go_wp2
        go_roundg (i + (j - i))
        case measure => obtain ⟨_, _, _, _, _, _, _⟩ := HARI.out; omega
        case rel => exact ⟨i, j - i, A, _, rfl, rfl, Nat.le_refl _, HE1⟩
end Go.Proofs.Ytamdbfkofdjmlaa.opr
