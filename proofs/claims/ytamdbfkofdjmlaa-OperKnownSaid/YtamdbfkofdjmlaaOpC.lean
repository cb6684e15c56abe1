/- The insertion sort of a range. -/
import Derived.Test.YtamdbfkofdjmlaaOpB
import Derived.Deep.RegionHeld3
namespace Go.Proofs.Ytamdbfkofdjmlaa.opr
set_option linter.unusedSimpArgs false
set_option linter.unusedVariables false
open Go.RowKit
attribute [local go_sem ↓] Go.wp_at_zero Go.wp_at_succ
open Go.Proofs.Ytamdbfkofdjmlaa.tbl (Only lt_of_get)
/-- The comparison, at whatever world behind this one. -/
theorem cmp_at (x y : Rc) (w : World) : ∀ w', Below w.heap.size w w' → Calls Try.prog 25 #[rcA x, rcA y] w' fun e w'' => e = .returned (.int .i64 (cmpI x.1 y.1)) ∧ Below w.heap.size w w'' :=
  fun w' hw => (cmp_any x y w').mono fun e w'' h => ⟨h.1, hw.trans (h.2.mono hw.size)⟩
structure InsRel (w : World) (g o S : Nat) (l : List Rc) (a b i : Nat) (c : List Rc) (wr : World) : Prop where
  seg : Seg a b l c
  up : UpR a i c
  blk : Blk wr g o S c
  only : Only (· = g) w wr
structure InnRel (w : World) (g o S : Nat) (l : List Rc) (a b i j : Nat) (c : List Rc) (wr : World) : Prop where
  seg : Seg a b l c
  ins : InsI a i j c
  blk : Blk wr g o S c
  only : Only (· = g) w wr
theorem InnRel.go {w wr w' : World} {g o S : Nat} {l c : List Rc} {a b i j : Nat} (h : InnRel w g o S l a b i (j + 1) c wr) (haj : a ≤ j) (hji : j + 1 ≤ i) (hib : i < b) (hb : b ≤ l.length) {x y : Rc} (hx : c[j]? = some x) (hy : c[j + 1]? = some y) (hlt : y.1 < x.1)
    (hB : Blk w' g o S (swp c (j + 1) j)) (hO : Only (· = g) wr w') : InnRel w g o S l a b i j (swp c (j + 1) j) w' := by
  have hl := h.seg.len
  have hs : ∀ u v, c[j]? = some u → c[j + 1]? = some v → v.1 < u.1 := fun u v hu hv => by
    rw [hx] at hu; rw [hy] at hv
    injection hu with hu; injection hv with hv
    rw [← hu, ← hv]; exact hlt
  refine ⟨h.seg.trans ?_, h.ins.step haj hji (by omega) hs, hB, h.only.then hO⟩
  rw [swp_comm (by omega) (by omega)]
  exact (swp_seg (by omega) hs).mono haj (by omega)
theorem InnRel.out {w wr w' : World} {g o S : Nat} {l c : List Rc} {a b i j : Nat} (h : InnRel w g o S l a b i j c wr) (hji : j ≤ i) (hib : i < b) (hb : b ≤ l.length) (hj : j = a ∨ a < j ∧ ∀ x y, c[j - 1]? = some x → c[j]? = some y → x.1 ≤ y.1)
    (hO : Below wr.heap.size wr w') : InsRel w g o S l a b (i + 1) c w' :=
  ⟨h.seg, h.ins.done hj (by have := h.seg.len; omega) hji, h.blk.below hO, h.only.on hO⟩
set_option maxHeartbeats 6400000 in
set_option maxRecDepth 1000000 in
theorem insertion_any {w : World} {g o S : Nat} {l : List Rc} (h : Blk w g o S l) {a b N cap : Nat} (hN : l.length = N) (h1 : a ≤ b) (h3 : b ≤ N) (hl : N ≤ 1000000) :
    Calls Try.prog 64 #[.slice (some ⟨g, o, none⟩) N cap, .int .i64 a, .int .i64 b, cmpF] w fun e w' => e = .returned (.tuple #[]) ∧ ∃ r, Seg a b l r ∧ UpR a b r ∧ Blk w' g o S r ∧ Only (· = g) w w' := by
  have H0 : Hid (InsRel w g o S l a b (a + 1) l w) := Lib.hid ⟨Seg.refl _ _ _, UpR.one _ _, h, Only.refl _ _⟩
  have HLN := Lib.hid hN
  have h1' : (a : Int) ≤ (b : Int) := by omega
  have h3' : (b : Int) ≤ (N : Int) := by omega
  have hl' : (N : Int) ≤ 1000000 := by omega
  clear h hN h1 h3 hl
  go_enter Try.func64, Try.ntmps64
  go_wp2
  go_loopg [8] (b - a) (fun k v wr => ∃ i c, v = .int .i64 (i : Nat) ∧ a + 1 ≤ i ∧ i ≤ b + 1 ∧ b + 1 - i ≤ k + 1 ∧ Hid (InsRel w g o S l a b i c wr))
  case atStart => exact ⟨a + 1, l, by go_num, by omega, by omega, by omega, H0⟩
  case round =>
    obtain ⟨i, c, rfl, hai, hib, hk, HR⟩ := hrel
    by_cases hlt : i < b
    case neg =>
      have hlt' : ¬ ((i : Int) < (b : Int)) := by omega
      have HF := Lib.hid (show ∃ r, Seg a b l r ∧ UpR a b r ∧ Blk wr g o S r ∧ Only (· = g) w wr from ⟨c, HR.out.seg, HR.out.up.mono (Nat.le_refl _) (by omega), HR.out.blk, HR.out.only⟩)
      clear hlt
      go_wp2
      go_end0
      exact ⟨rfl, HF.out⟩
    case pos =>
      have hlt' : (i : Int) < (b : Int) := by omega
      have HI : Hid (InnRel w g o S l a b i i c wr) := Lib.hid ⟨HR.out.seg, InsI.start HR.out.up, HR.out.blk, HR.out.only⟩
      clear HR
      go_wp2
      go_loopg [9] i (fun k2 v wr2 => ∃ j c, v = .int .i64 (j : Nat) ∧ a ≤ j ∧ j ≤ i ∧ j ≤ k2 ∧ Hid (InnRel w g o S l a b i j c wr2))
      case atStart => exact ⟨i, c, rfl, by omega, by omega, by omega, HI⟩
      case round =>
        clear HI
        obtain ⟨j, c, rfl, haj, hji, hk2, HJ⟩ := hrel
        have HLC : Hid (c.length = N) := Lib.hid (HJ.out.seg.len.trans HLN.out)
        have HBN : Hid (b ≤ l.length) := Lib.hid (by rw [HLN.out]; omega)
        have hiN : (i : Int) < (N : Int) := by omega
        have wi1 : IntKind.i64.wrap ((i : Int) + 1) = ((i + 1 : Nat) : Int) := by rw [IntKind.wrap_i64]; omega
        have HNUM := Lib.hid (And.intro hai (And.intro hib (And.intro hk (And.intro hlt (And.intro haj (And.intro hji hk2))))))
        by_cases hja : j = a
        · subst hja
          have HO := Lib.hid (fun w' => HJ.out.out (w' := w') hji hlt HBN.out (.inl rfl))
          have hgt : ¬ ((j : Int) < (j : Int)) := by omega
          have hdec : decide ((j : Int) > (j : Int)) = false := decide_eq_false (by omega)
          have HRF := Lib.hid (HO.out wr.drew (Below.refl _ wr).drew)
          clear hlt hji hk2 haj hk hib
          go_wp2_with fail
          go_region
          all_goals go_wp2
          go_roundg (b - (i + 1))
          case measure => obtain ⟨_, _, _, _, _, _, _⟩ := HNUM.out; omega
          case rel => exact ⟨i + 1, c, rfl, by have := HNUM.out; omega, by have := HNUM.out; omega, by have := HNUM.out; omega, HRF⟩
        · obtain ⟨p, hp⟩ : ∃ p, j = p + 1 := ⟨j - 1, by omega⟩
          have hlen : c.length = N := HLC.out
          have gx : c[j]? = some c[j] := List.getElem?_eq_getElem (by omega)
          have gp : c[p]? = some c[p] := List.getElem?_eq_getElem (by omega)
          obtain ⟨x, hx⟩ : ∃ x, c[j] = x := ⟨_, rfl⟩
          obtain ⟨y, hy⟩ : ∃ x, c[p] = x := ⟨_, rfl⟩
          rw [hx] at gx
          rw [hy] at gp
          have hgt : (a : Int) < (j : Int) := by omega
          have wp : IntKind.i64.wrap ((j : Int) - 1) = (p : Int) := by rw [IntKind.wrap_i64]; omega
          have wp' : (j : Int) - 1 = (p : Int) := by omega
          have wpp : IntKind.i64.wrap (p : Int) = (p : Int) := by rw [IntKind.wrap_i64]; omega
          have bj : (j : Int) < (N : Int) := by omega
          have bp : (p : Int) < (N : Int) := by omega
          have p0 : (0 : Int) ≤ (p : Int) := by omega
          have j0 : (0 : Int) ≤ (j : Int) := by omega
          have HCAT : Hid (∀ w', Below wr.heap.size wr w' → w'.cell? ⟨g, o + j * 3, none⟩ = some (.int .i64 x.1) ∧ w'.cell? ⟨g, o + j * 3 + 1, none⟩ = some (.int .i64 x.2.1) ∧ w'.cell? ⟨g, o + j * 3 + 2, none⟩ = some (.int .i64 x.2.2) ∧
              w'.cell? ⟨g, o + p * 3, none⟩ = some (.int .i64 y.1) ∧ w'.cell? ⟨g, o + p * 3 + 1, none⟩ = some (.int .i64 y.2.1) ∧ w'.cell? ⟨g, o + p * 3 + 2, none⟩ = some (.int .i64 y.2.2)) := Lib.hid fun w' hw => by
            obtain ⟨e1, e2, e3⟩ := (HJ.out.blk.below hw).at gx
            obtain ⟨e4, e5, e6⟩ := (HJ.out.blk.below hw).at gp
            exact ⟨e1, e2, e3, e4, e5, e6⟩
          have HCMP := Lib.hid (cmp_at x y wr)
          have HR : Hid (Below wr.heap.size wr wr) := Lib.hid (Below.refl _ _)
          have HXP := Lib.hid (And.intro gx gp)
          have HPJ := Lib.hid hp
          have HJA := Lib.hid hja
          clear hlen gx gp hx hy hp hja hlt hji hk2 haj hk hib
          by_cases hxy : x.1 < y.1
          · have hci : cmpI x.1 y.1 < 0 := cmpI_neg.2 hxy
            obtain ⟨q, hq⟩ : ∃ q, cmpI x.1 y.1 = q := ⟨_, rfl⟩
            rw [hq] at hci
            rw [hq] at HCMP
            have HXY := Lib.hid hxy
            clear hq hxy
            obtain ⟨x1, x2, x3⟩ := x
            obtain ⟨y1, y2, y3⟩ := y
            unfold rcA at HCMP
            dsimp only at HCAT HCMP
            go_wp2_with fail
            go_region_held3 (fun w' => w'.cell? ⟨g, o + j * 3, none⟩ = some (.int .i64 x1) ∧ w'.cell? ⟨g, o + j * 3 + 1, none⟩ = some (.int .i64 x2) ∧ w'.cell? ⟨g, o + j * 3 + 2, none⟩ = some (.int .i64 x3) ∧
              w'.cell? ⟨g, o + p * 3, none⟩ = some (.int .i64 y1) ∧ w'.cell? ⟨g, o + p * 3 + 1, none⟩ = some (.int .i64 y2) ∧ w'.cell? ⟨g, o + p * 3 + 2, none⟩ = some (.int .i64 y3)) (first | exact HCAT.out _ HR.out.drew | exact HCAT.out _ hb3) (first
              | (go_at_call 25; with_reducible refine (HCMP.out _ ?_).mono ?_; exact HR.out.drew; rintro e w3 ⟨rfl, hb3⟩))
            obtain ⟨x0, x1', x2', y0, y1', y2'⟩ := HCAT.out _ hb3
            have hB3 := HJ.out.blk.below hb3
            have fz := hB3.frozen
            have nXY : ¬ (j = p) := by have := HPJ.out; omega
            have nYX : ¬ (p = j) := by have := HPJ.out; omega
            have HB3 := Lib.hid hB3
            have HW3 := Lib.hid hb3
            clear hB3 hb3
            go_wp2_with fail
            go_region
            all_goals go_wp2
            go_roundg p
            case measure => have := HPJ.out; have := HNUM.out; omega
            case rel =>
              have hp := HPJ.out
              have hn := HNUM.out
              have hh := HJ.out
              have hb3 := HB3.out
              have hw3 := HW3.out
              obtain ⟨g1, g2⟩ := HXP.out
              have hja := HJA.out
              have hbn := HBN.out
              clear HCMP HCAT
              subst hp
              refine ⟨p, _, rfl, by omega, by omega, by omega, Lib.hid (hh.go (by omega) (by omega) (by omega) hbn g2 g1 HXY.out ?_ ?_)⟩
              · have h1 := hb3.swp g1 g2
                show Blk (World.drew (set3 (set3 w3 g (o + (p + 1) * 3) (y1, y2, y3)) g (o + p * 3) (x1, x2, x3))) g o S _
                exact h1.drew
              · show Only _ wr (World.drew (set3 (set3 w3 g (o + (p + 1) * 3) (y1, y2, y3)) g (o + p * 3) (x1, x2, x3)))
                exact only_drew ((((Only.of_below hw3)).then (only_set3 w3 g _ (y1, y2, y3))).then (only_set3 _ g _ (x1, x2, x3)))
          · have hci : ¬ (cmpI x.1 y.1 < 0) := fun h => hxy (cmpI_neg.1 h)
            obtain ⟨q, hq⟩ : ∃ q, cmpI x.1 y.1 = q := ⟨_, rfl⟩
            rw [hq] at hci
            rw [hq] at HCMP
            have hci' : (0 : Int) ≤ q := by omega
            have HXY := Lib.hid hxy
            clear hq hxy
            obtain ⟨x1, x2, x3⟩ := x
            obtain ⟨y1, y2, y3⟩ := y
            unfold rcA at HCMP
            dsimp only at HCAT HCMP
            go_wp2_with fail
            go_region_held3 (fun w' => w'.cell? ⟨g, o + j * 3, none⟩ = some (.int .i64 x1) ∧ w'.cell? ⟨g, o + j * 3 + 1, none⟩ = some (.int .i64 x2) ∧ w'.cell? ⟨g, o + j * 3 + 2, none⟩ = some (.int .i64 x3) ∧
              w'.cell? ⟨g, o + p * 3, none⟩ = some (.int .i64 y1) ∧ w'.cell? ⟨g, o + p * 3 + 1, none⟩ = some (.int .i64 y2) ∧ w'.cell? ⟨g, o + p * 3 + 2, none⟩ = some (.int .i64 y3)) (first | exact HCAT.out _ HR.out.drew | exact HCAT.out _ hb3) (first
              | (go_at_call 25; with_reducible refine (HCMP.out _ ?_).mono ?_; exact HR.out.drew; rintro e w3 ⟨rfl, hb3⟩))
            have HRF : Hid (InsRel w g o S l a b (i + 1) c w3) := Lib.hid (by
              obtain ⟨g1, g2⟩ := HXP.out
              have hn := HNUM.out
              refine HJ.out.out (w' := w3) (by omega) (by omega) HBN.out (.inr ⟨by have := HJA.out; omega, fun u v hu hv => ?_⟩) hb3
              rw [show j - 1 = p by have := HPJ.out; omega, g2] at hu
              rw [g1] at hv
              injection hu with hu; injection hv with hv
              rw [← hu, ← hv]
              have := HXY.out
              dsimp only at this ⊢
              omega)
            clear hb3
            go_wp2
            go_roundg (b - (i + 1))
            case measure => have := HNUM.out; omega
            case rel => exact ⟨i + 1, c, rfl, by have := HNUM.out; omega, by have := HNUM.out; omega, by have := HNUM.out; omega, HRF⟩
end Go.Proofs.Ytamdbfkofdjmlaa.opr
