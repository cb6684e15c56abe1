/- The merge of two runs where the first one is a single record (one theorem). -/
import Derived.Test.YtamdbfkofdjmlaaOpC
import Derived.Test.YtamdbfkofdjmlaaOpD
import Derived.Deep.DeepCutAuto
namespace Go.Proofs.Ytamdbfkofdjmlaa.opr
set_option linter.unusedSimpArgs false
set_option linter.unusedVariables false
open Go.RowKit
attribute [local go_sem ↓] Go.wp_at_zero Go.wp_at_succ
open Go.Proofs.Ytamdbfkofdjmlaa.tbl (Only lt_of_get)
theorem rec_at {l : List Rc} {k : Nat} (h : k < l.length) : ∃ x, l[k]? = some x := ⟨_, List.getElem?_eq_getElem h⟩
def Less (l : List Rc) (a c : Nat) : Prop := ∀ x y, l[a]? = some x → l[c]? = some y → y.1 < x.1
theorem not_less {l : List Rc} {a c : Nat} (h : ¬ Less l a c) {x y : Rc} (hx : l[a]? = some x) (hy : l[c]? = some y) : x.1 ≤ y.1 := by
  apply Int.not_lt.1
  intro hlt
  refine h fun u v hu hv => ?_
  rw [hx] at hu; rw [hy] at hv
  injection hu with hu; injection hv with hv
  rw [← hu, ← hv]; exact hlt
theorem is_less {l : List Rc} {a c : Nat} {x y : Rc} (hx : l[a]? = some x) (hy : l[c]? = some y) (h : y.1 < x.1) : Less l a c := fun u v hu hv => by
  rw [hx] at hu; rw [hy] at hv
  injection hu with hu; injection hv with hv
  rw [← hu, ← hv]; exact h
set_option maxHeartbeats 6400000 in
set_option maxRecDepth 1000000 in
theorem sym_up {w : World} {g o S : Nat} {l : List Rc} (h : Blk w g o S l) {a m b N cap : Nat} (hN : l.length = N) (h1 : a + 1 = m) (h2 : m < b) (h3 : b ≤ N) (hl : N ≤ 1000000) (hu : UpR m b l) :
    Calls Try.prog 65 #[.slice (some ⟨g, o, none⟩) N cap, .int .i64 a, .int .i64 m, .int .i64 b, cmpF] w fun e w' => e = .returned (.tuple #[]) ∧ ∃ r, Seg a b l r ∧ UpR a b r ∧ Blk w' g o S r ∧ Only (· = g) w w' := by
  have HLN := Lib.hid hN
  have HUP := Lib.hid hu
  have HBL := Lib.hid h
  have HM1 := Lib.hid h1
  have ha0 : (0 : Int) ≤ (a : Int) := by omega
  have haN : (a : Int) < (N : Int) := by omega
  have hm1 : (m : Int) - (a : Int) = 1 := by omega
  have h2' : (m : Int) < (b : Int) := by omega
  have h3' : (b : Int) ≤ (N : Int) := by omega
  have hl' : (N : Int) ≤ 1000000 := by omega
  have HF0 : Hid (Fnd m b m b (Less l a)) := Lib.hid (Fnd.start (by omega) _)
  have HO0 : Hid (Blk w g o S l ∧ Only (· = g) w w) := Lib.hid ⟨h, Only.refl _ _⟩
  obtain ⟨y, gy⟩ := rec_at (l := l) (k := a) (by omega)
  have HGX := Lib.hid gy
  have HN2 := Lib.hid (And.intro h1 (And.intro h2 (And.intro h3 hl)))
  clear h hN hu h1 h2 h3 hl gy
  go_enter Try.func65, Try.ntmps65
  go_wp2
  go_loopg [10, 11] (b - m) (fun k v10 v11 wr => ∃ i j, v10 = .int .i64 (i : Nat) ∧ v11 = .int .i64 (j : Nat) ∧ j - i ≤ k ∧ Hid (Fnd m b i j (Less l a)) ∧ Hid (Blk wr g o S l ∧ Only (· = g) w wr))
  case atStart => exact ⟨m, b, rfl, rfl, Nat.le_refl _, HF0, HO0⟩
  case round =>
    obtain ⟨i, j, rfl, rfl, hk, HF, HBO⟩ := hrel
    by_cases hlt : i < j
    · have hlt' : (i : Int) < (j : Int) := by omega
      have hi0 := HF.out.h1
      have hj0 := HF.out.h3
      have bi : (i : Int) ≤ 1000000 := by omega
      have bj : (j : Int) ≤ 1000000 := by omega
      obtain ⟨c, hc⟩ : ∃ c, (i + j) / 2 = c := ⟨_, rfl⟩
      have hcI : ((i : Int) + (j : Int)) / 2 = (c : Int) := by omega
      have hc0 : (0 : Int) ≤ (c : Int) := by omega
      have hci1 : i ≤ c := by omega
      have hci2 : c < j := by omega
      have hcN : (c : Int) < (N : Int) := by omega
      have wc1 : IntKind.i64.wrap ((c : Int) + 1) = ((c + 1 : Nat) : Int) := by rw [IntKind.wrap_i64]; omega
      obtain ⟨x, gx⟩ := rec_at (l := l) (k := c) (by have := HLN.out; omega)
      have gy := HGX.out
      have HIJ := Lib.hid (And.intro hci1 (And.intro hci2 hk))
      have HCAT : Hid (∀ w', Below wr.heap.size wr w' → w'.cell? ⟨g, o + c * 3, none⟩ = some (.int .i64 x.1) ∧ w'.cell? ⟨g, o + c * 3 + 1, none⟩ = some (.int .i64 x.2.1) ∧ w'.cell? ⟨g, o + c * 3 + 2, none⟩ = some (.int .i64 x.2.2) ∧ w'.cell? ⟨g, o + a * 3, none⟩ = some (.int .i64 y.1) ∧ w'.cell? ⟨g, o + a * 3 + 1, none⟩ = some (.int .i64 y.2.1) ∧ w'.cell? ⟨g, o + a * 3 + 2, none⟩ = some (.int .i64 y.2.2)) := Lib.hid fun w' hw => by
        obtain ⟨e1, e2, e3⟩ := (HBO.out.1.below hw).at gx
        obtain ⟨e4, e5, e6⟩ := (HBO.out.1.below hw).at gy
        exact ⟨e1, e2, e3, e4, e5, e6⟩
      have HCMP := Lib.hid (cmp_at x y wr)
      have HR : Hid (Below wr.heap.size wr wr) := Lib.hid (Below.refl _ _)
      have HST : Hid (∀ w', Below wr.heap.size wr w' → Blk w' g o S l ∧ Only (· = g) w w') := Lib.hid fun w' hw => ⟨HBO.out.1.below hw, HBO.out.2.on hw⟩
      have HXY := Lib.hid (And.intro gx gy)
      clear gx gy hc hci1 hci2 hk hi0 hj0
      by_cases hxy : x.1 < y.1
      · have hci : cmpI x.1 y.1 < 0 := cmpI_neg.2 hxy
        obtain ⟨q, hq⟩ : ∃ q, cmpI x.1 y.1 = q := ⟨_, rfl⟩
        rw [hq] at hci
        rw [hq] at HCMP

        have HLT := Lib.hid hxy
        clear hq hxy
        obtain ⟨x1, x2, x3⟩ := x
        obtain ⟨y1, y2, y3⟩ := y
        unfold rcA at HCMP
        dsimp only at HCAT HCMP HLT
        go_wp2_with fail
        go_region_held3 (fun w' => w'.cell? ⟨g, o + c * 3, none⟩ = some (.int .i64 x1) ∧ w'.cell? ⟨g, o + c * 3 + 1, none⟩ = some (.int .i64 x2) ∧ w'.cell? ⟨g, o + c * 3 + 2, none⟩ = some (.int .i64 x3) ∧ w'.cell? ⟨g, o + a * 3, none⟩ = some (.int .i64 y1) ∧ w'.cell? ⟨g, o + a * 3 + 1, none⟩ = some (.int .i64 y2) ∧ w'.cell? ⟨g, o + a * 3 + 2, none⟩ = some (.int .i64 y3)) (first | exact HCAT.out _ HR.out.drew | exact HCAT.out _ hb3) (first
          | (go_at_call 25; with_reducible refine (HCMP.out _ ?_).mono ?_; exact HR.out.drew; rintro e w3 ⟨rfl, hb3⟩))
        have HB3 := Lib.hid (HST.out w3 hb3)
        clear hb3
        have HF1 : Hid (Fnd m b (c + 1) j (Less l a)) := Lib.hid (HF.out.up HIJ.out.1 HIJ.out.2.1 (is_less HXY.out.2 HXY.out.1 HLT.out))
        go_wp2
        go_roundg (j - (c + 1))
        case measure => have := HIJ.out; omega
        case rel => exact ⟨c + 1, j, rfl, rfl, by omega, HF1, HB3⟩
      · have hci : ¬ (cmpI x.1 y.1 < 0) := fun h => hxy (cmpI_neg.1 h)
        obtain ⟨q, hq⟩ : ∃ q, cmpI x.1 y.1 = q := ⟨_, rfl⟩
        rw [hq] at hci
        rw [hq] at HCMP
        have hci2 : (0 : Int) ≤ q := by omega
        have HLT := Lib.hid hxy
        clear hq hxy
        obtain ⟨x1, x2, x3⟩ := x
        obtain ⟨y1, y2, y3⟩ := y
        unfold rcA at HCMP
        dsimp only at HCAT HCMP HLT
        go_wp2_with fail
        go_region_held3 (fun w' => w'.cell? ⟨g, o + c * 3, none⟩ = some (.int .i64 x1) ∧ w'.cell? ⟨g, o + c * 3 + 1, none⟩ = some (.int .i64 x2) ∧ w'.cell? ⟨g, o + c * 3 + 2, none⟩ = some (.int .i64 x3) ∧ w'.cell? ⟨g, o + a * 3, none⟩ = some (.int .i64 y1) ∧ w'.cell? ⟨g, o + a * 3 + 1, none⟩ = some (.int .i64 y2) ∧ w'.cell? ⟨g, o + a * 3 + 2, none⟩ = some (.int .i64 y3)) (first | exact HCAT.out _ HR.out.drew | exact HCAT.out _ hb3) (first
          | (go_at_call 25; with_reducible refine (HCMP.out _ ?_).mono ?_; exact HR.out.drew; rintro e w3 ⟨rfl, hb3⟩))
        have HB3 := Lib.hid (HST.out w3 hb3)
        clear hb3
        have HF1 : Hid (Fnd m b i c (Less l a)) := Lib.hid (HF.out.down HIJ.out.1 HIJ.out.2.1 (fun hl => by
          have h1 := hl _ _ HXY.out.2 HXY.out.1
          have h2 := HLT.out
          dsimp only at h1 h2
          omega))
        go_wp2
        go_roundg (c - i)
        case measure => have := HIJ.out; omega
        case rel => exact ⟨i, c, rfl, rfl, by omega, HF1, HB3⟩
    · have hij : i = j := by have := HF.out.h2; omega
      subst hij
      have hi0 := HF.out.h1
      have hj0 := HF.out.h3
      have hnl : ¬ ((i : Int) < (i : Int)) := by omega
      have bi : (i : Int) ≤ 1000000 := by omega
      have bi0 : (1 : Int) ≤ (i : Int) := by have := HM1.out; omega
      have HFIN : Hid (∀ r, Rot a (a + 1) i l r → Seg a b l r ∧ UpR a b r) := Lib.hid fun r hr => one_up (by rw [HM1.out]; exact HUP.out) (by have := HM1.out; omega) hj0 (by rw [HLN.out]; omega)
        (fun u v h1 hu hv => HF.out.low (by have := HM1.out; omega) u v hu hv) (fun u v h1 hu hv => not_less (HF.out.high h1) hu hv) hr
      have HK0 : Hid (∃ k c, k = a ∧ (k + 1 ≤ i) ∧ Rot a (a + 1) (k + 1) l c ∧ Blk wr g o S c ∧ Only (· = g) w wr) := Lib.hid ⟨a, l, rfl, by have := HM1.out; omega, Rot.id _ _ _ (by omega), HBO.out.1, HBO.out.2⟩
      clear hlt HF
      go_wp2
      go_loopg [13] (i - 1 - a) (fun k v13 wr => ∃ K c, v13 = .int .i64 (K : Nat) ∧ a ≤ K ∧ K + 1 ≤ i ∧ i - 1 - K ≤ k ∧ Hid (Rot a (a + 1) (K + 1) l c) ∧ Hid (Blk wr g o S c ∧ Only (· = g) w wr))
      case atStart =>
        obtain ⟨k, c, rfl, e1, e2, e3⟩ := HK0.out
        exact ⟨k, c, rfl, Nat.le_refl _, e1, by omega, Lib.hid e2, Lib.hid e3⟩
      case round =>
        clear HBO HK0
        obtain ⟨K, c, rfl, hK1, hK2, hkk, HRT, HBO⟩ := hrel
        by_cases hlt : K + 1 < i
        · have hlt' : (K : Int) < (i : Int) - 1 := by omega
          have hlc : c.length = N := HRT.out.len.trans HLN.out
          obtain ⟨J, hJ⟩ : ∃ J, K + 1 = J := ⟨_, rfl⟩
          obtain ⟨x, gx⟩ := rec_at (l := c) (k := K) (by omega)
          obtain ⟨y', gy⟩ := rec_at (l := c) (k := J) (by omega)
          have wJ : IntKind.i64.wrap ((K : Int) + 1) = (J : Int) := by rw [IntKind.wrap_i64]; omega
          have bK : (K : Int) < (N : Int) := by omega
          have bJ : (J : Int) < (N : Int) := by omega
          have K0 : (0 : Int) ≤ (K : Int) := by omega
          have J0 : (0 : Int) ≤ (J : Int) := by omega
          have nKJ : ¬ (K = J) := by omega
          have nJK : ¬ (J = K) := by omega
          have HJ := Lib.hid hJ
          have HRT1 : Hid (Rot a (a + 1) (J + 1) l (swp c K J)) := Lib.hid (by
            subst hJ
            exact HRT.out.up1 hK1 (by have := HLN.out; omega))
          have HKK := Lib.hid (And.intro hK1 (And.intro hK2 (And.intro hlt hkk)))
          clear hlc hJ hK1 hK2 hlt hkk HRT
          obtain ⟨x0, x1', x2'⟩ := HBO.out.1.at gx
          obtain ⟨y0, y1', y2'⟩ := HBO.out.1.at gy
          have fz := HBO.out.1.frozen
          have HXY := Lib.hid (And.intro gx gy)
          clear gx gy
          obtain ⟨x1, x2, x3⟩ := x
          obtain ⟨y1, y2, y3⟩ := y'
          dsimp only at x0 x1' x2' y0 y1' y2'
          go_wp2_with fail
          go_region
          all_goals go_wp2
          have HSW : Hid (Blk (World.drew (set3 (set3 wr g (o + K * 3) (y1, y2, y3)) g (o + J * 3) (x1, x2, x3))) g o S (swp c K J) ∧ Only (· = g) w (World.drew (set3 (set3 wr g (o + K * 3) (y1, y2, y3)) g (o + J * 3) (x1, x2, x3)))) :=
            Lib.hid ⟨(HBO.out.1.swp HXY.out.1 HXY.out.2).drew, only_drew ((HBO.out.2.then (only_set3 wr g _ (y1, y2, y3))).then (only_set3 _ g _ (x1, x2, x3)))⟩
          go_roundg (i - 1 - J)
          case measure => have := HKK.out; have := HJ.out; omega
          case rel => exact ⟨J, _, rfl, by have := HKK.out; have := HJ.out; omega, by have := HKK.out; have := HJ.out; omega, by omega, HRT1, HSW⟩
        · have hnlt : ¬ ((K : Int) < (i : Int) - 1) := by omega
          have HEND : Hid (∃ r, Seg a b l r ∧ UpR a b r ∧ Blk wr g o S r ∧ Only (· = g) w wr) := Lib.hid (by
            have hr := HRT.out
            rw [show K + 1 = i by omega] at hr
            obtain ⟨f1, f2⟩ := HFIN.out c hr
            exact ⟨c, f1, f2, HBO.out.1, HBO.out.2⟩)
          clear hlt hK1 hK2 hkk
          go_wp2
          (try simp only [Exit.inBlock, Exit.then])
          refine bodyPost_ret (results_none rfl _ _ _) rfl ?_
          exact ⟨rfl, HEND.out⟩
end Go.Proofs.Ytamdbfkofdjmlaa.opr
