/- slices.Equal of rows of numbers, of records. -/
import Derived.Test.YtknldabnkaecdaaPiN
import Derived.Laws.StructEq
namespace Go.Proofs.Ytknldabnkaecdaa.pip
set_option linter.unusedSimpArgs false
set_option linter.unusedVariables false
open Go.RowKit
attribute [local go_sem ↓] Go.wp_at_zero Go.wp_at_succ
open Go.Proofs.Ytknldabnkaecdaa.byt (fits intV txt flat)
/-- A slice that reads these numbers. -/
def IRow (w : World) (v : Value) (l : List Int) : Prop :=
  ∃ a c, v = .slice a l.length c ∧ (0 < l.length → ∃ b o, a = some ⟨b, o, none⟩ ∧ b < w.heap.size ∧ ∀ i (h : i < l.length), w.cell? ⟨b, o + i, none⟩ = some (.int .i64 l[i]))
theorem IRow.on {w w' : World} {v : Value} {l : List Int} (h : IRow w v l) (hb : Below w.heap.size w w') : IRow w' v l := by
  obtain ⟨a, c, h1, h2⟩ := h
  refine ⟨a, c, h1, fun hl => ?_⟩
  obtain ⟨b, o, h3, h4, h5⟩ := h2 hl
  exact ⟨b, o, h3, by have := hb.size; omega, fun i hi => (hb.cell (p := ⟨b, o + i, none⟩) h4).trans (h5 i hi)⟩
theorem own_irow {w : World} {B n : Nat} {v : Value} {l : List Int} (h : w.ownsRow B 2 1 v n (l.map intV)) : IRow w v l := by
  have hn : n = l.length := by have := h.1; simpa using this.symm
  subst hn
  rcases byt.own_cases h with ⟨rfl, h0⟩ | ⟨g, cap, rfl, _, _, _, hlt, hc⟩
  · exact ⟨none, 0, by rw [h0], fun h1 => by omega⟩
  · exact ⟨_, cap, rfl, fun _ => ⟨g, 0, rfl, hlt, fun i hi => by rw [Nat.zero_add]; exact hc i _ (by simp [hi, intV])⟩⟩
/-- A row that was just made of these numbers. -/
theorem irow_new (w : World) (l : List Int) (n c : Nat) (hn : l.length = n) (t : TypeId) : IRow (w.alloc (.cells (l.map intV).toArray t)) (.slice (some ⟨w.heap.size, 0, none⟩) n c) l := by
  subst hn
  refine ⟨_, c, rfl, fun _ => ⟨_, 0, rfl, by simp, fun i hi => ?_⟩⟩
  have hh : (w.alloc (.cells (l.map intV).toArray t)).heap[w.heap.size]? = some (.cells (l.map intV).toArray t (0, 0)) := heap_alloc_new w _
  rw [cell_of_row _ w.heap.size (0 + i) _ _ _ hh]
  simp [hi, intV]

def EqPost (xs ys : List Int) (w : World) (e : Ending) (w' : World) : Prop := e = .returned (.bool (decide (xs = ys))) ∧ Below w.heap.size w w'
theorem eq_yes {xs ys : List Int} {w w' : World} (h : xs = ys) (hb : Below w.heap.size w w') : EqPost xs ys w (.returned (.bool true)) w' := ⟨by rw [decide_eq_true h], hb⟩
theorem eq_no {xs ys : List Int} {w w' : World} (h : xs ≠ ys) (hb : Below w.heap.size w w') : EqPost xs ys w (.returned (.bool false)) w' := ⟨by rw [decide_eq_false h], hb⟩
def Pre (xs ys : List Int) (k : Nat) : Prop := xs.take k = ys.take k
theorem pre_more {xs ys : List Int} {k : Nat} (h : Pre xs ys k) (hk : k < xs.length) (hk2 : k < ys.length) (he : xs[k] = ys[k]) : Pre xs ys (k + 1) := by
  unfold Pre at h ⊢
  rw [List.take_succ_eq_append_getElem hk, List.take_succ_eq_append_getElem hk2, h, he]
set_option maxHeartbeats 800000 in
set_option maxRecDepth 1000000 in
theorem equal_nums {xs ys : List Int} {u v : Value} {w : World} (h : IRow w u xs) (h' : IRow w v ys) (hl : xs.length ≤ 1000000) (hl' : ys.length ≤ 1000000) :
    Calls Try.prog 26 #[u, v] w (EqPost xs ys w) := by
  obtain ⟨a, c, rfl, h⟩ := h
  obtain ⟨a', c', rfl, h'⟩ := h'
  by_cases hlen : xs.length = ys.length
  · have HX := Lib.hid h; have HY := Lib.hid h'; have HLEN := Lib.hid hlen
    have hn : ((xs.length : Int) != (ys.length : Int)) = false := by simp; omega
    clear h h' hlen
    go_enter Try.func26, Try.ntmps26
    go_wp2
    go_loopg [13] xs.length (fun g v13 wr => ∃ k : Nat, k + g = xs.length ∧ v13 = .int .i64 k ∧ Pre xs ys k ∧ Below w.heap.size w wr)
    case atStart => exact ⟨0, by omega, rfl, rfl, Below.refl _ _⟩
    case round =>
      obtain ⟨k, hkg, rfl, hp, hb⟩ := hrel
      have HP := Lib.hid hp; have HB := Lib.hid hb
      clear hp hb
      have hle := HLEN.out
      cases gk with
      | zero =>
        have hkz : ¬ ((k : Int) < (xs.length : Int)) := by omega
        have HE := Lib.hid (show xs = ys by
          have := HP.out
          unfold Pre at this
          rwa [List.take_of_length_le (by omega), List.take_of_length_le (by omega)] at this)
        clear hle
        go_wp2
        go_ret
        exact eq_yes HE.out HB.out
      | succ g =>
        have hkz : (k : Int) < (xs.length : Int) := by omega
        have hkz' : (k : Int) < (ys.length : Int) := by omega
        have hk0 : (0 : Int) ≤ (k : Int) := by omega
        have hkx : k < xs.length := by omega
        have hky : k < ys.length := by omega
        obtain ⟨b, o, rfl, hlt, hc⟩ := HX.out (by omega)
        obtain ⟨b', o', rfl, hlt', hc'⟩ := HY.out (by omega)
        have hck := (HB.out.cell (p := ⟨b, o + k, none⟩) hlt).trans (hc k hkx)
        have hck' := (HB.out.cell (p := ⟨b', o' + k, none⟩) hlt').trans (hc' k hky)
        have HM := Lib.hid (fun he => pre_more HP.out hkx hky he)
        obtain ⟨x, ex⟩ : ∃ x, xs[k] = x := ⟨_, rfl⟩
        obtain ⟨y, ey⟩ : ∃ y, ys[k] = y := ⟨_, rfl⟩
        rw [ex, ey] at HM
        rw [ex] at hck
        rw [ey] at hck'
        have HNE : Hid (x ≠ y → xs ≠ ys) := Lib.hid (fun hxy e => hxy (by rw [← ex, ← ey]; exact List.getElem_of_eq e hkx))
        clear hc hc' ex ey hle hkx hky
        by_cases hxy : x = y
        · have HM2 := Lib.hid (HM.out hxy)
          subst hxy
          go_wp2
          go_quiet (fail)
          go_wp2
          go_roundg g
          case measure => omega
          case rel => exact ⟨k + 1, by omega, by go_num, HM2.out, HB.out.trans ((below_drewN _ _).mono HB.out.size)⟩
        · have hne : (x != y) = true := by simp [hxy]
          have hne2 : (x == y) = false := by simp [hxy]
          have HE := Lib.hid (HNE.out hxy)
          clear hxy
          go_wp2
          go_quiet (fail)
          go_wp2
          go_ret
          exact eq_no HE.out (HB.out.trans ((below_drewN _ _).mono HB.out.size))
  · have hn : ((xs.length : Int) != (ys.length : Int)) = true := by simp; omega
    have HE := Lib.hid (show xs ≠ ys from fun e => hlen (by rw [e]))
    clear hlen
    go_enter Try.func26, Try.ntmps26
    go_wp2
    go_ret
    exact eq_no HE.out (Below.refl _ _)
set_option maxHeartbeats 6400000 in
set_option maxRecDepth 1000000 in
theorem equal_any {w : World} {u v : Value} {l q : List Rc} (h : Sr w u l) (h' : Sr w v q) (hl : l.length ≤ 1000000) (hq : q.length ≤ 1000000) :
    Calls Try.prog 27 #[u, v] w fun e w' => e = .returned (.bool (decide (l = q))) ∧ Below w.heap.size w w' := by
  obtain ⟨a, c, rfl⟩ := h.len
  obtain ⟨a', c', rfl⟩ := h'.len
  by_cases hlen : l.length = q.length
  case neg =>
    have hd : decide (l = q) = false := decide_eq_false (fun e => hlen (by rw [e]))
    rw [hd]
    have hne : ¬ ((l.length : Int) = (q.length : Int)) := by omega
    obtain ⟨n, hn⟩ : ∃ n, l.length = n := ⟨_, rfl⟩
    obtain ⟨m, hm⟩ : ∃ n, q.length = n := ⟨_, rfl⟩
    rw [hn, hm] at hne ⊢
    have HB : Hid (Below w.heap.size w w) := Lib.hid (Below.refl _ _)
    clear h h' hd hlen hl hq hn hm
    go_enter Try.func27, Try.ntmps27
    go_wp2
    go_ret
    exact ⟨rfl, HB.out⟩
  case pos =>
    obtain ⟨n, hn⟩ : ∃ n, l.length = n := ⟨_, rfl⟩
    have hm : q.length = n := by omega
    rw [hn, hm]
    have HL := Lib.hid h
    have HQ := Lib.hid h'
    have HN := Lib.hid hn
    have HM := Lib.hid hm
    have hn1 : (n : Int) ≤ 1000000 := by omega
    have HB0 : Hid (Below w.heap.size w w) := Lib.hid (Below.refl _ _)
    clear h h' hn hm hl hq hlen
    go_enter Try.func27, Try.ntmps27
    go_wp2
    go_loopg [13] n (fun g v13 wr => ∃ k, v13 = .int .i64 (k : Nat) ∧ k + g = n ∧ Hid (l.take k = q.take k) ∧ Hid (Below w.heap.size w wr))
    case atStart => exact ⟨0, rfl, by omega, Lib.hid rfl, HB0⟩
    case round =>
      clear HB0
      obtain ⟨k, rfl, hk, HT, HB⟩ := hrel
      by_cases hlt : k < n
      · have hlt' : (k : Int) < (n : Int) := by omega
        have hk0 : (0 : Int) ≤ (k : Int) := by omega
        have hl1 : k < l.length := by rw [HN.out]; exact hlt
        have hq1 : k < q.length := by rw [HM.out]; exact hlt
        obtain ⟨x, gx⟩ := rec_at hl1
        obtain ⟨y, gy⟩ := rec_at hq1
        obtain ⟨g, o, c1, e1, e2, p1, p2, p3⟩ := (HL.out.below HB.out).at gx
        obtain ⟨g', o', c2, e3, e4, q1, q2, q3⟩ := (HQ.out.below HB.out).at gy
        rw [HN.out] at e1
        rw [HM.out] at e3
        injection e1 with e1a _ e1b
        injection e3 with e3a _ e3b
        subst e1a e1b e3a e3b
        have HKK := Lib.hid (And.intro hk hlt)
        have HXY := Lib.hid (And.intro gx gy)
        have HBD := Lib.hid HB.out.drew
        by_cases hxy : x = y
        · have HNX : Hid (l.take (k + 1) = q.take (k + 1)) := Lib.hid (by rw [List.take_add_one, List.take_add_one, gx, gy, HT.out, hxy])
          subst hxy
          obtain ⟨x1, x2, x3⟩ := x
          dsimp only at p1 p2 p3 q1 q2 q3
          clear gx gy e2 e4 hl1 hq1 hk hlt
          go_wp2_with fail
          go_region
          all_goals go_wp2
          go_roundg (n - (k + 1))
          case measure => have := HKK.out; omega
          case rel => exact ⟨k + 1, rfl, by have := HKK.out; omega, HNX, HBD⟩
        · have HD : Hid (decide (l = q) = false) := Lib.hid (decide_eq_false (fun e => hxy (by rw [e, gy] at gx; injection gx with gx; exact gx.symm)))
          have hne : ¬ (x.1 = y.1 ∧ x.2.1 = y.2.1 ∧ x.2.2 = y.2.2) := fun ⟨h1, h2, h3⟩ => hxy (Prod.ext h1 (Prod.ext h2 h3))
          obtain ⟨x1, x2, x3⟩ := x
          obtain ⟨y1, y2, y3⟩ := y
          dsimp only at p1 p2 p3 q1 q2 q3 hne
          clear gx gy e2 e4 hl1 hq1 hk hlt hxy
          by_cases hx1 : x1 = y1
          · subst hx1
            by_cases hx2 : x2 = y2
            · subst hx2
              have hb3 : (x3 == y3) = false := beq_eq_false_iff_ne.2 (fun e => hne ⟨rfl, rfl, e⟩)
              clear hne
              go_wp2_with fail
              go_region
              all_goals go_wp2
              all_goals (go_ret; exact ⟨ret_bool HD.out.symm, HBD.out⟩)
            · have hb2 : (x2 == y2) = false := beq_eq_false_iff_ne.2 hx2
              clear hne hx2
              go_wp2_with fail
              go_region
              all_goals go_wp2
              all_goals (go_ret; exact ⟨ret_bool HD.out.symm, HBD.out⟩)
          · have hb1 : (x1 == y1) = false := beq_eq_false_iff_ne.2 hx1
            clear hne hx1
            go_wp2_with fail
            go_region
            all_goals go_wp2
            all_goals (go_ret; exact ⟨ret_bool HD.out.symm, HBD.out⟩)
      · have hlt' : ¬ ((k : Int) < (n : Int)) := by omega
        have HD : Hid (decide (l = q) = true) := Lib.hid (decide_eq_true (by
          have h1 := HT.out
          rwa [show k = n by omega, List.take_of_length_le (by rw [HN.out]; exact Nat.le_refl _), List.take_of_length_le (by rw [HM.out]; exact Nat.le_refl _)] at h1))
        clear hlt hk
        go_wp2
        go_ret
        exact ⟨ret_bool HD.out.symm, HB.out⟩
end Go.Proofs.Ytknldabnkaecdaa.pip
