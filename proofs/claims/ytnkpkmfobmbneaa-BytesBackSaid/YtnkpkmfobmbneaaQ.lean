/- slices.Equal over two slices of numbers; strings.HasPrefix. -/
import Derived.Test.YtnkpkmfobmbneaaH
import Derived.Deep.QuietTactic
namespace Go.Proofs.Ytnkpkmfobmbneaa
open Go.RowKit

theorem below_drewN (w : World) (q : Nat) : Below w.heap.size w (w.drewN q) := ⟨rfl, rfl, rfl, Nat.le_refl _, fun _ _ => rfl⟩
def EqPost (xs ys : List Int) (w : World) (e : Ending) (w' : World) : Prop := e = .returned (.bool (decide (xs = ys))) ∧ Below w.heap.size w w'
theorem eq_yes {xs ys : List Int} {w w' : World} (h : xs = ys) (hb : Below w.heap.size w w') : EqPost xs ys w (.returned (.bool true)) w' := ⟨by rw [decide_eq_true h], hb⟩
theorem eq_no {xs ys : List Int} {w w' : World} (h : xs ≠ ys) (hb : Below w.heap.size w w') : EqPost xs ys w (.returned (.bool false)) w' := ⟨by rw [decide_eq_false h], hb⟩
def Pre (xs ys : List Int) (k : Nat) : Prop := xs.take k = ys.take k
theorem pre_more {xs ys : List Int} {k : Nat} (h : Pre xs ys k) (hk : k < xs.length) (hk2 : k < ys.length) (he : xs.getD k 0 = ys.getD k 0) : Pre xs ys (k + 1) := by
  unfold Pre at h ⊢
  rw [List.getD_eq_getElem?_getD, List.getElem?_eq_getElem hk, List.getD_eq_getElem?_getD, List.getElem?_eq_getElem hk2] at he
  rw [List.take_succ_eq_append_getElem hk, List.take_succ_eq_append_getElem hk2, h]
  simp only [Option.getD_some] at he
  rw [he]

set_option maxHeartbeats 800000 in
set_option maxRecDepth 1000000 in
theorem equal_any (xs ys : List Int) (a a' : Option Addr) (c c' : Nat) (w : World) (h : Rd w w.heap.size a xs) (h' : Rd w w.heap.size a' ys) (hl : xs.length ≤ 1000000) (hl' : ys.length ≤ 1000000) :
    Calls Try.prog 19 #[.slice a xs.length c, .slice a' ys.length c'] w (EqPost xs ys w) := by
  by_cases hlen : xs.length = ys.length
  · have HX := Lib.hid h; have HY := Lib.hid h'; have HLEN := Lib.hid hlen
    have hn : ((xs.length : Int) != (ys.length : Int)) = false := by simp; omega
    clear h h' hlen
    go_enter Try.func19, Try.ntmps19
    go_wp2
    go_loopg [13] xs.length (fun g v13 wr => ∃ k : Nat, k + g = xs.length ∧ v13 = .int .i64 k ∧ Pre xs ys k ∧ Below w.heap.size w wr)
    case atStart => exact ⟨0, by omega, rfl, rfl, Below.refl _ _⟩
    case round =>
      obtain ⟨k, hkg, rfl, hp, hb⟩ := hrel
      have HP := Lib.hid hp; have HB := Lib.hid hb
      clear hp hb
      have hle := HLEN.out
      cases gk with
      | zero =>
        have hkz : ¬ ((k : Int) < (xs.length : Int)) := by omega
        have HE := Lib.hid (show xs = ys by
          have := HP.out
          unfold Pre at this
          rwa [List.take_of_length_le (by omega), List.take_of_length_le (by omega)] at this)
        clear hle
        go_wp2
        go_ret
        exact eq_yes HE.out HB.out
      | succ g =>
        have hkz : (k : Int) < (xs.length : Int) := by omega
        have hkz' : (k : Int) < (ys.length : Int) := by omega
        have hk0 : (0 : Int) ≤ (k : Int) := by omega
        obtain ⟨b, o, rfl, hlt, hc⟩ := HX.out (by intro e; rw [e] at hkz; simp at hkz; omega)
        obtain ⟨b', o', rfl, hlt', hc'⟩ := HY.out (by intro e; rw [e] at hkz'; simp at hkz'; omega)
        have hck := (HB.out.cell (p := ⟨b, o + k, none⟩) hlt).trans (hc k (by omega))
        have hck' := (HB.out.cell (p := ⟨b', o' + k, none⟩) hlt').trans (hc' k (by omega))
        have HM := Lib.hid (fun he => pre_more HP.out (by omega) (by omega) (show xs.getD k 0 = ys.getD k 0 from he))
        obtain ⟨x, ex⟩ : ∃ x, xs.getD k 0 = x := ⟨_, rfl⟩
        obtain ⟨y, ey⟩ : ∃ y, ys.getD k 0 = y := ⟨_, rfl⟩
        rw [ex, ey] at HM
        rw [ex] at hck
        rw [ey] at hck'
        have EX := Lib.hid ex; have EY := Lib.hid ey
        clear hc hc' ex ey hle
        by_cases hxy : x = y
        · have HM2 := Lib.hid (HM.out hxy)
          subst hxy
          go_wp2
          go_quiet (fail)
          go_wp2
          go_roundg g
          case measure => omega
          case rel => exact ⟨k + 1, by omega, by go_num, HM2.out, HB.out.trans ((below_drewN _ _).mono HB.out.size)⟩
        · have hne : (x != y) = true := by simp [hxy]
          have hne2 : (x == y) = false := by simp [hxy]
          have HE := Lib.hid (show xs ≠ ys by intro e; apply hxy; rw [← EX.out, ← EY.out, e])
          clear hxy
          go_wp2
          go_quiet (fail)
          go_wp2
          go_ret
          exact eq_no HE.out (HB.out.trans ((below_drewN _ _).mono HB.out.size))
  · have hn : ((xs.length : Int) != (ys.length : Int)) = true := by simp; omega
    have HE := Lib.hid (show xs ≠ ys from fun e => hlen (by rw [e]))
    clear hlen
    go_enter Try.func19, Try.ntmps19
    go_wp2
    go_ret
    exact eq_no HE.out (Below.refl _ _)
end Go.Proofs.Ytnkpkmfobmbneaa
