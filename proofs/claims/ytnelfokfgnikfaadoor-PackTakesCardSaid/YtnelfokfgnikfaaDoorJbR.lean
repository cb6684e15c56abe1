/- slices.Equal over whole numbers; the law's own job. -/
import Derived.Test.YtnelfokfgnikfaaDoorMJd
import Derived.Deep.QuietTactic
namespace Go.Proofs.YtnelfokfgnikfaaDoor.jb
set_option linter.unusedSimpArgs false
set_option linter.unusedVariables false
open Go.RowKit nam exp

def EqPost (xs ys : List Int) (w : World) (e : Ending) (w' : World) : Prop := e = .returned (.bool (decide (xs = ys))) ∧ Below w.heap.size w w'
theorem eq_yes {xs ys : List Int} {w w' : World} (h : xs = ys) (hb : Below w.heap.size w w') : EqPost xs ys w (.returned (.bool true)) w' := ⟨by rw [decide_eq_true h], hb⟩
theorem eq_no {xs ys : List Int} {w w' : World} (h : xs ≠ ys) (hb : Below w.heap.size w w') : EqPost xs ys w (.returned (.bool false)) w' := ⟨by rw [decide_eq_false h], hb⟩
def Pre (xs ys : List Int) (k : Nat) : Prop := xs.take k = ys.take k
theorem pre_more {xs ys : List Int} {k : Nat} (h : Pre xs ys k) (hk : k < xs.length) (hk2 : k < ys.length) (he : xs[k] = ys[k]) : Pre xs ys (k + 1) := by
  unfold Pre at h ⊢
  rw [List.take_succ_eq_append_getElem hk, List.take_succ_eq_append_getElem hk2, h, he]
theorem drewN_below (w : World) (q : Nat) : Below w.heap.size w (w.drewN q) := ⟨rfl, rfl, rfl, Nat.le_refl _, fun _ _ => rfl⟩
set_option maxHeartbeats 800000 in
set_option maxRecDepth 1000000 in
theorem equal_ints {xs ys : List Int} {u v : Value} {w : World} (h : IRow w u xs) (h' : IRow w v ys) (hl : xs.length ≤ 1000000) (hl' : ys.length ≤ 1000000) :
    Calls Tryd.prog 56 #[u, v] w (EqPost xs ys w) := by
  obtain ⟨a, c, rfl, h⟩ := h
  obtain ⟨a', c', rfl, h'⟩ := h'
  by_cases hlen : xs.length = ys.length
  · have HX := Lib.hid h; have HY := Lib.hid h'; have HLEN := Lib.hid hlen
    have hn : ((xs.length : Int) != (ys.length : Int)) = false := by simp; omega
    clear h h' hlen
    go_enter Tryd.func56, Tryd.ntmps56
    go_wp2
    go_loopg [13] xs.length (fun g v13 wr => ∃ k : Nat, k + g = xs.length ∧ v13 = .int .i64 k ∧ Pre xs ys k ∧ Below w.heap.size w wr)
    case atStart => exact ⟨0, by omega, rfl, rfl, Below.refl _ _⟩
    case round =>
      obtain ⟨k, hkg, rfl, hp, hb⟩ := hrel
      have HP := Lib.hid hp; have HB := Lib.hid hb
      clear hp hb
      have hle := HLEN.out
      cases gk with
      | zero =>
        have hkz : ¬ ((k : Int) < (xs.length : Int)) := by omega
        have HE := Lib.hid (show xs = ys by
          have := HP.out
          unfold Pre at this
          rwa [List.take_of_length_le (by omega), List.take_of_length_le (by omega)] at this)
        clear hle
        go_wp2
        go_ret
        exact eq_yes HE.out HB.out
      | succ g =>
        have hkz : (k : Int) < (xs.length : Int) := by omega
        have hkz' : (k : Int) < (ys.length : Int) := by omega
        have hk0 : (0 : Int) ≤ (k : Int) := by omega
        have hkx : k < xs.length := by omega
        have hky : k < ys.length := by omega
        obtain ⟨b, o, rfl, hlt, hc⟩ := HX.out (by omega)
        obtain ⟨b', o', rfl, hlt', hc'⟩ := HY.out (by omega)
        have hck := (HB.out.cell (p := ⟨b, o + k, none⟩) hlt).trans (hc k hkx)
        have hck' := (HB.out.cell (p := ⟨b', o' + k, none⟩) hlt').trans (hc' k hky)
        have HM := Lib.hid (fun he => pre_more HP.out hkx hky he)
        obtain ⟨x, ex⟩ : ∃ x, xs[k] = x := ⟨_, rfl⟩
        obtain ⟨y, ey⟩ : ∃ y, ys[k] = y := ⟨_, rfl⟩
        rw [ex, ey] at HM
        rw [ex] at hck
        rw [ey] at hck'
        have HNE : Hid (x ≠ y → xs ≠ ys) := Lib.hid (fun hxy e => hxy (by rw [← ex, ← ey]; exact List.getElem_of_eq e hkx))
        clear hc hc' ex ey hle hkx hky
        by_cases hxy : x = y
        · have HM2 := Lib.hid (HM.out hxy)
          subst hxy
          go_wp2
          go_quiet (fail)
          go_wp2
          go_roundg g
          case measure => omega
          case rel => exact ⟨k + 1, by omega, by go_num, HM2.out, HB.out.trans ((drewN_below _ _).mono HB.out.size)⟩
        · have hne : (x != y) = true := by simp [hxy]
          have hne2 : (x == y) = false := by simp [hxy]
          have HE := Lib.hid (HNE.out hxy)
          clear hxy
          go_wp2
          go_quiet (fail)
          go_wp2
          go_ret
          exact eq_no HE.out (HB.out.trans ((drewN_below _ _).mono HB.out.size))
  · have hn : ((xs.length : Int) != (ys.length : Int)) = true := by simp; omega
    have HE := Lib.hid (show xs ≠ ys from fun e => hlen (by rw [e]))
    clear hlen
    go_enter Tryd.func56, Tryd.ntmps56
    go_wp2
    go_ret
    exact eq_no HE.out (Below.refl _ _)
theorem own_irow {w : World} {B n : Nat} {v : Value} {l : List Int} (h : w.ownsRow B 3 1 v n (l.map intV)) : IRow w v l := by
  have hn : n = l.length := by have := h.1; simpa using this.symm
  subst hn
  rcases own_cases h with ⟨rfl, h0⟩ | ⟨g, cap, rfl, _, _, _, hlt, hc⟩
  · exact ⟨none, 0, by rw [h0], fun h1 => by omega⟩
  · exact ⟨_, cap, rfl, fun _ => ⟨g, 0, rfl, hlt, fun i hi => by rw [Nat.zero_add]; exact hc i _ (by simp [hi, intV])⟩⟩
/-- val + 1. -/
def plusX : Ex := .mk 7 0 [.mk 3 0 [], .mk 1 1 []]
def srcN : Nd := ⟨⟨#[115]⟩, 1, [], Ex.zero, 0⟩
def mapN : Nd := ⟨⟨#[109]⟩, 2, [0], plusX, 0⟩
def endN (p : Int) : Nd := ⟨⟨#[116]⟩, 9, [p], Ex.zero, 0⟩
/-- A source, a map of it, and a sink of the node p. -/
def L3 (p : Int) : List Nd := [srcN, mapN, endN p]
/-- The job's blocks. -/
def ThreeAt (w : World) (b bx b1 : Nat) (v2 : Value) : Prop :=
  w.heap[b]? = some (.cells #[.string ⟨#[115]⟩, .int .u8 1, .slice none 0 0, .int .u8 0, .int .i64 0, .slice none 0 0, .int .i64 0, .string ⟨#[109]⟩, .int .u8 2, .slice (some ⟨b1, 0, none⟩) 1 1, .int .u8 7, .int .i64 0, .slice (some ⟨bx, 0, none⟩) 2 2, .int .i64 0, .string ⟨#[116]⟩, .int .u8 9, v2, .int .u8 0, .int .i64 0, .slice none 0 0, .int .i64 0] 52 (0, 0)) ∧
  w.heap[bx]? = some (.cells #[.int .u8 3, .int .i64 0, .slice none 0 0, .int .u8 1, .int .i64 1, .slice none 0 0] 50 (0, 0)) ∧ w.heap[b1]? = some (.cells #[.int .i64 0] 3 (0, 0))
theorem irow_one {w : World} {b : Nat} {p : Int} {t : TypeId} (h : w.heap[b]? = some (.cells #[.int .i64 p] t (0, 0))) : IRow w (.slice (some ⟨b, 0, none⟩) 1 1) [p] :=
  ⟨_, 1, rfl, fun _ => ⟨b, 0, rfl, (Array.getElem?_eq_some_iff.1 h).1, fun i hi => by
    match i, hi with
    | 0, _ => exact cell_of h rfl⟩⟩
theorem nodes3 {w : World} {b bx b1 : Nat} {v2 : Value} {p : Int} (h : ThreeAt w b bx b1 v2) (h2 : IRow w v2 [p]) : Nodes w (.slice (some ⟨b, 0, none⟩) 3 3) (L3 p) := by
  obtain ⟨hb, hx, h1⟩ := h
  have hlt := (Array.getElem?_eq_some_iff.1 hb).1
  refine ⟨_, 3, rfl, by simp [L3], fun _ => ⟨b, rfl, fun i hi => ?_⟩⟩
  match i, hi with
  | 0, _ => exact ⟨hlt, .slice none 0 0, .slice none 0 0, cell_of hb rfl, cell_of hb rfl, cell_of hb rfl, cell_of hb rfl, cell_of hb rfl, cell_of hb rfl, cell_of hb rfl, IRow.none w, .nil⟩
  | 1, _ =>
    refine ⟨hlt, .slice (some ⟨b1, 0, none⟩) 1 1, .slice (some ⟨bx, 0, none⟩) 2 2, cell_of hb rfl, cell_of hb rfl, cell_of hb rfl, cell_of hb rfl, cell_of hb rfl, cell_of hb rfl, cell_of hb rfl, irow_one h1, ?_⟩
    refine .row bx 2 2 _ _ (fun _ => .slice none 0 0) trivial hx rfl (fun i hi => ?_) (fun i hi => ?_)
    · match i, hi with
      | 0, _ => exact ⟨rfl, rfl, rfl⟩
      | 1, _ => exact ⟨rfl, rfl, rfl⟩
    · match i, hi with
      | 0, _ => exact .nil
      | 1, _ => exact .nil
  | 2, _ => exact ⟨hlt, v2, .slice none 0 0, cell_of hb rfl, cell_of hb rfl, cell_of hb rfl, cell_of hb rfl, cell_of hb rfl, cell_of hb rfl, cell_of hb rfl, h2, .nil⟩
end Go.Proofs.YtnelfokfgnikfaaDoor.jb
