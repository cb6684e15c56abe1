/- Signs ask for the types that they tell. -/
import Derived.Test.YtappaeimacgdbaaKdI
namespace Go.Proofs.Ytappaeimacgdbaa.exp
set_option linter.unusedSimpArgs false
set_option linter.unusedVariables false
open Go.RowKit nam lex

def yesT : Ex := .mk 12 0 [vr 2, vr 3]
def sd (t : Bool) : Ex := if t then yesT else nm 1
def sgnX (o : Nat) (a b : Bool) : Ex := .mk o 0 [sd a, sd b]
set_option maxRecDepth 1000000 in
theorem side_any (t : Bool) {w : World} {Y M R : Nat} (y0 : w.cell? ⟨Y, 0, none⟩ = some (.int .u8 12)) (y1 : w.cell? ⟨Y, 1, none⟩ = some (.int .i64 0)) (y2 : w.cell? ⟨Y, 2, none⟩ = some (.slice (some ⟨R, 0, none⟩) 2 2))
    (m0 : w.cell? ⟨M, 0, none⟩ = some (.int .u8 1)) (m1 : w.cell? ⟨M, 1, none⟩ = some (.int .i64 1)) (m2 : w.cell? ⟨M, 2, none⟩ = some (.slice none 0 0)) (hl : Lies w Any (.slice (some ⟨R, 0, none⟩) 2 2) [vr 2, vr 3]) (hY : Y < w.heap.size) (hM : M < w.heap.size) :
    Calls Try.prog 15 #[.bool t, ptr Y, ptr M] w fun e w' => ∃ p k c, e = .returned (.agg #[.int .u8 ((sd t).op : Int), .int .i64 (sd t).n, .slice p k c]) ∧ Lies w' Any (.slice p k c) (sd t).args ∧ Below w.heap.size w w' := by
  obtain ⟨N, hN⟩ : ∃ N, w.heap.size = N := ⟨_, rfl⟩
  obtain ⟨W, hW⟩ : ∃ W, w.alloc (.cells #[.int .u8 0, .int .i64 0, .slice none 0 0] 28) = W := ⟨_, rfl⟩
  have hwb : Below w.heap.size w W := by rw [← hW]; exact (Below.refl _ _).alloc (Nat.le_refl _) _
  have hb0 : Bx W N 0 0 none 0 0 := by rw [← hW]; exact heap_last hN.symm
  have cy : ∀ i v, w.cell? ⟨Y, i, none⟩ = some v → W.cell? ⟨Y, i, none⟩ = some v := fun i v h => (hwb.cell (p := ⟨Y, i, none⟩) hY).trans h
  have cm : ∀ i v, w.cell? ⟨M, i, none⟩ = some v → W.cell? ⟨M, i, none⟩ = some v := fun i v h => (hwb.cell (p := ⟨M, i, none⟩) hM).trans h
  have y0' := cy _ _ y0; have y1' := cy _ _ y1; have y2' := cy _ _ y2
  have m0' := cm _ _ m0; have m1' := cm _ _ m1; have m2' := cm _ _ m2
  obtain ⟨a1, a2, a3, a4, a5, a6⟩ := hb0.cells
  have HL := Lib.hid hl; have HB := Lib.hid hwb; have HBX := Lib.hid hb0; have HN := Lib.hid hN
  clear cy cm y0 y1 y2 m0 m1 m2 hl hwb hb0
  unfold ptr
  cases t with
  | true =>
    obtain ⟨d1, d2, d3, _⟩ := (HBX.out.set 12 0 (some ⟨R, 0, none⟩) 2 2).cells
    have HX : Hid (Below w.heap.size w (set3 W N 12 0 (some ⟨R, 0, none⟩) 2 2)) := Lib.hid (only_none (set3_only (F := fun _ => False) (Only.of_below HB.out) (by have := HN.out; omega)) (fun k h => h))
    generalize hW3 : set3 W N 12 0 (some ⟨R, 0, none⟩) 2 2 = W3 at d1 d2 d3 HX
    unfold set3 at hW3
    have HW3 := Lib.hid hW3; clear hW3
    go_enter Try.func15, Try.ntmps15
    go_wp2_with fail
    rw [HW3.out]
    refine bodyPost_ret (v := .agg #[.int .u8 12, .int .i64 0, .slice (some ⟨R, 0, none⟩) 2 2]) (by simp [results, Try.f15, go_sem, d1, d2, d3]) rfl ⟨_, _, _, rfl, HL.out.under HX.out, HX.out⟩
  | false =>
    obtain ⟨d1, d2, d3, _⟩ := (HBX.out.set 1 1 none 0 0).cells
    have HX : Hid (Below w.heap.size w (set3 W N 1 1 none 0 0)) := Lib.hid (only_none (set3_only (F := fun _ => False) (Only.of_below HB.out) (by have := HN.out; omega)) (fun k h => h))
    generalize hW3 : set3 W N 1 1 none 0 0 = W3 at d1 d2 d3 HX
    unfold set3 at hW3
    have HW3 := Lib.hid hW3; clear hW3
    go_enter Try.func15, Try.ntmps15
    go_wp2_with fail
    rw [HW3.out]
    refine bodyPost_ret (v := .agg #[.int .u8 1, .int .i64 1, .slice none 0 0]) (by simp [results, Try.f15, go_sem, d1, d2, d3]) rfl ⟨_, _, _, rfl, .nil, HX.out⟩
theorem sgn_no {o : Nat} (h : o < 7 ∨ 17 < o) (a b : Bool) : kindO (sgnX o a b) false = (0, 2) := by
  unfold kindO
  rw [if_pos]
  unfold sgnX
  rw [good_mk]
  have : fitsB o 0 2 = false := by
    rw [Bool.eq_false_iff]
    intro hf
    have := (fitsB_iff o 0 2).1 hf
    omega
  simp [FM, this]
def wantO (o : Nat) (a b : Bool) : Nat := if a ≠ b then 0 else if o = 14 ∨ o = 15 then 2 else if (a = decide (16 ≤ o)) ∧ 12 ≤ o then 2 else if o ≤ 11 ∧ a = false then 1 else 0
theorem sgn_yes {o : Nat} (h : 7 ≤ o ∧ o ≤ 17) (a b : Bool) : kindO (sgnX o a b) false = if wantO o a b = 0 then (0, 91) else (wantO o a b, 0) := by
  rcases (show o = 7 ∨ o = 8 ∨ o = 9 ∨ o = 10 ∨ o = 11 ∨ o = 12 ∨ o = 13 ∨ o = 14 ∨ o = 15 ∨ o = 16 ∨ o = 17 by omega) with rfl | rfl | rfl | rfl | rfl | rfl | rfl | rfl | rfl | rfl | rfl <;> cases a <;> cases b <;> kernel_rfl
theorem sgn_size (o : Nat) (a b : Bool) : (sgnX o a b).size ≤ 1000000 := by
  have e1 : ∀ t, (sd t).size ≤ 3 := by
    intro t
    cases t
    · have : (sd false).size = 1 := by kernel_rfl
      omega
    · have : (sd true).size = 3 := by kernel_rfl
      omega
  unfold sgnX
  rw [size_mk, sizes_cons, sizes_cons, sizes_nil]
  have := e1 a; have := e1 b
  omega
end Go.Proofs.Ytappaeimacgdbaa.exp
