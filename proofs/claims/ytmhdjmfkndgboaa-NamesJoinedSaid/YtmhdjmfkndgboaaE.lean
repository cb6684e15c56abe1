/- The small thing that every statement of the layer asks first: 'works' answers true, in whatever world. -/
import Derived.Test.YtmhdjmfkndgboaaD
import Derived.Test.YtmhdjmfkndgboaaEq
namespace Go.Proofs.Ytmhdjmfkndgboaa
open Go.RowKit

theorem wordsO_works : wordsO ⟨#[32, 32, 97, 32, 98, 99, 9]⟩ = ([⟨#[97]⟩, ⟨#[98, 99]⟩], 0) := by kernel_rfl
theorem nameB_raeume : nameB ⟨#[114, 195, 164, 117, 109, 101, 45, 55]⟩ = true := by kernel_rfl
theorem nameB_7a : nameB ⟨#[55, 97]⟩ = false := by kernel_rfl
theorem many_oess : (rn ⟨#[195, 182, 195, 159]⟩ 0).length = 2 := by kernel_rfl

theorem words_works (w : World) : Calls Try.prog 9 #[.string ⟨#[32, 32, 97, 32, 98, 99, 9]⟩] w fun e w' =>
    ∃ v, e = .returned (.tuple #[v, .int .i64 0]) ∧ w'.ownsRow w.heap.size 9 1 v 2 [.string ⟨#[97]⟩, .string ⟨#[98, 99]⟩] ∧ Below w.heap.size w w' := by
  refine (words_any _ w).mono ?_
  rintro e w' ⟨v, rfl, ho, hb⟩
  rw [wordsO_works] at ho
  exact ⟨v, by rw [wordsO_works], ho, hb⟩
theorem own_lit2 (w : World) (B : Nat) (hB : B ≤ w.heap.size) (x y : Value) : (w.alloc (.cells #[x, y] 9)).ownsRow B 9 1 (.slice (some ⟨w.heap.size, 0, none⟩) 2 2) 2 [x, y] :=
  ⟨rfl, .inr ⟨w.heap.size, 2, #[x, y], rfl, hB, heap_alloc_new w _, Nat.le_refl _, by unfold maxLen; omega, rfl, rfl⟩⟩

theorem name_true {s : ByteArray} (h : nameB s = true) (w : World) : Calls Try.prog 13 #[.string s] w fun e w' => e = .returned (.bool true) ∧ Below w.heap.size w w' := by
  have := name_any s w; rwa [h] at this
theorem name_false {s : ByteArray} (h : nameB s = false) (w : World) : Calls Try.prog 13 #[.string s] w fun e w' => e = .returned (.bool false) ∧ Below w.heap.size w w' := by
  have := name_any s w; rwa [h] at this
theorem many_works (w : World) : Calls Try.prog 16 #[.string ⟨#[195, 182, 195, 159]⟩] w fun e w' => e = .returned (.int .i64 2) ∧ Below w.heap.size w w' := by
  have := many_any ⟨#[195, 182, 195, 159]⟩ w (by decide); rwa [many_oess] at this
theorem equal_works {w : World} {B : Nat} {v : Value} (h : w.ownsRow B 9 1 v 2 [.string ⟨#[97]⟩, .string ⟨#[98, 99]⟩]) (hB : B ≤ w.heap.size) :
    Calls Try.prog 19 #[v, .slice (some ⟨w.heap.size, 0, none⟩) 2 2] (w.alloc (.cells #[.string ⟨#[97]⟩, .string ⟨#[98, 99]⟩] 9)) fun e w' => e = .returned (.bool true) ∧ Below w.heap.size w w' := by
  have h1 := h.alloc (.cells #[.string ⟨#[97]⟩, .string ⟨#[98, 99]⟩] 9)
  have h2 := own_lit2 w B hB (.string ⟨#[97]⟩) (.string ⟨#[98, 99]⟩)
  refine (equal_own (xs := [⟨#[97]⟩, ⟨#[98, 99]⟩]) (ys := [⟨#[97]⟩, ⟨#[98, 99]⟩]) h1 h2).mono ?_
  rintro e w' ⟨rfl, hb⟩
  exact ⟨by rw [decide_eq_true rfl], ((Below.refl _ w).alloc (Nat.le_refl _) _).trans (hb.mono (by simp))⟩

set_option maxHeartbeats 800000 in
set_option maxRecDepth 1000000 in
theorem works_any (w : World) : Calls Try.prog 12 #[] w fun e w' => e = .returned (.bool true) ∧ Below w.heap.size w w' := by
  go_enter Try.func12, Try.ntmps12
  go_wp2_with fail
  refine (words_works w).mono ?_
  rintro e w1 ⟨v, rfl, ho, hb1⟩
  have HB1 := Lib.hid hb1; have HO := Lib.hid ho
  clear hb1 ho
  go_wp2_with fail
  refine (name_true nameB_raeume _).mono ?_
  rintro e w2 ⟨rfl, hb2⟩
  have HB2 := Lib.hid hb2; clear hb2
  go_wp2_with fail
  refine (name_false nameB_7a _).mono ?_
  rintro e w3 ⟨rfl, hb3⟩
  have HB3 := Lib.hid hb3; clear hb3
  go_wp2_with fail
  refine (many_works _).mono ?_
  rintro e w4 ⟨rfl, hb4⟩
  have HB4 := Lib.hid hb4; clear hb4
  go_wp2_with fail
  have ho2 := own_below (own_below (own_below HO.out HB2.out) HB3.out) HB4.out
  have s1 := HB1.out.size
  have s2 := HB2.out.size
  have s3 := HB3.out.size
  have s4 := HB4.out.size
  refine (equal_works ho2 (by omega)).mono ?_
  rintro e w5 ⟨rfl, hb5⟩
  have HB5 := Lib.hid hb5; clear hb5
  go_wp2_with fail
  go_ret
  exact ⟨rfl, HB1.out.trans ((HB2.out.mono (by omega)).trans ((HB3.out.mono (by omega)).trans ((HB4.out.mono (by omega)).trans (HB5.out.mono (by omega)))))⟩
end Go.Proofs.Ytmhdjmfkndgboaa
