/- The document's examples. -/
import Derived.Test.YtknldabnkaecdaaPiN
namespace Go.Proofs.Ytknldabnkaecdaa.pip
set_option linter.unusedSimpArgs false
set_option linter.unusedVariables false
open Go.RowKit
attribute [local go_sem ↓] Go.wp_at_zero Go.wp_at_succ
open Go.Proofs.Ytknldabnkaecdaa.byt (fits intV txt flat)
def mOne : Ms := (1, 0, [(1, 2, 3)])
theorem one_may : mayB mOne = true := mayB_yes ⟨by decide, by decide, fun h => absurd h (by decide), fun i x y hx hy => by
  have := (List.getElem?_eq_some_iff.1 hy).1
  simp [mOne] at this⟩
theorem one_bytes : txt (flat (numsM mOne)) = ⟨#[2, 0, 2, 2, 4, 6]⟩ := by kernel_rfl
def mBad : Ms := (0, 1, [(0, 0, 0)])
theorem bad_may : mayB mBad = false := mayB_no fun h => by have := h.2.2.1 (by decide); cases this
set_option maxHeartbeats 3200000 in
set_option maxRecDepth 1000000 in
theorem law_known (w : World) : Calls Try.prog 3 #[] w fun e w' => e = .returned (.bool true) ∧ Below w.heap.size w w' := by
  have hb0 := below_made w (.cells #[.int .i64 1, .int .i64 2, .int .i64 3] 26)
  have HB0 := Lib.hid hb0
  have HBY : Hid (Calls Try.prog 8 #[.agg #[.int .i64 1, .int .i64 0, .slice (some ⟨w.heap.size, 0, none⟩) 1 1]] (w.alloc (.cells #[.int .i64 1, .int .i64 2, .int .i64 3] 26)) fun e w' => e = .returned (.tuple #[.string ⟨#[2, 0, 2, 2, 4, 6]⟩, .int .i64 0]) ∧ Below (w.alloc (.cells #[.int .i64 1, .int .i64 2, .int .i64 3] 26)).heap.size (w.alloc (.cells #[.int .i64 1, .int .i64 2, .int .i64 3] 26)) w') := Lib.hid (by
    have h := bytes_any (m := mOne) _ ⟨_, rfl, srR_new w (1, 2, 3)⟩ ⟨⟨by decide, by decide⟩, ⟨by decide, by decide⟩, fun r hr => by simp [mOne] at hr; subst hr; exact ⟨⟨by decide, by decide⟩, ⟨by decide, by decide⟩, ⟨by decide, by decide⟩⟩⟩ (by decide)
    unfold BytesPost at h
    rw [if_pos one_may, one_bytes] at h
    exact h)
  have HMY : Hid (∀ W, Calls Try.prog 16 #[.agg #[.int .i64 0, .int .i64 1, .slice (some ⟨W.heap.size, 0, none⟩) 1 1]] (W.alloc (.cells #[.int .i64 0, .int .i64 0, .int .i64 0] 26)) fun e w' => e = .returned (.bool false) ∧ Below W.heap.size W w') := Lib.hid (fun W => by
    have h := may_any (m := mBad) _ ⟨_, rfl, srR_new W (0, 0, 0)⟩ (by decide)
    rw [bad_may] at h
    exact h.mono fun e w' hp => ⟨hp.1, below_on' (below_made _ _) hp.2⟩)
  have HNW : Hid (∀ W, Calls Try.prog 11 #[.int .i64 9] W fun e w' => e = .returned (.tuple #[.pointer none, .int .i64 2]) ∧ w' = W) := Lib.hid (fun W => new_no 9 W (by omega))
  clear hb0
  go_enter Try.func3, Try.ntmps3
  have HHD := Lib.hid head_nil
  have HTK := Lib.hid take_nil
  unfold zeroV at HHD HTK
  go_upto_region 4 with (first
    | (go_at_call 8; ((with_reducible refine HBY.out.mono ?_); rintro e W1 ⟨rfl, h1⟩; have HB1 := Lib.hid (below_on' HB0.out h1); clear h1))
    | (go_at_call 9; ((with_reducible refine (HHD.out _).mono ?_); rintro e W2 ⟨rfl, h3⟩; have HB2 := Lib.hid h3; obtain ⟨M2, hM2⟩ : ∃ n, W2.heap.size = n := ⟨_, rfl⟩; have hy := Bx.new W2 0 0 (.slice none 0 0); have HYBW3 := Lib.hid (below_made W2 (.cells #[.int .i64 0, .int .i64 0, .slice none 0 0] 29)); obtain ⟨W3, hW3⟩ : ∃ W, W2.alloc (.cells #[.int .i64 0, .int .i64 0, .slice none 0 0] 29) = W := ⟨_, rfl⟩; rw [hW3] at hy HYBW3; rw [hM2] at hy; have HYW3 := Lib.hid hy; obtain ⟨⟨d0, d1, d2⟩, g0⟩ := hy.facts; clear hy h3)))
  have h3 := below_setM (below_on' (below_on' HB1.out HB2.out) HYBW3.out) (N := M2) (by have := HB1.out.size; have := HB2.out.size; omega) 0 0 (.slice none 0 0)
  change Code.wp _ _ _ _ (setM W3 M2 0 0 (.slice none 0 0))
  generalize setM W3 M2 0 0 (.slice none 0 0) = W4 at h3 ⊢
  have HB4 := Lib.hid h3
  clear h3 d0 d1 d2 g0 hW3 hM2
  go_upto_region 5 with (go_at_call 10; ((with_reducible refine (HTK.out _).mono ?_); rintro e W5 ⟨rfl, h3⟩; have HB5 := Lib.hid h3; obtain ⟨M5, hM5⟩ : ∃ n, W5.heap.size = n := ⟨_, rfl⟩; have hy := Bx.new W5 0 0 (.slice none 0 0); have HYBW6 := Lib.hid (below_made W5 (.cells #[.int .i64 0, .int .i64 0, .slice none 0 0] 29)); obtain ⟨W6, hW6⟩ : ∃ W, W5.alloc (.cells #[.int .i64 0, .int .i64 0, .slice none 0 0] 29) = W := ⟨_, rfl⟩; rw [hW6] at hy HYBW6; rw [hM5] at hy; have HYW6 := Lib.hid hy; obtain ⟨⟨d0, d1, d2⟩, g0⟩ := hy.facts; clear hy h3))
  have h3 := below_setM (below_on' (below_on' HB4.out HB5.out) HYBW6.out) (N := M5) (by have := HB4.out.size; have := HB5.out.size; omega) 0 0 (.slice none 0 0)
  change Code.wp _ _ _ _ (setM W6 M5 0 0 (.slice none 0 0))
  generalize setM W6 M5 0 0 (.slice none 0 0) = W7 at h3 ⊢
  have HB7 := Lib.hid h3
  clear h3 d0 d1 d2 g0 hW6 hM5
  go_wp2_with (first
    | (go_at_call 11; ((with_reducible refine (HNW.out _).mono ?_); rintro e W8 ⟨rfl, rfl⟩))
    | (go_at_call 12; ((with_reducible refine (works_any _).mono ?_); rintro e W9 ⟨rfl, h1⟩; have HB9 := Lib.hid (below_on' HB7.out h1); clear h1))
    | (go_at_call 13; ((with_reducible refine (put_nil _ _ _ _).mono ?_); rintro e W10 ⟨rfl, h1⟩; have HB10 := Lib.hid (below_on' HB9.out h1); clear h1))
    | (go_at_call 14; ((with_reducible refine (len_nil _).mono ?_); rintro e W11 ⟨rfl, rfl⟩))
    | (go_at_call 15; ((with_reducible refine (room_nil _).mono ?_); rintro e W12 ⟨rfl, rfl⟩))
    | (go_at_call 16; ((with_reducible refine (HMY.out _).mono ?_); rintro e W13 ⟨rfl, h1⟩; have HB13 := Lib.hid (below_on' HB10.out h1); clear h1)))
  go_ret
  exact ⟨rfl, HB13.out⟩
end Go.Proofs.Ytknldabnkaecdaa.pip
