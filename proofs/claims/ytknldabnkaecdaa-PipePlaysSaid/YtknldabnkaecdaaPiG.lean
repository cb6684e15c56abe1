/- What Head answers, and what it leaves: the messages as they were. -/
import Derived.Test.YtknldabnkaecdaaPiF
namespace Go.Proofs.Ytknldabnkaecdaa.pip
set_option linter.unusedSimpArgs false
set_option linter.unusedVariables false
open Go.RowKit
open Go.Conc (rcase scase heap_setChan size_setChan)
attribute [local go_sem ↓] Go.wp_at_zero Go.wp_at_succ
theorem Bx.only {w w' : World} {N : Nat} {x y : Int} {u : Value} (h : Bx w N x y u) {F : Nat → Prop} (ho : Only F w w') (hN : ¬ F N) : Bx w' N x y u := (ho.block N (lt_of_get h) hN).trans h
set_option maxHeartbeats 1600000 in
set_option maxRecDepth 1000000 in
/-- Head of a pipe of which Take tells an error. -/
theorem head_err {q : Value} {d : Int} (w : World) (hd : d ≠ 0) (HT : ∀ w', Below w.heap.size w w' → Calls Try.prog 10 #[q] w' fun e w'' => e = .returned (.tuple #[zeroV, .int .i64 d]) ∧ Below w'.heap.size w' w'') :
    Calls Try.prog 9 #[q] w fun e w' => e = .returned (.tuple #[zeroV, .int .i64 d]) ∧ Below w.heap.size w w' := by
  obtain ⟨N, hN⟩ : ∃ n, w.heap.size = n := ⟨_, rfl⟩
  have hb0 := below_made w (.cells #[.int .i64 0, .int .i64 0, .slice none 0 0] 29)
  have hx0 := Bx.new w 0 0 (.slice none 0 0)
  obtain ⟨W0, hW0⟩ : ∃ W, w.alloc (.cells #[.int .i64 0, .int .i64 0, .slice none 0 0] 29) = W := ⟨_, rfl⟩
  rw [hW0] at hb0 hx0
  have HTK := Lib.hid (HT W0 hb0)
  have HB0 := Lib.hid hb0
  have HX0 := Lib.hid hx0
  have hdb : ((d : Int) != 0) = true := by simp [hd]
  have hdz : ¬ d = 0 := hd
  clear HT hb0 hx0 hd
  go_enter Try.func9, Try.ntmps9
  unfold zeroV at HTK
  go_upto_region 2 with (go_at_call 10; ((with_reducible refine HTK.out.mono ?_); rintro e W1 ⟨rfl, h1⟩; have HB1 := Lib.hid h1; obtain ⟨M, hM⟩ : ∃ n, W1.heap.size = n := ⟨_, rfl⟩; have hy := Bx.new W1 0 0 (.slice none 0 0); have HYB := Lib.hid (below_made W1 (.cells #[.int .i64 0, .int .i64 0, .slice none 0 0] 29)); obtain ⟨W2, hW2⟩ : ∃ W, W1.alloc (.cells #[.int .i64 0, .int .i64 0, .slice none 0 0] 29) = W := ⟨_, rfl⟩; rw [hW2] at hy HYB; rw [hM] at hy; obtain ⟨⟨d0, d1, d2⟩, g0⟩ := hy.facts; clear h1 hy))
  have HW : Hid (Below N w (setM W2 M 0 0 (.slice none 0 0))) := Lib.hid (by
    have h := below_on' (below_on' HB0.out HB1.out) HYB.out
    rw [hN] at h
    exact below_setM h (by have h1 := HB0.out.size; have h2 := HB1.out.size; omega) _ _ _)
  have hx3 : Bx (setM W2 M 0 0 (.slice none 0 0)) N 0 0 (.slice none 0 0) := by
    have h := (HX0.out.below HB1.out).below HYB.out
    rw [hN] at h
    refine h.otherM (fun e => ?_) _ _ _
    have h1 := lt_of_get HX0.out
    have h2 := HB1.out.size
    omega
  change Code.wp _ _ _ _ (setM W2 M 0 0 (.slice none 0 0))
  generalize setM W2 M 0 0 (.slice none 0 0) = W3 at HW hx3 ⊢
  obtain ⟨⟨c0, c1, c2⟩, f0⟩ := hx3.facts
  have HX4 := Lib.hid (hx3.set 0 0 (.slice none 0 0)).facts.1
  have HF := Lib.hid (below_setM HW.out (Nat.le_refl N) 0 0 (.slice none 0 0))
  clear hx3 d0 d1 d2 g0 hW2 hM hW0
  go_wp2_with fail
  obtain ⟨r0, r1, r2⟩ := HX4.out
  unfold setM at r0 r1 r2
  refine bodyPost_ret (v := .tuple #[zeroV, .int .i64 d]) (by simp [results, Try.f9, go_sem, r0, r1, r2, zeroV]) rfl ?_
  rw [hN]
  exact ⟨rfl, HF.out⟩
theorem head_nil (w : World) : Calls Try.prog 9 #[.pointer none] w fun e w' => e = .returned (.tuple #[zeroV, .int .i64 1]) ∧ Below w.heap.size w w' :=
  head_err w (by decide) (fun w' _ => take_nil w')
theorem head_none {w : World} {p c room : Nat} (h : IsPipe w p c room []) : Calls Try.prog 9 #[.pointer (some ⟨p, 0, none⟩)] w fun e w' => e = .returned (.tuple #[zeroV, .int .i64 4]) ∧ Below w.heap.size w w' :=
  head_err w (by decide) (fun w' hb => take_none (h.below hb))
end Go.Proofs.Ytknldabnkaecdaa.pip
