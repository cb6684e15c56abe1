/- A pipe works. -/
import Derived.Test.YtknldabnkaecdaaPiH
namespace Go.Proofs.Ytknldabnkaecdaa.pip
set_option linter.unusedSimpArgs false
set_option linter.unusedVariables false
open Go.RowKit
attribute [local go_sem ↓] Go.wp_at_zero Go.wp_at_succ
def bare (q : Int) : Ms := (q, 0, [])
def bareV (q : Int) : Value := .agg #[.int .i64 q, .int .i64 0, .slice none 0 0]
theorem bare_mv (w : World) (q : Int) : MV w (bareV q) (bare q) := ⟨_, rfl, Sr.nil w⟩
theorem bare_may {q : Int} (h : 0 ≤ q) : mayB (bare q) = true := mayB_yes ⟨h, Int.le_refl _, fun h => absurd h (Int.lt_irrefl 0), rises_nil⟩
theorem bare_parts {w : World} {v : Value} {q : Int} (h : MV w v (bare q)) : ∃ a k, v = .agg #[.int .i64 q, .int .i64 0, .slice a 0 k] := by
  obtain ⟨a, k, h1, _⟩ := h.parts
  exact ⟨a, k, h1⟩
set_option maxHeartbeats 3200000 in
set_option maxRecDepth 1000000 in
theorem works_any (w : World) : Calls Try.prog 12 #[] w fun e w' => e = .returned (.bool true) ∧ Below w.heap.size w w' := by
  obtain ⟨c, hc⟩ : ∃ q, w.heap.size = q := ⟨_, rfl⟩
  obtain ⟨p, hp⟩ : ∃ q, w.heap.size + 1 = q := ⟨_, rfl⟩
  have hnew : Calls Try.prog 11 #[.int .i64 1] w _ := new_yes 1 w (by omega) (by omega)
  rw [hp, hc] at hnew
  have HNEW := Lib.hid hnew
  have HPU1 : Hid (∀ W, IsPipe W p c 1 [] → Calls Try.prog 13 #[.pointer (some ⟨p, 0, none⟩), .agg #[.int .i64 1, .int .i64 0, .slice none 0 0]] W fun e w' => e = .returned (.int .i64 0) ∧ ∃ v', IsPipe w' p c 1 ([] ++ [v']) ∧ MV w' v' (bare 1) ∧ Only (· = c) W w') :=
    Lib.hid (fun W h => put_ok h (bare_mv W 1) (by decide) (bare_may (by decide)) (by decide))
  have HPU2 : Hid (∀ W v, IsPipe W p c 1 [v] → Calls Try.prog 13 #[.pointer (some ⟨p, 0, none⟩), .agg #[.int .i64 2, .int .i64 0, .slice none 0 0]] W fun e w' => e = .returned (.int .i64 7) ∧ Below W.heap.size W w') :=
    Lib.hid (fun W v h => put_full h (bare_mv W 2) (by decide) (bare_may (by decide)) (Nat.le_refl 1))
  have HC := Lib.hid hc
  have HP := Lib.hid hp
  clear hnew hp hc
  go_enter Try.func12, Try.ntmps12
  go_upto_region 4 with (first
    | (go_at_call 11; ((with_reducible refine HNEW.out.mono ?_); rintro e W1 ⟨rfl, h1, h2⟩; have HP1 := Lib.hid h1; have HB1 := Lib.hid h2; clear h1 h2))
    | (go_at_call 13; ((with_reducible refine (HPU1.out _ HP1.out).mono ?_); rintro e W2 ⟨rfl, v2, h1, h2, h3⟩; have HP2 := Lib.hid h1; have HV2 := Lib.hid h2; have HO2 := Lib.hid h3; clear h1 h2 h3))
    | (go_at_call 13; ((with_reducible refine (HPU2.out _ _ HP2.out).mono ?_); rintro e W3 ⟨rfl, h1⟩; have HB3 := Lib.hid h1; clear h1)))
  obtain ⟨a2, k2, e2⟩ := bare_parts HV2.out
  subst e2
  have HH := Lib.hid (head_some (HP2.out.below HB3.out) (HV2.out.below HB3.out) (by decide) (by omega))
  have HB03 : Hid (Only (· = c) w W3) := Lib.hid (((Only.of_below (by rw [HC.out]; exact HB1.out)).then HO2.out).on HB3.out)
  go_upto_region 5 with (go_at_call 9; ((with_reducible refine (HH.out).mono ?_); rintro e W4 ⟨v4, rfl, h1, h2, h3⟩; obtain ⟨a4, k4, e4⟩ := bare_parts h1; subst e4; have HP4 := Lib.hid h2; have HO4 := Lib.hid h3; obtain ⟨M4, hM4⟩ : ∃ n, W4.heap.size = n := ⟨_, rfl⟩; have hy := Bx.new W4 0 0 (.slice none 0 0); have HYBW5 := Lib.hid (below_made W4 (.cells #[.int .i64 0, .int .i64 0, .slice none 0 0] 29)); obtain ⟨W5, hW5⟩ : ∃ W, W4.alloc (.cells #[.int .i64 0, .int .i64 0, .slice none 0 0] 29) = W := ⟨_, rfl⟩; rw [hW5] at hy HYBW5; rw [hM4] at hy; have HYW5 := Lib.hid hy; obtain ⟨⟨d0, d1, d2⟩, g0⟩ := hy.facts; clear hy h1 h2 h3))
  have h4 : Only (· = c) w (setM W5 M4 1 0 (.slice a4 0 k4)) := (((HB03.out.then HO4.out).on HYBW5.out).new (only_setM (B := 0) M4 _ _ _) (fun i hi => by rw [hi]; have h1 := HB03.out.size; have h2 := HO4.out.size; omega))
  have hc4 : c < M4 := by have := HP4.out.lt.2; omega
  have hp4 : IsPipe (setM W5 M4 1 0 (.slice a4 0 k4)) p c 1 ([] ++ [.agg #[.int .i64 1, .int .i64 0, .slice a2 0 k2]]) := (HP4.out.below HYBW5.out).setM (by have := HP4.out.lt.1; omega) (by omega) _ _ _
  have hx4 : Bx (setM W5 M4 1 0 (.slice a4 0 k4)) M4 1 0 (.slice a4 0 k4) := HYW5.out.set _ _ _
  change Code.wp _ _ _ _ (setM W5 M4 1 0 (.slice a4 0 k4))
  generalize setM W5 M4 1 0 (.slice a4 0 k4) = W6 at h4 hp4 hx4 ⊢
  have HT1 := Lib.hid (take_some hp4)
  have HX4 := Lib.hid hx4
  have HO6 := Lib.hid h4
  have HC4 := Lib.hid hc4
  clear h4 hc4 hp4 hx4 d0 d1 d2 g0 hW5 hM4
  go_upto_region 6 with (go_at_call 10; ((with_reducible refine (HT1.out).mono ?_); rintro e W7 ⟨rfl, h2, h3⟩; have HP7 := Lib.hid h2; have HO7 := Lib.hid h3; obtain ⟨M7, hM7⟩ : ∃ n, W7.heap.size = n := ⟨_, rfl⟩; have hy := Bx.new W7 0 0 (.slice none 0 0); have HYBW8 := Lib.hid (below_made W7 (.cells #[.int .i64 0, .int .i64 0, .slice none 0 0] 29)); obtain ⟨W8, hW8⟩ : ∃ W, W7.alloc (.cells #[.int .i64 0, .int .i64 0, .slice none 0 0] 29) = W := ⟨_, rfl⟩; rw [hW8] at hy HYBW8; rw [hM7] at hy; have HYW8 := Lib.hid hy; obtain ⟨⟨d0, d1, d2⟩, g0⟩ := hy.facts; clear hy h2 h3))
  have h7 : Only (· = c) w (setM W8 M7 1 0 (.slice a2 0 k2)) := (((HO6.out.then HO7.out).on HYBW8.out).new (only_setM (B := 0) M7 _ _ _) (fun i hi => by rw [hi]; have h1 := HO6.out.size; have h2 := HO7.out.size; omega))
  have hc7 : c < M7 ∧ M4 < M7 := ⟨by have := HP7.out.lt.2; omega, by have := lt_of_get HX4.out; have := HO7.out.size; omega⟩
  have hp7 : IsPipe (setM W8 M7 1 0 (.slice a2 0 k2)) p c 1 [] := (HP7.out.below HYBW8.out).setM (by have := HP7.out.lt.1; omega) (by omega) _ _ _
  have hx7 : Bx (setM W8 M7 1 0 (.slice a2 0 k2)) M7 1 0 (.slice a2 0 k2) := HYW8.out.set _ _ _
  have hx74 : Bx (setM W8 M7 1 0 (.slice a2 0 k2)) M4 1 0 (.slice a4 0 k4) := ((HX4.out.only HO7.out (by have := HC4.out; omega)).below HYBW8.out).otherM (by omega) _ _ _
  change Code.wp _ _ _ _ (setM W8 M7 1 0 (.slice a2 0 k2))
  generalize setM W8 M7 1 0 (.slice a2 0 k2) = W9 at h7 hp7 hx7 hx74 ⊢
  have HT2 := Lib.hid (take_none hp7)
  have HX7 := Lib.hid hx7
  have HX74 := Lib.hid hx74
  have HO9 := Lib.hid h7
  have HC7 := Lib.hid hc7
  clear h7 hc7 hp7 hx7 hx74 d0 d1 d2 g0 hW8 hM7
  unfold zeroV at HT2
  go_upto_region 7 with (go_at_call 10; ((with_reducible refine (HT2.out).mono ?_); rintro e W10 ⟨rfl, h3⟩; have HB10 := Lib.hid h3; obtain ⟨M10, hM10⟩ : ∃ n, W10.heap.size = n := ⟨_, rfl⟩; have hy := Bx.new W10 0 0 (.slice none 0 0); have HYBW11 := Lib.hid (below_made W10 (.cells #[.int .i64 0, .int .i64 0, .slice none 0 0] 29)); obtain ⟨W11, hW11⟩ : ∃ W, W10.alloc (.cells #[.int .i64 0, .int .i64 0, .slice none 0 0] 29) = W := ⟨_, rfl⟩; rw [hW11] at hy HYBW11; rw [hM10] at hy; have HYW11 := Lib.hid hy; obtain ⟨⟨d0, d1, d2⟩, g0⟩ := hy.facts; clear hy h3))
  have ha : Only (· = c) w (setM W11 M10 0 0 (.slice none 0 0)) := (((HO9.out.on HB10.out).on HYBW11.out).new (only_setM (B := 0) M10 _ _ _) (fun i hi => by rw [hi]; have h1 := HO9.out.size; have h2 := HB10.out.size; omega))
  have hca : M7 < M10 := by have := lt_of_get HX7.out; have := HB10.out.size; omega
  have hxa : Bx (setM W11 M10 0 0 (.slice none 0 0)) M7 1 0 (.slice a2 0 k2) := ((HX7.out.below HB10.out).below HYBW11.out).otherM (by omega) _ _ _
  have hxb : Bx (setM W11 M10 0 0 (.slice none 0 0)) M4 1 0 (.slice a4 0 k4) := ((HX74.out.below HB10.out).below HYBW11.out).otherM (by have := HC7.out.2; omega) _ _ _
  change Code.wp _ _ _ _ (setM W11 M10 0 0 (.slice none 0 0))
  generalize setM W11 M10 0 0 (.slice none 0 0) = W12 at ha hxa hxb ⊢
  have HE : Hid (Below w.heap.size w W12) := Lib.hid (ha.fresh (fun k hk => by rw [hk, HC.out]; exact Nat.le_refl _))
  obtain ⟨⟨m0, m1, m2⟩, _⟩ := hxa.facts
  obtain ⟨⟨n0, n1, n2⟩, _⟩ := hxb.facts
  clear ha hca hxa hxb d0 d1 d2 g0 hW11 hM10
  go_wp2_with fail
  go_ret
  exact ⟨rfl, HE.out⟩
end Go.Proofs.Ytknldabnkaecdaa.pip
