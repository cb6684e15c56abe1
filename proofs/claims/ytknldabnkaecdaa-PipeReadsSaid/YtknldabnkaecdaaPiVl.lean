/- Bytes and Read are the reference's: the law. -/
import Derived.Test.YtknldabnkaecdaaPiV
namespace Go.Proofs.Ytknldabnkaecdaa.pip
set_option linter.unusedSimpArgs false
set_option linter.unusedVariables false
open Go.RowKit
attribute [local go_sem ↓] Go.wp_at_zero Go.wp_at_succ
open Go.Proofs.Ytknldabnkaecdaa.byt (fits intV txt flat bl numsO nums str_ne)
set_option maxHeartbeats 6400000 in
set_option maxRecDepth 1000000 in
theorem law_reads (m : Ms) (a : Option Addr) (c : Nat) (s : ByteArray) (w : World) (hs : Sr w (.slice a m.2.2.length c) m.2.2) (hf : fitM m) (hss : s.size ≤ maxLen) :
    Calls Try.prog 5 #[.agg #[.int .i64 m.1, .int .i64 m.2.1, .slice a m.2.2.length c], .string s] w fun e w' => e = .returned (.bool true) ∧ Below w.heap.size w w' := by
  obtain ⟨x, hx⟩ : ∃ q, m.1 = q := ⟨_, rfl⟩
  obtain ⟨y, hy⟩ : ∃ q, m.2.1 = q := ⟨_, rfl⟩
  obtain ⟨n, hn⟩ : ∃ q, m.2.2.length = q := ⟨_, rfl⟩
  have hlen : m.2.2.length ≤ c ∧ c ≤ maxLen := by obtain ⟨_, _, e, _, h1, h2, _⟩ := hs; injection e with _ _ e; subst e; exact ⟨h1, h2⟩
  rw [hn] at hs hlen
  rw [hx, hy, hn]
  have hn1 : (n : Int) ≤ 9223372036854775807 := by unfold maxLen at hlen; omega
  have hs1 : (s.size : Int) ≤ 9223372036854775807 := by unfold maxLen at hss; omega
  have hb0 := below_made w (.cells #[.int .i64 x, .int .i64 y, .slice a n c] 29)
  have hx0 := Bx.new w x y (.slice a n c)
  obtain ⟨W0, hW0⟩ : ∃ W, w.alloc (.cells #[.int .i64 x, .int .i64 y, .slice a n c] 29) = W := ⟨_, rfl⟩
  rw [hW0] at hb0 hx0
  have hmv : MV W0 (.agg #[.int .i64 x, .int .i64 y, .slice a n c]) m := ⟨.slice a n c, by rw [hx, hy], hs.below hb0⟩
  have HB0 := Lib.hid hb0
  have HX0 := Lib.hid hx0
  have HMV := Lib.hid hmv
  have HF := Lib.hid hf
  have HN := Lib.hid hn
  clear hx hy hn hb0 hx0 hmv hf hss hlen hs
  by_cases hbig : 1000 < n ∨ 10000 < s.size
  · obtain ⟨⟨c0, c1, c2⟩, cf⟩ := HX0.out.facts
    have HWK : Hid (∀ W, Calls Try.prog 12 #[] W fun e w' => e = .returned (.bool true) ∧ Below W.heap.size W w') := Lib.hid works_any
    rcases hbig with hbig | hbig
    · have h3 : 1000 < (n : Int) := by omega
      clear hbig
      go_enter Try.func5, Try.ntmps5
      go_wp2_with (go_at_call 12; ((with_reducible refine (HWK.out _).mono ?_); rintro e W9 ⟨rfl, h1⟩; have HB9 := Lib.hid h1; clear h1))
      go_ret
      exact ⟨rfl, below_on' HB0.out HB9.out⟩
    · have h3 : 10000 < (s.size : Int) := by omega
      clear hbig
      by_cases hn3 : 1000 < n
      · have h4 : 1000 < (n : Int) := by omega
        clear hn3
        go_enter Try.func5, Try.ntmps5
        go_wp2_with (go_at_call 12; ((with_reducible refine (HWK.out _).mono ?_); rintro e W9 ⟨rfl, h1⟩; have HB9 := Lib.hid h1; clear h1))
        go_ret
        exact ⟨rfl, below_on' HB0.out HB9.out⟩
      · have h4 : ¬ 1000 < (n : Int) := by omega
        clear hn3
        go_enter Try.func5, Try.ntmps5
        go_wp2_with (go_at_call 12; ((with_reducible refine (HWK.out _).mono ?_); rintro e W9 ⟨rfl, h1⟩; have HB9 := Lib.hid h1; clear h1))
        go_ret
        exact ⟨rfl, below_on' HB0.out HB9.out⟩
  have h3 : ¬ 1000 < (n : Int) := by omega
  have h4 : ¬ 10000 < (s.size : Int) := by omega
  have HNS : Hid (n ≤ 1000 ∧ s.size ≤ 10000) := Lib.hid (by omega)
  have HCEL : Hid (∀ W, Below W0.heap.size W0 W → Bx W w.heap.size x y (.slice a n c)) := Lib.hid (fun W hW => HX0.out.below hW)
  have HMVW : Hid (∀ W, Below W0.heap.size W0 W → MV W (.agg #[.int .i64 x, .int .i64 y, .slice a n c]) m) := Lib.hid (fun W hW => HMV.out.below hW)
  obtain ⟨T, E, hTE⟩ : ∃ T E, (∀ W, Below W0.heap.size W0 W → Calls Try.prog 8 #[.agg #[.int .i64 x, .int .i64 y, .slice a n c]] W fun e w' => e = .returned (.tuple #[.string T, .int .i64 E]) ∧ Below W.heap.size W w') ∧
      (∀ W, Below W0.heap.size W0 W → Calls Try.prog 22 #[.agg #[.int .i64 x, .int .i64 y, .slice a n c]] W fun e w' => e = .returned (.tuple #[.string T, .int .i64 E]) ∧ Below W.heap.size W w') := by
    by_cases hm : mayB m = true
    · refine ⟨txt (flat (numsM m)), 0, fun W hW => ?_, fun W hW => ?_⟩
      · have h := bytes_any W (HMVW.out W hW) HF.out (by have := HNS.out; have := HN.out; omega)
        unfold BytesPost at h; rw [if_pos hm] at h; exact h
      · have h := rbytes_any W (HMVW.out W hW) HF.out (by have := HNS.out; have := HN.out; omega)
        unfold BytesPost at h; rw [if_pos hm] at h; exact h
    · refine ⟨⟨#[]⟩, 2, fun W hW => ?_, fun W hW => ?_⟩
      · have h := bytes_any W (HMVW.out W hW) HF.out (by have := HNS.out; have := HN.out; omega)
        unfold BytesPost at h; rw [if_neg hm] at h; exact h
      · have h := rbytes_any W (HMVW.out W hW) HF.out (by have := HNS.out; have := HN.out; omega)
        unfold BytesPost at h; rw [if_neg hm] at h; exact h
  have HBY := Lib.hid hTE.1
  have HRB := Lib.hid hTE.2
  obtain ⟨B, hB⟩ : ∃ B, mayB m = B := ⟨_, rfl⟩
  have HMY : Hid (∀ W, Below W0.heap.size W0 W → Calls Try.prog 16 #[.agg #[.int .i64 x, .int .i64 y, .slice a n c]] W fun e w' => e = .returned (.bool B) ∧ Below W0.heap.size W0 w') := Lib.hid (fun W hW => by
    have h := may_any W (HMVW.out W hW) (by have := HNS.out; have := HN.out; omega)
    rw [hB] at h
    exact h.mono fun e w' hp => ⟨hp.1, below_on' hW hp.2⟩)
  have HRM : Hid (∀ W, Below W0.heap.size W0 W → Calls Try.prog 23 #[.agg #[.int .i64 x, .int .i64 y, .slice a n c]] W fun e w' => e = .returned (.bool B) ∧ Below W0.heap.size W0 w') := Lib.hid (fun W hW => by
    have h := rmay_any W (HMVW.out W hW) (by have := HNS.out; have := HN.out; omega)
    rw [hB] at h
    exact h.mono fun e w' hp => ⟨hp.1, below_on' hW hp.2⟩)
  have HWK : Hid (∀ W, Calls Try.prog 12 #[] W fun e w' => e = .returned (.bool true) ∧ Below W.heap.size W w') := Lib.hid works_any
  obtain ⟨mr, R, hR⟩ : ∃ mr R, readO s = (mr, R) := ⟨_, _, rfl⟩
  have HRD : Hid (∀ W, Calls Try.prog 24 #[.string s] W fun e w' => ∃ v, e = .returned (.tuple #[v, .int .i64 R]) ∧ MV w' v mr ∧ Below W.heap.size W w') := Lib.hid (fun W => by
    have h := read_any s W (by have := HNS.out; omega)
    unfold ReadPost at h; rw [hR] at h; exact h)
  have HRR : Hid (∀ W, Calls Try.prog 25 #[.string s] W fun e w' => ∃ v, e = .returned (.tuple #[v, .int .i64 R]) ∧ MV w' v mr ∧ Below W.heap.size W w') := Lib.hid (fun W => by
    have h := rread_any s W (by have := HNS.out; omega)
    unfold ReadPost at h; rw [hR] at h; exact h)
  have HMR : Hid (mr.2.2.length ≤ 9223372036854775806) := Lib.hid (by
    by_cases h0 : R = 0
    · rw [h0] at hR; have := (read_forth hR).2.2.2; have := HNS.out; omega
    · have := (read_err hR h0).1; rw [this]; exact Nat.zero_le _)
  clear hTE hB hR hbig
  obtain ⟨⟨c0, c1, c2⟩, cf⟩ := HX0.out.facts
  go_enter Try.func5, Try.ntmps5
  go_upto_region 4 with (go_at_call 8; ((with_reducible refine (HBY.out _ (Below.refl _ _)).mono ?_); rintro e W1 ⟨rfl, h1⟩; have HB1 := Lib.hid h1; obtain ⟨⟨d0, d1, d2⟩, df⟩ := (HCEL.out _ h1).facts; clear h1))
  go_upto_region 5 with (go_at_call 22; ((with_reducible refine (HRB.out _ HB1.out).mono ?_); rintro e W2 ⟨rfl, h1⟩; have HB2 := Lib.hid (below_on' HB1.out h1); obtain ⟨⟨f0, f1, f2⟩, ff⟩ := (HCEL.out _ (below_on' HB1.out h1)).facts; clear h1))
  have HCC : Hid (∀ W, Below W0.heap.size W0 W → W.cell? ⟨w.heap.size, 0, none⟩ = some (.int .i64 x) ∧ W.cell? ⟨w.heap.size, 1, none⟩ = some (.int .i64 y) ∧ W.cell? ⟨w.heap.size, 2, none⟩ = some (.slice a n c)) := Lib.hid (fun W hW => (HCEL.out W hW).facts.1)
  clear c0 c1 c2 cf d0 d1 d2 df f0 f1 f2 ff
  go_region_held3 (fun w' => w'.cell? ⟨w.heap.size, 0, none⟩ = some (.int .i64 x) ∧ w'.cell? ⟨w.heap.size, 1, none⟩ = some (.int .i64 y) ∧ w'.cell? ⟨w.heap.size, 2, none⟩ = some (.slice a n c)) (first | exact HCC.out _ HB2.out.drew | exact HCC.out _ hb3 | exact HCC.out _ hb4) (first
    | (go_at_call 16; with_reducible refine (HMY.out _ ?_).mono ?_; exact HB2.out.drew; rintro e w3 ⟨rfl, hb3⟩)
    | (go_at_call 23; with_reducible refine (HRM.out _ ?_).mono ?_; exact hb3; rintro e w4 ⟨rfl, hb4⟩))
  have HB4 := Lib.hid hb4
  clear hb3 hb4
  go_wp2_with fail
  refine (HRD.out _).mono ?_
  rintro e W5 ⟨v5, rfl, h1, h2⟩
  obtain ⟨a5, k5, rfl, h3⟩ := h1.parts
  have HS5 := Lib.hid h3
  have HB5 := Lib.hid (below_on' HB4.out h2)
  obtain ⟨M5, hM5⟩ : ∃ n, W5.heap.size = n := ⟨_, rfl⟩
  have hy := Bx.new W5 0 0 (.slice none 0 0)
  have HYB6 := Lib.hid (below_made W5 (.cells #[.int .i64 0, .int .i64 0, .slice none 0 0] 29))
  obtain ⟨W6, hW6⟩ : ∃ W, W5.alloc (.cells #[.int .i64 0, .int .i64 0, .slice none 0 0] 29) = W := ⟨_, rfl⟩
  rw [hW6] at hy HYB6
  rw [hM5] at hy
  have HY6 := Lib.hid hy
  obtain ⟨⟨d0, d1, d2⟩, g0⟩ := hy.facts
  clear h1 h2 h3 hy
  go_upto_region 8 with fail
  obtain ⟨q1, hq1⟩ : ∃ q, mr.1 = q := ⟨_, rfl⟩
  obtain ⟨q2, hq2⟩ : ∃ q, mr.2.1 = q := ⟨_, rfl⟩
  obtain ⟨q3, hq3⟩ : ∃ q, mr.2.2.length = q := ⟨_, rfl⟩
  rw [hq1, hq2, hq3]
  have HQ := Lib.hid (And.intro hq1 (And.intro hq2 hq3))
  have hs6 := HS5.out.below HYB6.out
  have hs7 := hs6.msg (only_setM (B := 0) M5 q1 q2 (.slice a5 q3 k5)) (hs6.ne_msg HY6.out)
  rw [hq3] at hs7
  have hx7 : Bx (setM W6 M5 q1 q2 (.slice a5 q3 k5)) M5 q1 q2 (.slice a5 q3 k5) := HY6.out.set _ _ _
  have hb7 : Below W0.heap.size W0 (setM W6 M5 q1 q2 (.slice a5 q3 k5)) := below_setM (below_on' HB5.out HYB6.out) (by have := HB5.out.size; omega) _ _ _
  clear hs6 hq1 hq2 hq3 d0 d1 d2 g0 hW6 hM5 HS5
  change Code.wp _ _ _ _ (setM W6 M5 q1 q2 (.slice a5 q3 k5))
  generalize setM W6 M5 q1 q2 (.slice a5 q3 k5) = W7 at hs7 hx7 hb7 ⊢
  have HS7 := Lib.hid hs7
  have HX7 := Lib.hid hx7
  have HB7 := Lib.hid hb7
  clear hs7 hx7 hb7
  go_wp2_with fail
  refine (HRR.out _).mono ?_
  rintro e W8 ⟨v8, rfl, h1, h2⟩
  obtain ⟨a8, k8, rfl, h3⟩ := h1.parts
  have HS8 := Lib.hid h3
  have HB8 := Lib.hid h2
  obtain ⟨M8, hM8⟩ : ∃ n, W8.heap.size = n := ⟨_, rfl⟩
  have hy := Bx.new W8 0 0 (.slice none 0 0)
  have HYB9 := Lib.hid (below_made W8 (.cells #[.int .i64 0, .int .i64 0, .slice none 0 0] 29))
  obtain ⟨W9, hW9⟩ : ∃ W, W8.alloc (.cells #[.int .i64 0, .int .i64 0, .slice none 0 0] 29) = W := ⟨_, rfl⟩
  rw [hW9] at hy HYB9
  rw [hM8] at hy
  have HY9 := Lib.hid hy
  obtain ⟨⟨d0, d1, d2⟩, g0⟩ := hy.facts
  obtain ⟨hq1, hq2, hq3⟩ := HQ.out
  rw [hq1, hq2, hq3]
  clear h1 h2 h3 hy
  clear hq1 hq2 hq3
  go_upto_region 9 with fail
  have hne : M5 < M8 := by rw [← hM8]; have := lt_of_get HX7.out; have := HB8.out.size; omega
  have hs9 := (HS8.out.below HYB9.out).msg (only_setM (B := 0) M8 q1 q2 (.slice a8 q3 k8)) ((HS8.out.below HYB9.out).ne_msg HY9.out)
  have hx9 : Bx (setM W9 M8 q1 q2 (.slice a8 q3 k8)) M8 q1 q2 (.slice a8 q3 k8) := HY9.out.set _ _ _
  have h79 := (HS7.out.below HB8.out).below HYB9.out
  have hx79 : Bx W9 M5 q1 q2 (.slice a5 q3 k5) := (HX7.out.below HB8.out).below HYB9.out
  have hs79 := h79.msg (only_setM (B := 0) M8 q1 q2 (.slice a8 q3 k8)) (h79.ne_msg HY9.out)
  have hx79' : Bx (setM W9 M8 q1 q2 (.slice a8 q3 k8)) M5 q1 q2 (.slice a5 q3 k5) := hx79.otherM (by omega) _ _ _
  have hb9 : Below w.heap.size w (setM W9 M8 q1 q2 (.slice a8 q3 k8)) := below_setM (below_on' HB0.out (below_on' (below_on' HB7.out HB8.out) HYB9.out)) (by have := HB7.out.size; have := HB8.out.size; have := HB0.out.size; omega) _ _ _
  change Code.wp _ _ _ _ (setM W9 M8 q1 q2 (.slice a8 q3 k8))
  generalize setM W9 M8 q1 q2 (.slice a8 q3 k8) = W10 at hs9 hx9 hs79 hx79' hb9 ⊢
  obtain ⟨⟨m0, m1, m2⟩, -⟩ := hx9.facts
  obtain ⟨⟨n0, n1, n2⟩, -⟩ := hx79'.facts
  have HSAME := Lib.hid (same_same (v := .agg #[.int .i64 q1, .int .i64 q2, .slice a5 q3 k5]) (u := .agg #[.int .i64 q1, .int .i64 q2, .slice a8 q3 k8]) (m := mr) W10
    ⟨_, by rw [HQ.out.1, HQ.out.2.1], hs79⟩ ⟨_, by rw [HQ.out.1, HQ.out.2.1], by rw [HQ.out.2.2] at hs9; exact hs9⟩ HMR.out)
  have HB10 := Lib.hid hb9
  clear hs9 hx9 h79 hx79 hs79 hx79' hb9 hne d0 d1 d2 g0 hW9 hM8
  go_wp2_with (first
    | (go_at_call 21; ((with_reducible refine HSAME.out.mono ?_); rintro e W11 ⟨rfl, h1⟩; have HB11 := Lib.hid (below_on' HB10.out h1); clear h1))
    | (go_at_call 12; ((with_reducible refine (HWK.out _).mono ?_); rintro e W12 ⟨rfl, h1⟩; have HB12 := Lib.hid (below_on' HB11.out h1); clear h1)))
  go_ret
  exact ⟨rfl, HB12.out⟩
end Go.Proofs.Ytknldabnkaecdaa.pip
