/- A message is read as it was told, and bytes are told as they were read: the law. -/
import Derived.Test.YtknldabnkaecdaaPiV
import Derived.Test.YtknldabnkaecdaaPiQ
namespace Go.Proofs.Ytknldabnkaecdaa.pip
set_option linter.unusedSimpArgs false
set_option linter.unusedVariables false
open Go.RowKit
attribute [local go_sem ↓] Go.wp_at_zero Go.wp_at_succ
open Go.Proofs.Ytknldabnkaecdaa.byt (fits intV txt flat bl numsO nums str_ne)
set_option maxHeartbeats 6400000 in
set_option maxRecDepth 1000000 in
theorem law_back (m : Ms) (a : Option Addr) (c : Nat) (s : ByteArray) (w : World) (hs : Sr w (.slice a m.2.2.length c) m.2.2) (hf : fitM m) (hss : s.size ≤ maxLen) :
    Calls Try.prog 7 #[.agg #[.int .i64 m.1, .int .i64 m.2.1, .slice a m.2.2.length c], .string s] w fun e w' => e = .returned (.bool true) ∧ Below w.heap.size w w' := by
  obtain ⟨x, hx⟩ : ∃ q, m.1 = q := ⟨_, rfl⟩
  obtain ⟨y, hy⟩ : ∃ q, m.2.1 = q := ⟨_, rfl⟩
  obtain ⟨n, hn⟩ : ∃ q, m.2.2.length = q := ⟨_, rfl⟩
  have hlen : m.2.2.length ≤ c ∧ c ≤ maxLen := by obtain ⟨_, _, e, _, h1, h2, _⟩ := hs; injection e with _ _ e; subst e; exact ⟨h1, h2⟩
  rw [hn] at hs hlen
  rw [hx, hy, hn]
  have hn1 : (n : Int) ≤ 9223372036854775807 := by unfold maxLen at hlen; omega
  have hs1 : (s.size : Int) ≤ 9223372036854775807 := by unfold maxLen at hss; omega
  have hb0 := below_made w (.cells #[.int .i64 x, .int .i64 y, .slice a n c] 29)
  have hx0 := Bx.new w x y (.slice a n c)
  obtain ⟨W0, hW0⟩ : ∃ W, w.alloc (.cells #[.int .i64 x, .int .i64 y, .slice a n c] 29) = W := ⟨_, rfl⟩
  rw [hW0] at hb0 hx0
  have hmv : MV W0 (.agg #[.int .i64 x, .int .i64 y, .slice a n c]) m := ⟨.slice a n c, by rw [hx, hy], hs.below hb0⟩
  have HB0 := Lib.hid hb0
  have HX0 := Lib.hid hx0
  have HMV := Lib.hid hmv
  have HF := Lib.hid hf
  have HN := Lib.hid hn
  clear hx hy hn hb0 hx0 hmv hf hss hlen hs
  by_cases hbig : 1000 < n ∨ 10000 < s.size
  · obtain ⟨⟨c0, c1, c2⟩, cf⟩ := HX0.out.facts
    have HWK : Hid (∀ W, Calls Try.prog 12 #[] W fun e w' => e = .returned (.bool true) ∧ Below W.heap.size W w') := Lib.hid works_any
    rcases hbig with hbig | hbig
    · have h3 : 1000 < (n : Int) := by omega
      clear hbig
      go_enter Try.func7, Try.ntmps7
      go_wp2_with (go_at_call 12; ((with_reducible refine (HWK.out _).mono ?_); rintro e W9 ⟨rfl, h1⟩; have HB9 := Lib.hid h1; clear h1))
      go_ret
      exact ⟨rfl, below_on' HB0.out HB9.out⟩
    · have h3 : 10000 < (s.size : Int) := by omega
      clear hbig
      by_cases hn3 : 1000 < n
      · have h4 : 1000 < (n : Int) := by omega
        clear hn3
        go_enter Try.func7, Try.ntmps7
        go_wp2_with (go_at_call 12; ((with_reducible refine (HWK.out _).mono ?_); rintro e W9 ⟨rfl, h1⟩; have HB9 := Lib.hid h1; clear h1))
        go_ret
        exact ⟨rfl, below_on' HB0.out HB9.out⟩
      · have h4 : ¬ 1000 < (n : Int) := by omega
        clear hn3
        go_enter Try.func7, Try.ntmps7
        go_wp2_with (go_at_call 12; ((with_reducible refine (HWK.out _).mono ?_); rintro e W9 ⟨rfl, h1⟩; have HB9 := Lib.hid h1; clear h1))
        go_ret
        exact ⟨rfl, below_on' HB0.out HB9.out⟩
  have h3 : ¬ 1000 < (n : Int) := by omega
  have h4 : ¬ 10000 < (s.size : Int) := by omega
  have HNS : Hid (n ≤ 1000 ∧ s.size ≤ 10000) := Lib.hid (by omega)
  have HCEL : Hid (∀ W, Below W0.heap.size W0 W → Bx W w.heap.size x y (.slice a n c)) := Lib.hid (fun W hW => HX0.out.below hW)
  have HMVW : Hid (∀ W, Below W0.heap.size W0 W → MV W (.agg #[.int .i64 x, .int .i64 y, .slice a n c]) m) := Lib.hid (fun W hW => HMV.out.below hW)
  have HWK : Hid (∀ W, Calls Try.prog 12 #[] W fun e w' => e = .returned (.bool true) ∧ Below W.heap.size W w') := Lib.hid works_any
  obtain ⟨mr, R, hR⟩ : ∃ mr R, readO s = (mr, R) := ⟨_, _, rfl⟩
  have HRE := Lib.hid hR
  have HRD : Hid (∀ W, Calls Try.prog 24 #[.string s] W fun e w' => ∃ v, e = .returned (.tuple #[v, .int .i64 R]) ∧ MV w' v mr ∧ Below W.heap.size W w') := Lib.hid (fun W => by
    have h := read_any s W (by have := HNS.out; omega)
    unfold ReadPost at h; rw [hR] at h; exact h)
  clear hR hbig
  obtain ⟨⟨c0, c1, c2⟩, cf⟩ := HX0.out.facts
  have HXW : Hid (∀ W, Below W0.heap.size W0 W → (W.cell? ⟨w.heap.size, 0, none⟩ = some (.int .i64 x) ∧ W.cell? ⟨w.heap.size, 1, none⟩ = some (.int .i64 y) ∧ W.cell? ⟨w.heap.size, 2, none⟩ = some (.slice a n c))) := Lib.hid (fun W hW => (HCEL.out W hW).facts.1)
  by_cases hm : MayP m
  · have hby := bytes_any W0 (HMVW.out W0 (Below.refl _ _)) HF.out (by have := HNS.out; have := HN.out; omega)
    unfold BytesPost at hby
    rw [if_pos (mayB_yes hm)] at hby
    have hrb := read_back HF.out (by have := HNS.out; have := HN.out; omega) hm
    obtain ⟨T, hT⟩ : ∃ T, txt (flat (numsM m)) = T := ⟨_, rfl⟩
    rw [hT] at hby hrb
    have hTs : T.size ≤ 1000000 := by
      have h1 := byt.flat_size (numsM m) (numsM_fits HF.out (by have := HNS.out; have := HN.out; omega))
      rw [numsM_len] at h1
      rw [← hT, byt.txt_size]
      have := HNS.out; have := HN.out; omega
    have HBY := Lib.hid hby
    have HRT : Hid (∀ W, Calls Try.prog 24 #[.string T] W fun e w' => ∃ v, e = .returned (.tuple #[v, .int .i64 0]) ∧ MV w' v m ∧ Below W.heap.size W w') := Lib.hid (fun W => by
      have h := read_any T W hTs
      unfold ReadPost at h; rw [hrb] at h; exact h)
    clear hby hrb hT hTs hm
    go_enter Try.func7, Try.ntmps7
    go_upto_region 5 with (go_at_call 8; ((with_reducible refine HBY.out.mono ?_); rintro e W1 ⟨rfl, h1⟩; have HB1 := Lib.hid h1; clear h1))
    go_wp2_with fail
    refine (HRT.out _).mono ?_
    rintro e W5 ⟨v5, rfl, h1, h2⟩
    obtain ⟨a5, k5, rfl, h3⟩ := h1.parts
    have HS5 := Lib.hid h3
    have HB5 := Lib.hid (below_on' HB1.out h2)
    obtain ⟨M5, hM5⟩ : ∃ n, W5.heap.size = n := ⟨_, rfl⟩
    have hy := Bx.new W5 0 0 (.slice none 0 0)
    have HYB6 := Lib.hid (below_made W5 (.cells #[.int .i64 0, .int .i64 0, .slice none 0 0] 29))
    obtain ⟨W6, hW6⟩ : ∃ W, W5.alloc (.cells #[.int .i64 0, .int .i64 0, .slice none 0 0] 29) = W := ⟨_, rfl⟩
    rw [hW6] at hy HYB6
    rw [hM5] at hy
    have HY6 := Lib.hid hy
    obtain ⟨⟨d0, d1, d2⟩, g0⟩ := hy.facts
    clear h1 h2 h3 hy
    go_upto_region 6 with fail
    obtain ⟨q1, hq1⟩ : ∃ q, m.1 = q := ⟨_, rfl⟩
    obtain ⟨q2, hq2⟩ : ∃ q, m.2.1 = q := ⟨_, rfl⟩
    obtain ⟨q3, hq3⟩ : ∃ q, m.2.2.length = q := ⟨_, rfl⟩
    rw [hq1, hq2, hq3]
    have HQ := Lib.hid (And.intro hq1 (And.intro hq2 hq3))
    have hs6 := HS5.out.below HYB6.out
    have hs7 := hs6.msg (only_setM (B := 0) M5 q1 q2 (.slice a5 q3 k5)) (hs6.ne_msg HY6.out)
    rw [hq3] at hs7
    have hx7 : Bx (setM W6 M5 q1 q2 (.slice a5 q3 k5)) M5 q1 q2 (.slice a5 q3 k5) := HY6.out.set _ _ _
    have hb7 : Below W0.heap.size W0 (setM W6 M5 q1 q2 (.slice a5 q3 k5)) := below_setM (below_on' HB5.out HYB6.out) (by have := HB5.out.size; omega) _ _ _
    clear hs6 hq1 hq2 hq3 d0 d1 d2 g0 hW6 hM5 HS5
    change Code.wp _ _ _ _ (setM W6 M5 q1 q2 (.slice a5 q3 k5))
    generalize setM W6 M5 q1 q2 (.slice a5 q3 k5) = W7 at hs7 hx7 hb7 ⊢
    have HS7 := Lib.hid hs7
    have HX7 := Lib.hid hx7
    have HB7 := Lib.hid hb7
    clear hs7 hx7
    obtain ⟨⟨m0, m1, m2⟩, -⟩ := HX7.out.facts
    obtain ⟨n0, n1, n2⟩ := HXW.out _ hb7
    have HEQ := Lib.hid (equal_any (u := .slice a5 q3 k5) (v := .slice a n c) (l := m.2.2) (q := m.2.2) HS7.out (by obtain ⟨u, e, h⟩ := HMVW.out _ hb7; injection e with e; have := Array.toList_inj.2 e; simp at this; rw [← this.2.2] at h; exact h) (by have := HNS.out; have := HN.out; omega) (by have := HNS.out; have := HN.out; omega))
    have hxq : q1 = x := by
      obtain ⟨u, e, h⟩ := HMVW.out _ hb7
      injection e with e; have := Array.toList_inj.2 e; simp at this; rw [← HQ.out.1]; exact this.1.symm
    have hyq : q2 = y := by
      obtain ⟨u, e, h⟩ := HMVW.out _ hb7
      injection e with e; have := Array.toList_inj.2 e; simp at this; rw [← HQ.out.2.1]; exact this.2.1.symm
    subst hxq hyq
    clear c0 c1 c2 cf hb7
    go_upto_region 8 with (go_at_call 27; ((with_reducible refine HEQ.out.mono ?_); rintro e W8 ⟨rfl, h1⟩; have HB8 := Lib.hid (below_on' HB7.out h1); clear h1))
    clear m0 m1 m2 n0 n1 n2
    by_cases hR0 : R = 0
    · subst hR0
      have hfo := read_forth HRE.out
      have HFO := Lib.hid hfo
      clear hfo
      go_wp2_with fail
      refine (HRD.out _).mono ?_
      rintro e W5 ⟨v5, rfl, h1, h2⟩
      obtain ⟨a5, k5, rfl, h3⟩ := h1.parts
      have HS5 := Lib.hid h3
      have HB5 := Lib.hid (below_on' HB8.out h2)
      obtain ⟨M5, hM5⟩ : ∃ n, W5.heap.size = n := ⟨_, rfl⟩
      have hy := Bx.new W5 0 0 (.slice none 0 0)
      have HYB6 := Lib.hid (below_made W5 (.cells #[.int .i64 0, .int .i64 0, .slice none 0 0] 29))
      obtain ⟨W6, hW6⟩ : ∃ W, W5.alloc (.cells #[.int .i64 0, .int .i64 0, .slice none 0 0] 29) = W := ⟨_, rfl⟩
      rw [hW6] at hy HYB6
      rw [hM5] at hy
      have HY6 := Lib.hid hy
      obtain ⟨⟨d0, d1, d2⟩, g0⟩ := hy.facts
      clear h1 h2 h3 hy
      go_upto_region 9 with fail
      obtain ⟨q1, hq1⟩ : ∃ q, mr.1 = q := ⟨_, rfl⟩
      obtain ⟨q2, hq2⟩ : ∃ q, mr.2.1 = q := ⟨_, rfl⟩
      obtain ⟨q3, hq3⟩ : ∃ q, mr.2.2.length = q := ⟨_, rfl⟩
      rw [hq1, hq2, hq3]
      have HQ := Lib.hid (And.intro hq1 (And.intro hq2 hq3))
      have hs6 := HS5.out.below HYB6.out
      have hs7 := hs6.msg (only_setM (B := 0) M5 q1 q2 (.slice a5 q3 k5)) (hs6.ne_msg HY6.out)
      rw [hq3] at hs7
      have hx7 : Bx (setM W6 M5 q1 q2 (.slice a5 q3 k5)) M5 q1 q2 (.slice a5 q3 k5) := HY6.out.set _ _ _
      have hb7 : Below W0.heap.size W0 (setM W6 M5 q1 q2 (.slice a5 q3 k5)) := below_setM (below_on' HB5.out HYB6.out) (by have := HB5.out.size; omega) _ _ _
      clear hs6 hq1 hq2 hq3 d0 d1 d2 g0 hW6 hM5 HS5
      change Code.wp _ _ _ _ (setM W6 M5 q1 q2 (.slice a5 q3 k5))
      generalize setM W6 M5 q1 q2 (.slice a5 q3 k5) = W20 at hs7 hx7 hb7 ⊢
      have HS7 := Lib.hid hs7
      have HX7 := Lib.hid hx7
      have HB7 := Lib.hid hb7
      clear hs7 hx7
      have hmv7 : MV W20 (.agg #[.int .i64 q1, .int .i64 q2, .slice a5 q3 k5]) mr := ⟨_, by rw [HQ.out.1, HQ.out.2.1], HS7.out⟩
      have hby := bytes_any W20 hmv7 HFO.out.2.2.1 (by have := HFO.out.2.2.2; have := HNS.out; omega)
      unfold BytesPost at hby
      rw [if_pos (mayB_yes HFO.out.1), HFO.out.2.1] at hby
      have HBF := Lib.hid hby
      have HX20 := HX7
      obtain ⟨⟨m0, m1, m2⟩, -⟩ := HX20.out.facts
      clear hmv7 hby hb7
      go_wp2_with (first
        | (go_at_call 8; ((with_reducible refine HBF.out.mono ?_); rintro e W21 ⟨rfl, h1⟩; have HB21 := Lib.hid (below_on' HB7.out h1); clear h1))
        | (go_at_call 12; ((with_reducible refine (HWK.out _).mono ?_); rintro e W22 ⟨rfl, h1⟩; have HB22 := Lib.hid (below_on' HB21.out h1); clear h1)))
      go_ret
      exact ⟨rfl, below_on' HB0.out HB22.out⟩
    · have her := read_err HRE.out hR0
      obtain ⟨rfl, rfl⟩ := her
      clear hR0
      go_wp2_with fail
      refine (HRD.out _).mono ?_
      rintro e W5 ⟨v5, rfl, h1, h2⟩
      obtain ⟨a5, k5, rfl, h3⟩ := h1.parts
      have HS5 := Lib.hid h3
      have HB5 := Lib.hid (below_on' HB8.out h2)
      obtain ⟨M5, hM5⟩ : ∃ n, W5.heap.size = n := ⟨_, rfl⟩
      have hy := Bx.new W5 0 0 (.slice none 0 0)
      have HYB6 := Lib.hid (below_made W5 (.cells #[.int .i64 0, .int .i64 0, .slice none 0 0] 29))
      obtain ⟨W6, hW6⟩ : ∃ W, W5.alloc (.cells #[.int .i64 0, .int .i64 0, .slice none 0 0] 29) = W := ⟨_, rfl⟩
      rw [hW6] at hy HYB6
      rw [hM5] at hy
      have HY6 := Lib.hid hy
      obtain ⟨⟨d0, d1, d2⟩, g0⟩ := hy.facts
      clear h1 h2 h3 hy
      go_upto_region 9 with fail
      have hs6 := HS5.out.below HYB6.out
      have hs7 := hs6.msg (only_setM (B := 0) M5 0 0 (.slice a5 0 k5)) (hs6.ne_msg HY6.out)
      have hx7 : Bx (setM W6 M5 0 0 (.slice a5 0 k5)) M5 0 0 (.slice a5 0 k5) := HY6.out.set _ _ _
      have hb7 : Below W0.heap.size W0 (setM W6 M5 0 0 (.slice a5 0 k5)) := below_setM (below_on' HB5.out HYB6.out) (by have := HB5.out.size; omega) _ _ _
      clear hs6 d0 d1 d2 g0 hW6 hM5 HS5
      change Code.wp _ _ _ _ (setM W6 M5 0 0 (.slice a5 0 k5))
      generalize setM W6 M5 0 0 (.slice a5 0 k5) = W20 at hs7 hx7 hb7 ⊢
      have HS7 := Lib.hid hs7
      have HX7 := Lib.hid hx7
      have HB7 := Lib.hid hb7
      clear hs7 hx7
      obtain ⟨⟨m0, m1, m2⟩, -⟩ := HX7.out.facts
      clear hb7
      go_wp2_with (go_at_call 12; ((with_reducible refine (HWK.out _).mono ?_); rintro e W22 ⟨rfl, h1⟩; have HB22 := Lib.hid (below_on' HB7.out h1); clear h1))
      go_ret
      exact ⟨rfl, below_on' HB0.out HB22.out⟩
  · have hby := bytes_any W0 (HMVW.out W0 (Below.refl _ _)) HF.out (by have := HNS.out; have := HN.out; omega)
    unfold BytesPost at hby
    rw [if_neg (by rw [mayB_no hm]; simp)] at hby
    have HBY := Lib.hid hby
    clear hby hm
    go_enter Try.func7, Try.ntmps7
    go_upto_region 8 with (go_at_call 8; ((with_reducible refine HBY.out.mono ?_); rintro e W1 ⟨rfl, h1⟩; have HB1 := Lib.hid h1; clear h1))
    by_cases hR0 : R = 0
    · subst hR0
      have hfo := read_forth HRE.out
      have HFO := Lib.hid hfo
      clear hfo
      go_wp2_with fail
      refine (HRD.out _).mono ?_
      rintro e W5 ⟨v5, rfl, h1, h2⟩
      obtain ⟨a5, k5, rfl, h3⟩ := h1.parts
      have HS5 := Lib.hid h3
      have HB5 := Lib.hid (below_on' HB1.out h2)
      obtain ⟨M5, hM5⟩ : ∃ n, W5.heap.size = n := ⟨_, rfl⟩
      have hy := Bx.new W5 0 0 (.slice none 0 0)
      have HYB6 := Lib.hid (below_made W5 (.cells #[.int .i64 0, .int .i64 0, .slice none 0 0] 29))
      obtain ⟨W6, hW6⟩ : ∃ W, W5.alloc (.cells #[.int .i64 0, .int .i64 0, .slice none 0 0] 29) = W := ⟨_, rfl⟩
      rw [hW6] at hy HYB6
      rw [hM5] at hy
      have HY6 := Lib.hid hy
      obtain ⟨⟨d0, d1, d2⟩, g0⟩ := hy.facts
      clear h1 h2 h3 hy
      go_upto_region 9 with fail
      obtain ⟨q1, hq1⟩ : ∃ q, mr.1 = q := ⟨_, rfl⟩
      obtain ⟨q2, hq2⟩ : ∃ q, mr.2.1 = q := ⟨_, rfl⟩
      obtain ⟨q3, hq3⟩ : ∃ q, mr.2.2.length = q := ⟨_, rfl⟩
      rw [hq1, hq2, hq3]
      have HQ := Lib.hid (And.intro hq1 (And.intro hq2 hq3))
      have hs6 := HS5.out.below HYB6.out
      have hs7 := hs6.msg (only_setM (B := 0) M5 q1 q2 (.slice a5 q3 k5)) (hs6.ne_msg HY6.out)
      rw [hq3] at hs7
      have hx7 : Bx (setM W6 M5 q1 q2 (.slice a5 q3 k5)) M5 q1 q2 (.slice a5 q3 k5) := HY6.out.set _ _ _
      have hb7 : Below W0.heap.size W0 (setM W6 M5 q1 q2 (.slice a5 q3 k5)) := below_setM (below_on' HB5.out HYB6.out) (by have := HB5.out.size; omega) _ _ _
      clear hs6 hq1 hq2 hq3 d0 d1 d2 g0 hW6 hM5 HS5
      change Code.wp _ _ _ _ (setM W6 M5 q1 q2 (.slice a5 q3 k5))
      generalize setM W6 M5 q1 q2 (.slice a5 q3 k5) = W20 at hs7 hx7 hb7 ⊢
      have HS7 := Lib.hid hs7
      have HX7 := Lib.hid hx7
      have HB7 := Lib.hid hb7
      clear hs7 hx7
      have hmv7 : MV W20 (.agg #[.int .i64 q1, .int .i64 q2, .slice a5 q3 k5]) mr := ⟨_, by rw [HQ.out.1, HQ.out.2.1], HS7.out⟩
      have hby := bytes_any W20 hmv7 HFO.out.2.2.1 (by have := HFO.out.2.2.2; have := HNS.out; omega)
      unfold BytesPost at hby
      rw [if_pos (mayB_yes HFO.out.1), HFO.out.2.1] at hby
      have HBF := Lib.hid hby
      have HX20 := HX7
      obtain ⟨⟨m0, m1, m2⟩, -⟩ := HX20.out.facts
      clear hmv7 hby hb7
      go_wp2_with (first
        | (go_at_call 8; ((with_reducible refine HBF.out.mono ?_); rintro e W21 ⟨rfl, h1⟩; have HB21 := Lib.hid (below_on' HB7.out h1); clear h1))
        | (go_at_call 12; ((with_reducible refine (HWK.out _).mono ?_); rintro e W22 ⟨rfl, h1⟩; have HB22 := Lib.hid (below_on' HB21.out h1); clear h1)))
      go_ret
      exact ⟨rfl, below_on' HB0.out HB22.out⟩
    · have her := read_err HRE.out hR0
      obtain ⟨rfl, rfl⟩ := her
      clear hR0
      go_wp2_with fail
      refine (HRD.out _).mono ?_
      rintro e W5 ⟨v5, rfl, h1, h2⟩
      obtain ⟨a5, k5, rfl, h3⟩ := h1.parts
      have HS5 := Lib.hid h3
      have HB5 := Lib.hid (below_on' HB1.out h2)
      obtain ⟨M5, hM5⟩ : ∃ n, W5.heap.size = n := ⟨_, rfl⟩
      have hy := Bx.new W5 0 0 (.slice none 0 0)
      have HYB6 := Lib.hid (below_made W5 (.cells #[.int .i64 0, .int .i64 0, .slice none 0 0] 29))
      obtain ⟨W6, hW6⟩ : ∃ W, W5.alloc (.cells #[.int .i64 0, .int .i64 0, .slice none 0 0] 29) = W := ⟨_, rfl⟩
      rw [hW6] at hy HYB6
      rw [hM5] at hy
      have HY6 := Lib.hid hy
      obtain ⟨⟨d0, d1, d2⟩, g0⟩ := hy.facts
      clear h1 h2 h3 hy
      go_upto_region 9 with fail
      have hs6 := HS5.out.below HYB6.out
      have hs7 := hs6.msg (only_setM (B := 0) M5 0 0 (.slice a5 0 k5)) (hs6.ne_msg HY6.out)
      have hx7 : Bx (setM W6 M5 0 0 (.slice a5 0 k5)) M5 0 0 (.slice a5 0 k5) := HY6.out.set _ _ _
      have hb7 : Below W0.heap.size W0 (setM W6 M5 0 0 (.slice a5 0 k5)) := below_setM (below_on' HB5.out HYB6.out) (by have := HB5.out.size; omega) _ _ _
      clear hs6 d0 d1 d2 g0 hW6 hM5 HS5
      change Code.wp _ _ _ _ (setM W6 M5 0 0 (.slice a5 0 k5))
      generalize setM W6 M5 0 0 (.slice a5 0 k5) = W20 at hs7 hx7 hb7 ⊢
      have HS7 := Lib.hid hs7
      have HX7 := Lib.hid hx7
      have HB7 := Lib.hid hb7
      clear hs7 hx7
      obtain ⟨⟨m0, m1, m2⟩, -⟩ := HX7.out.facts
      clear hb7
      go_wp2_with (go_at_call 12; ((with_reducible refine (HWK.out _).mono ?_); rintro e W22 ⟨rfl, h1⟩; have HB22 := Lib.hid (below_on' HB7.out h1); clear h1))
      go_ret
      exact ⟨rfl, below_on' HB0.out HB22.out⟩
end Go.Proofs.Ytknldabnkaecdaa.pip
