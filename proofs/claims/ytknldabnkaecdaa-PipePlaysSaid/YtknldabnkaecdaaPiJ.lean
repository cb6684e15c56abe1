/- What the reference's Read answers: as Read. -/
import Derived.Test.YtknldabnkaecdaaPiX
namespace Go.Proofs.Ytknldabnkaecdaa.pip
set_option linter.unusedSimpArgs false
set_option linter.unusedVariables false
open Go.RowKit
attribute [local go_sem ↓] Go.wp_at_zero Go.wp_at_succ
open Go.Proofs.Ytknldabnkaecdaa.byt (fits intV txt flat bl numsO nums str_ne)
theorem Bx.set0 {w : World} {N : Nat} {x y : Int} {u : Value} (h : Bx w N x y u) (x' : Int) : Bx (w.setCell ⟨N, 0, none⟩ (.int .i64 x')) N x' y u := by
  unfold Bx at *
  rw [heap_setCell_same w N 0 _ _ _ h]; rfl
theorem Bx.set1 {w : World} {N : Nat} {x y : Int} {u : Value} (h : Bx w N x y u) (y' : Int) : Bx (w.setCell ⟨N, 1, none⟩ (.int .i64 y')) N x y' u := by
  unfold Bx at *
  rw [heap_setCell_same w N 1 _ _ _ h]; rfl
set_option maxHeartbeats 6400000 in
set_option maxRecDepth 1000000 in
theorem rread_any (s : ByteArray) (w : World) (hs : s.size ≤ 10000) : Calls Try.prog 25 #[.string s] w (ReadPost s w) := by
  obtain ⟨N, hN⟩ : ∃ n, w.heap.size = n := ⟨_, rfl⟩
  have hb0 := below_made w (.cells #[.int .i64 0, .int .i64 0, .slice none 0 0] 29)
  have hx0 := Bx.new w 0 0 (.slice none 0 0)
  obtain ⟨W0, hW0⟩ : ∃ W, w.alloc (.cells #[.int .i64 0, .int .i64 0, .slice none 0 0] 29) = W := ⟨_, rfl⟩
  rw [hW0] at hb0 hx0
  rw [hN] at hx0
  have HB0 := Lib.hid hb0
  have HBAD : Hid (∀ W, Below W0.heap.size W0 W → readO s = (zeroM, 21) → ReadPost s w (.returned (.tuple #[zeroV, .int .i64 21])) (setM W N 0 0 (.slice none 0 0))) := Lib.hid (fun W hW hr => by
    refine ⟨zeroV, by rw [hr], by rw [hr]; exact MV.zero _, below_setM (below_on' hb0 hW) (by rw [hN]; exact Nat.le_refl _) _ _ _⟩)
  have HX : Hid (∀ W, Below W0.heap.size W0 W → Bx W N 0 0 (.slice none 0 0)) := Lib.hid (fun W hW => hx0.below hW)
  have HNUM := Lib.hid (byt.refNumbers_any s W0 (by omega))
  unfold byt.NumsPost at HNUM
  have HSS := Lib.hid hs
  clear hb0 hx0 hs
  by_cases hc : (numsO s).2 = 0
  case neg =>
    have HC := Lib.hid (read_no (s := s) (l := (numsO s).1) (c := (numsO s).2) rfl (fun h => absurd h hc))
    obtain ⟨c, hcc⟩ : ∃ c, (numsO s).2 = c := ⟨_, rfl⟩
    obtain ⟨l, hll⟩ : ∃ l, (numsO s).1 = l := ⟨_, rfl⟩
    rw [hcc] at hc HNUM
    rw [hll] at HNUM
    have hcb : (c != 0) = true := by simp [hc]
    clear hc hcc hll
    go_enter Try.func25, Try.ntmps25
    go_upto_region 2 with (go_at_call 33; ((with_reducible refine HNUM.out.mono ?_); rintro e W1 ⟨v1, rfl, h1, h2⟩; have HB1 := Lib.hid h2; clear h1 h2))
    obtain ⟨M, hM⟩ : ∃ n, W1.heap.size = n := ⟨_, rfl⟩
    have HMM := Lib.hid hM
    have hy := Bx.new W1 0 0 (.slice none 0 0)
    have HYB := Lib.hid (below_made W1 (.cells #[.int .i64 0, .int .i64 0, .slice none 0 0] 29))
    obtain ⟨W2, hW2⟩ : ∃ W, W1.alloc (.cells #[.int .i64 0, .int .i64 0, .slice none 0 0] 29) = W := ⟨_, rfl⟩
    rw [hW2] at hy HYB
    rw [hM] at hy
    have HY := Lib.hid hy
    obtain ⟨⟨d0, d1, d2⟩, g0⟩ := hy.facts
    clear hy
    go_upto_region 4 with fail
    have HB3 : Hid (Below W0.heap.size W0 (setM W2 M 0 0 (.slice none 0 0))) := Lib.hid (below_setM (below_on' HB1.out HYB.out) (by have := HB1.out.size; omega) _ _ _)
    have HX3 : Hid (Bx (setM W2 M 0 0 (.slice none 0 0)) M 0 0 (.slice none 0 0)) := Lib.hid (HY.out.set _ _ _)
    have HON : Hid (∀ j, j < W1.heap.size → (setM W2 M 0 0 (.slice none 0 0)).heap[j]? = W1.heap[j]?) := Lib.hid (fun j hj => ((only_setM (B := 0) M 0 0 (.slice none 0 0)).block j (by have := HYB.out.size; omega) (by have := HMM.out; omega)).trans (HYB.out.block j hj))
    change Code.wp _ _ _ _ (setM W2 M 0 0 (.slice none 0 0))
    generalize setM W2 M 0 0 (.slice none 0 0) = W4 at HB3 HX3 HON ⊢
    obtain ⟨⟨k0, k1, k2⟩, kf⟩ := HX3.out.facts
    clear d0 d1 d2 g0 hW2 hM
    have HBZ := HB3
    obtain ⟨⟨c0, c1, c2⟩, f0⟩ := (HX.out _ HBZ.out).facts
    have HRZ := Lib.hid ((HX.out _ HBZ.out).set 0 0 (.slice none 0 0)).facts.1
    go_wp2_with fail
    obtain ⟨r0, r1, r2⟩ := HRZ.out
    unfold setM at r0 r1 r2
    refine bodyPost_ret (v := .tuple #[zeroV, .int .i64 21]) (by simp [results, Try.f25, go_sem, r0, r1, r2, zeroV]) rfl ?_
    exact HBAD.out _ HBZ.out HC.out
  case pos =>
    obtain ⟨l, hll⟩ : ∃ l, (numsO s).1 = l := ⟨_, rfl⟩
    have hls : numsO s = (l, 0) := by rw [← hll, ← hc]
    have HLS := Lib.hid hls
    have HFS := Lib.hid (nums_text hls)
    rw [hll, hc] at HNUM
    clear hc hll hls
    by_cases h3 : l.length < 3
    · have HC := Lib.hid (read_no HLS.out (fun _ h => by have := h.1; omega))
      obtain ⟨n, hn⟩ : ∃ n, l.length = n := ⟨_, rfl⟩
      rw [hn] at h3 HNUM
      have h3i : (n : Int) < 3 := by omega
      have HNN := Lib.hid hn
      clear h3 hn
      go_enter Try.func25, Try.ntmps25
      go_upto_region 2 with (go_at_call 33; ((with_reducible refine HNUM.out.mono ?_); rintro e W1 ⟨v1, rfl, h1, h2⟩; have HB1 := Lib.hid h2; rw [← HNN.out] at h1; obtain ⟨a1, k1, rfl, _⟩ := byt.own_rd h1; rw [HNN.out]; clear h1 h2))
      obtain ⟨M, hM⟩ : ∃ n, W1.heap.size = n := ⟨_, rfl⟩
      have HMM := Lib.hid hM
      have hy := Bx.new W1 0 0 (.slice none 0 0)
      have HYB := Lib.hid (below_made W1 (.cells #[.int .i64 0, .int .i64 0, .slice none 0 0] 29))
      obtain ⟨W2, hW2⟩ : ∃ W, W1.alloc (.cells #[.int .i64 0, .int .i64 0, .slice none 0 0] 29) = W := ⟨_, rfl⟩
      rw [hW2] at hy HYB
      rw [hM] at hy
      have HY := Lib.hid hy
      obtain ⟨⟨d0, d1, d2⟩, g0⟩ := hy.facts
      clear hy
      go_upto_region 3 with fail
      have HB3 : Hid (Below W0.heap.size W0 (setM W2 M 0 0 (.slice none 0 0))) := Lib.hid (below_setM (below_on' HB1.out HYB.out) (by have := HB1.out.size; omega) _ _ _)
      have HX3 : Hid (Bx (setM W2 M 0 0 (.slice none 0 0)) M 0 0 (.slice none 0 0)) := Lib.hid (HY.out.set _ _ _)
      have HON : Hid (∀ j, j < W1.heap.size → (setM W2 M 0 0 (.slice none 0 0)).heap[j]? = W1.heap[j]?) := Lib.hid (fun j hj => ((only_setM (B := 0) M 0 0 (.slice none 0 0)).block j (by have := HYB.out.size; omega) (by have := HMM.out; omega)).trans (HYB.out.block j hj))
      change Code.wp _ _ _ _ (setM W2 M 0 0 (.slice none 0 0))
      generalize setM W2 M 0 0 (.slice none 0 0) = W4 at HB3 HX3 HON ⊢
      obtain ⟨⟨k0, k1, k2⟩, kf⟩ := HX3.out.facts
      clear d0 d1 d2 g0 hW2 hM
      have HBZ := HB3
      obtain ⟨⟨c0, c1, c2⟩, f0⟩ := (HX.out _ HBZ.out).facts
      have HRZ := Lib.hid ((HX.out _ HBZ.out).set 0 0 (.slice none 0 0)).facts.1
      go_wp2_with fail
      obtain ⟨r0, r1, r2⟩ := HRZ.out
      unfold setM at r0 r1 r2
      refine bodyPost_ret (v := .tuple #[zeroV, .int .i64 21]) (by simp [results, Try.f25, go_sem, r0, r1, r2, zeroV]) rfl ?_
      exact HBAD.out _ HBZ.out HC.out
    · obtain ⟨x, y, z, t, rfl⟩ : ∃ x y z t, l = x :: y :: z :: t := three_of (by omega)
      obtain ⟨k, hk⟩ : ∃ k, t.length = k := ⟨_, rfl⟩
      obtain ⟨n, hn⟩ : ∃ n, (x :: y :: z :: t).length = n := ⟨_, rfl⟩
      have hnk : n = k + 3 := by rw [← hn]; simp [hk]
      have HNK := Lib.hid hnk
      have hn0 : (0 : Int) < (n : Int) := by omega
      have hm0 : 0 < n := by omega
      have hm1 : 1 < n := by omega
      have hn1' : (1 : Int) < (n : Int) := by omega
      have hn3'' : ¬ ((n : Int) < 3) := by omega
      rw [hn] at HNUM
      have HK := Lib.hid hk
      have HN3 := Lib.hid hn
      have hnl : (n : Int) ≤ 10000 := by have := HFS.out.2.2; have := HSS.out; omega
      clear h3 hn hk hnk
      go_enter Try.func25, Try.ntmps25
      go_upto_region 2 with (go_at_call 33; ((with_reducible refine HNUM.out.mono ?_); rintro e W1 ⟨v1, rfl, h1, h2⟩; have HB1 := Lib.hid h2; have HO1 := Lib.hid h1; clear h1 h2))
      obtain ⟨g, cap, cur, hv, hBg, hg, hn1, hn2, hn3, hn4⟩ : ∃ g cap cur, v1 = .slice (some ⟨g, 0, none⟩) n cap ∧ W0.heap.size ≤ g ∧ W1.heap[g]? = some (.cells cur 2 (0, 0)) ∧ n ≤ cap ∧ cap ≤ maxLen ∧ cur.size = cap * 1 ∧ cur.toList.take (n * 1) = (x :: y :: z :: t).map intV := by
        rcases HO1.out.2 with ⟨_, h⟩ | ⟨g, cap, cur, h1, h2, h3, h4, h5, h6, h7⟩
        · have := HNK.out; omega
        · exact ⟨g, cap, cur, h1, h2, h3, h4, h5, h6, h7⟩
      subst hv
      have hrl : Rl W1 g (x :: y :: z :: t) := ⟨cur, hg, fun j u hu => by
        have hj : j < n := by rw [← HN3.out]; exact (List.getElem?_eq_some_iff.1 hu).1
        have h5 : (cur.toList.take (n * 1))[j]? = ((x :: y :: z :: t).map intV)[j]? := by rw [hn4]
        rw [List.getElem?_take_of_lt (by omega), Array.getElem?_toList] at h5
        rw [h5, List.getElem?_map, hu]; rfl⟩
      have HRL := Lib.hid hrl
      clear hg hn3 hn4 hrl hBg hn1 hn2
      obtain ⟨M, hM⟩ : ∃ n, W1.heap.size = n := ⟨_, rfl⟩
      have HMM := Lib.hid hM
      have hy := Bx.new W1 0 0 (.slice none 0 0)
      have HYB := Lib.hid (below_made W1 (.cells #[.int .i64 0, .int .i64 0, .slice none 0 0] 29))
      obtain ⟨W2, hW2⟩ : ∃ W, W1.alloc (.cells #[.int .i64 0, .int .i64 0, .slice none 0 0] 29) = W := ⟨_, rfl⟩
      rw [hW2] at hy HYB
      rw [hM] at hy
      have HY := Lib.hid hy
      obtain ⟨⟨d0, d1, d2⟩, g0⟩ := hy.facts
      clear hy
      have hgM : g < M := by rw [← HMM.out]; exact HRL.out.lt
      have HGM := Lib.hid hgM
      clear hgM
      go_upto_region 3 with fail
      have HB3 : Hid (Below W0.heap.size W0 (setM W2 M 0 0 (.slice none 0 0))) := Lib.hid (below_setM (below_on' HB1.out HYB.out) (by have := HB1.out.size; omega) _ _ _)
      have HX3 : Hid (Bx (setM W2 M 0 0 (.slice none 0 0)) M 0 0 (.slice none 0 0)) := Lib.hid (HY.out.set _ _ _)
      have HON : Hid (∀ j, j < W1.heap.size → (setM W2 M 0 0 (.slice none 0 0)).heap[j]? = W1.heap[j]?) := Lib.hid (fun j hj => ((only_setM (B := 0) M 0 0 (.slice none 0 0)).block j (by have := HYB.out.size; omega) (by have := HMM.out; omega)).trans (HYB.out.block j hj))
      change Code.wp _ _ _ _ (setM W2 M 0 0 (.slice none 0 0))
      generalize setM W2 M 0 0 (.slice none 0 0) = W4 at HB3 HX3 HON ⊢
      clear d0 d1 d2 g0 hW2 hM
      have HR3 : Hid (Rl W4 g (x :: y :: z :: t)) := Lib.hid (HRL.out.keep (HON.out g (by have := HGM.out; have := HMM.out; omega)))
      obtain ⟨q, hq⟩ : ∃ q, k / 3 = q := ⟨_, rfl⟩
      have HTL : Hid ((triples t).length = q) := Lib.hid (by rw [triples_len, HK.out, hq])
      have HQK : Hid (3 * q ≤ k ∧ k < 3 * q + 3) := Lib.hid (by omega)
      have hq5 : (q : Int) ≤ 10000 := by have := HNK.out; omega
      have HQL : Hid (q ≤ 10000) := Lib.hid (by omega)
      clear hq
      go_wp2_with fail
      go_loopg [7] q (fun gg v7 wr => ∃ (i o' : Nat) (au : Option Addr) (cu : Nat), i + gg = q ∧ v7 = .int .i64 (o' : Nat) ∧ Hid (o' = 3 + 3 * i) ∧ Hid (Bx wr M 0 0 (.slice au i cu)) ∧ Hid (wr.ownsRow W0.heap.size 26 3 (.slice au i cu) i (cellsR ((triples t).take i))) ∧ Hid (Rl wr g (x :: y :: z :: t)) ∧ Hid (Below W0.heap.size W0 wr))
      case atStart => exact ⟨0, 3, none, 0, by omega, rfl, Lib.hid rfl, HX3, Lib.hid (World.ownsRow_nil _ _ _ _), HR3, HB3⟩
      case round =>
        clear HX3 HR3 HB3 HON
        obtain ⟨i, o', au, cu, hig, rfl, HOO, HBX, HOW, HRW, HBW⟩ := hrel
        cases gk with
        | zero =>
          have hiq : i = q := by omega
          subst hiq
          have hoz : ¬ ((o' : Int) + 2 < (n : Int)) := by have := HOO.out; have := HQK.out; have := HNK.out; omega
          have hob : (o' : Int) ≤ 100000 := by have := HOO.out; have := HQL.out; omega
          have how := HOW.out
          rw [List.take_of_length_le (by rw [HTL.out]; exact Nat.le_refl _)] at how
          have HSR := Lib.hid (Sr.own how).2
          have HOWN := Lib.hid how
          obtain ⟨⟨m0, m1, m2⟩, mf⟩ := HBX.out.facts
          have e0 := HRW.out.cell (j := 0) rfl
          have e1 := HRW.out.cell (j := 1) rfl
          have h1 : Bx (wr.setCell ⟨M, 0, none⟩ (.int .i64 x)) M x 0 (.slice au i cu) := HBX.out.set0 x
          have hr1 : Rl (wr.setCell ⟨M, 0, none⟩ (.int .i64 x)) g (x :: y :: z :: t) := HRW.out.keep ((Only.setCell wr M 0 _).block g HRW.out.lt (by have := HGM.out; omega))
          have e3 := hr1.cell (j := 1) rfl
          obtain ⟨⟨k0, k1, k2⟩, kf⟩ := h1.facts
          have hx5 : Bx ((wr.setCell ⟨M, 0, none⟩ (.int .i64 x)).setCell ⟨M, 1, none⟩ (.int .i64 y)) M x y (.slice au i cu) := h1.set1 y
          have hMW : W0.heap.size ≤ M := by have := HB1.out.size; have := HMM.out; omega
          have hb5 : Below W0.heap.size W0 ((wr.setCell ⟨M, 0, none⟩ (.int .i64 x)).setCell ⟨M, 1, none⟩ (.int .i64 y)) := (HBW.out.setCell (p := ⟨M, 0, none⟩) hMW _).setCell (p := ⟨M, 1, none⟩) hMW _
          have hs5 : Sr ((wr.setCell ⟨M, 0, none⟩ (.int .i64 x)).setCell ⟨M, 1, none⟩ (.int .i64 y)) (.slice au i cu) (triples t) :=
            HSR.out.msg ((Only.setCell wr M 0 _).then (Only.setCell _ M 1 _)) (HSR.out.ne_msg HBX.out)
          clear how h1 hr1 hMW HOWN HOW hig
          go_upto_region 11 with fail
          generalize (wr.setCell ⟨M, 0, none⟩ (.int .i64 x)).setCell ⟨M, 1, none⟩ (.int .i64 y) = W6 at hx5 hb5 hs5 ⊢
          have HX6 := Lib.hid hx5
          have HB6 := Lib.hid hb5
          have HS6 := Lib.hid hs5
          obtain ⟨⟨n0, n1, n2⟩, nf⟩ := hx5.facts
          have HBY := Lib.hid (rbytes_any (v := .agg #[.int .i64 x, .int .i64 y, .slice au i cu]) (m := readM (x :: y :: z :: t)) W6 ⟨_, rfl, hs5⟩ (readM_fits HFS.out.2.1 (by rw [HN3.out, HNK.out]; omega)) (by show (triples t).length ≤ _; rw [HTL.out]; have := HQL.out; omega))
          unfold BytesPost at HBY
          clear hx5 hb5 hs5 m0 m1 m2 mf e0 e1 e3 k0 k1 k2 kf
          obtain ⟨mm, hmm⟩ : ∃ mm, readM (x :: y :: z :: t) = mm := ⟨_, rfl⟩
          have HREF := Lib.hid (read_ref HLS.out (by rw [HN3.out, HNK.out]; omega) (by have := HSS.out; omega))
          rw [hmm] at HBY HREF
          have HMM2 := Lib.hid hmm
          clear hmm
          by_cases hmay : MayP mm
          · rw [if_pos (mayB_yes hmay)] at HBY
            obtain ⟨T, hT⟩ : ∃ T, txt (flat (numsM mm)) = T := ⟨_, rfl⟩
            rw [hT] at HBY HREF
            clear hT
            by_cases hTs : T = s
            · have HRY := Lib.hid (read_yes HLS.out (HREF.out.1 ⟨hmay, hTs⟩))
              rw [HMM2.out] at HRY
              subst hTs
              clear hmay
              go_upto_region 14 with (go_at_call 22; ((with_reducible refine HBY.out.mono ?_); rintro e W7 ⟨rfl, h1⟩; have HB7 := Lib.hid h1; have hx7 := HX6.out.below h1; obtain ⟨⟨p0, p1, p2⟩, pf⟩ := hx7.facts; have HW7 := Lib.hid (below_on' HB6.out h1); clear h1 hx7))
              obtain ⟨⟨c0, c1, c2⟩, f0⟩ := (HX.out _ HW7.out).facts
              have HRZ := Lib.hid ((HX.out _ HW7.out).set x y (.slice au i cu)).facts.1
              have hsr7 := HS6.out.below HB7.out
              have HSF : Hid (Sr (setM W7 N x y (.slice au i cu)) (.slice au i cu) (triples t)) := Lib.hid (hsr7.msg (only_setM (B := 0) N _ _ _) (hsr7.ne_msg (HX.out _ HW7.out)))
              have HBF : Hid (Below w.heap.size w (setM W7 N x y (.slice au i cu))) := Lib.hid (below_setM (below_on' HB0.out HW7.out) (by rw [hN]; exact Nat.le_refl _) _ _ _)
              clear hsr7
              go_wp2_with fail
              obtain ⟨r0, r1, r2⟩ := HRZ.out
              unfold setM at r0 r1 r2
              refine bodyPost_ret (v := .tuple #[.agg #[.int .i64 x, .int .i64 y, .slice au i cu], .int .i64 0]) (by simp [results, Try.f25, go_sem, r0, r1, r2]) rfl ?_
              exact ⟨_, by rw [HRY.out], by rw [HRY.out, ← HMM2.out]; exact ⟨_, rfl, HSF.out⟩, HBF.out⟩
            · have HC := Lib.hid (read_no HLS.out (fun _ h => hTs (HREF.out.2 h).2))
              have hstr := str_ne hTs
              clear hmay hTs
              go_upto_region 13 with (go_at_call 22; ((with_reducible refine HBY.out.mono ?_); rintro e W7 ⟨rfl, h1⟩; have HBZ := Lib.hid (below_on' HB6.out h1); clear h1))
              obtain ⟨⟨c0, c1, c2⟩, f0⟩ := (HX.out _ HBZ.out).facts
              have HRZ := Lib.hid ((HX.out _ HBZ.out).set 0 0 (.slice none 0 0)).facts.1
              go_wp2_with fail
              obtain ⟨r0, r1, r2⟩ := HRZ.out
              unfold setM at r0 r1 r2
              refine bodyPost_ret (v := .tuple #[zeroV, .int .i64 21]) (by simp [results, Try.f25, go_sem, r0, r1, r2, zeroV]) rfl ?_
              exact HBAD.out _ HBZ.out HC.out
          · rw [if_neg (by rw [mayB_no hmay]; simp)] at HBY
            have HC := Lib.hid (read_no HLS.out (fun _ h => hmay (HREF.out.2 h).1))
            clear hmay
            go_upto_region 13 with (go_at_call 22; ((with_reducible refine HBY.out.mono ?_); rintro e W7 ⟨rfl, h1⟩; have HBZ := Lib.hid (below_on' HB6.out h1); clear h1))
            obtain ⟨⟨c0, c1, c2⟩, f0⟩ := (HX.out _ HBZ.out).facts
            have HRZ := Lib.hid ((HX.out _ HBZ.out).set 0 0 (.slice none 0 0)).facts.1
            go_wp2_with fail
            obtain ⟨r0, r1, r2⟩ := HRZ.out
            unfold setM at r0 r1 r2
            refine bodyPost_ret (v := .tuple #[zeroV, .int .i64 21]) (by simp [results, Try.f25, go_sem, r0, r1, r2, zeroV]) rfl ?_
            exact HBAD.out _ HBZ.out HC.out
        | succ gg =>
          have hoz : (o' : Int) + 2 < (n : Int) := by have := HOO.out; have := HQK.out; have := HNK.out; omega
          have hoz1 : (o' : Int) + 1 < (n : Int) := by omega
          have hoz0 : (o' : Int) < (n : Int) := by omega
          have hop : (0 : Int) ≤ (o' : Int) := by omega
          have hon0 : o' < n := by omega
          have hob : (o' : Int) ≤ 100000 := by omega
          have hw1 : IntKind.i64.wrap ((o' : Int) + 1) = (o' : Int) + 1 := IntWalk.i64_in _ ⟨by omega, by omega⟩
          have hw2 : IntKind.i64.wrap ((o' : Int) + 2) = (o' : Int) + 2 := IntWalk.i64_in _ ⟨by omega, by omega⟩
          have hge1 : (0 : Int) ≤ (o' : Int) + 1 := by omega
          have hge2 : (0 : Int) ≤ (o' : Int) + 2 := by omega
          have htn1 : ((o' : Int) + 1).toNat = o' + 1 := by omega
          have htn2 : ((o' : Int) + 2).toNat = o' + 2 := by omega
          have hon1 : o' + 1 < n := by omega
          have hon2 : o' + 2 < n := by omega
          have hit : i < t.length / 3 := by have := HTL.out; rw [triples_len] at this; omega
          obtain ⟨p1, p2, p3, t1, t2, t3, t4⟩ := triples_get t i hit
          have hoo := HOO.out
          have e0 : wr.cell? ⟨g, o', none⟩ = some (.int .i64 p1) := by rw [hoo, show 3 + 3 * i = 3 * i + 1 + 1 + 1 by omega]; exact HRW.out.cell (by simpa using t1)
          have e1 : wr.cell? ⟨g, o' + 1, none⟩ = some (.int .i64 p2) := by rw [hoo, show 3 + 3 * i + 1 = (3 * i + 1) + 1 + 1 + 1 by omega]; exact HRW.out.cell (by simpa using t2)
          have e2 : wr.cell? ⟨g, o' + 2, none⟩ = some (.int .i64 p3) := by rw [hoo, show 3 + 3 * i + 2 = (3 * i + 2) + 1 + 1 + 1 by omega]; exact HRW.out.cell (by simpa using t3)
          obtain ⟨⟨-, -, m2⟩, mf⟩ := HBX.out.facts
          have hsz := HBW.out.size
          obtain ⟨v5, w5, hr5, ho5, hg5⟩ := app_rec wr.drew W0.heap.size (byt.own_below HOW.out ⟨rfl, rfl, rfl, Nat.le_refl _, fun _ _ => rfl⟩) (by have := HQL.out; omega) (p1, p2, p3) hsz 27
          have htk : (triples t).take i ++ [(p1, p2, p3)] = (triples t).take (i + 1) := by rw [List.take_add_one, t4]; rfl
          rw [htk] at ho5
          obtain ⟨a5, c5, hv5⟩ := (Sr.own ho5).2.len
          have hl5 := (Sr.own ho5).1
          rw [← hl5] at hv5
          subst hv5
          have hb4 : Below wr.heap.size wr (wr.drew.alloc (.cells #[.int .i64 p1, .int .i64 p2, .int .i64 p3] 26)) := ((Below.refl _ wr).drew).alloc (Nat.le_refl _) _
          have hoff : ∀ ob j, wr.heap[j]? = some ob → (∀ cur : Array Value, ob ≠ Obj.cells cur 26 (0, 0)) → w5.heap[j]? = some ob := fun ob j hj hno => by
            rw [hg5.block j (Nat.lt_of_lt_of_le (lt_of_get hj) hb4.size) (rec_off HOW.out hj hno), hb4.block j (lt_of_get hj)]
            exact hj
          have hx5 : Bx w5 M 0 0 (.slice au i cu) := hoff _ _ HBX.out (fun cur e => by cases e)
          have hrl5 : Rl w5 g (x :: y :: z :: t) := by
            obtain ⟨cr, h1, h2⟩ := HRW.out
            exact ⟨cr, hoff _ _ h1 (fun cur e => by cases e), h2⟩
          have hb5 : Below W0.heap.size W0 w5 := (HBW.out.trans (hb4.mono hsz)).grown hg5 (Nat.le_trans hsz hb4.size) (fun j hj => (HOW.out.lt j hj).1)
          have hMW : W0.heap.size ≤ M := by have := HB1.out.size; have := HMM.out; omega
          have HX6 : Hid (Bx (w5.setCell ⟨M, 2, none⟩ (.slice a5 (i + 1) c5)) M 0 0 (.slice a5 (i + 1) c5)) := Lib.hid (hx5.set2 _)
          have HB6 : Hid (Below W0.heap.size W0 (w5.setCell ⟨M, 2, none⟩ (.slice a5 (i + 1) c5))) := Lib.hid (hb5.setCell (p := ⟨M, 2, none⟩) hMW _)
          have HR6 : Hid (Rl (w5.setCell ⟨M, 2, none⟩ (.slice a5 (i + 1) c5)) g (x :: y :: z :: t)) := Lib.hid (hrl5.keep ((Only.setCell w5 M 2 _).block g hrl5.lt (by have := HGM.out; omega)))
          have HO6 : Hid ((w5.setCell ⟨M, 2, none⟩ (.slice a5 (i + 1) c5)).ownsRow W0.heap.size 26 3 (.slice a5 (i + 1) c5) (i + 1) (cellsR ((triples t).take (i + 1)))) := Lib.hid (rec_only ho5 (Only.setCell w5 M 2 _) (fun b hb e => rec_off ho5 hx5 (fun cur e => by cases e) (by rw [hb, e])))
          obtain ⟨⟨-, -, n2⟩, nf⟩ := hx5.facts
          have q0 : w5.cell? ⟨g, o', none⟩ = some (.int .i64 p1) := by rw [hoo, show 3 + 3 * i = 3 * i + 1 + 1 + 1 by omega]; exact hrl5.cell (by simpa using t1)
          have q1 : w5.cell? ⟨g, o' + 1, none⟩ = some (.int .i64 p2) := by rw [hoo, show 3 + 3 * i + 1 = (3 * i + 1) + 1 + 1 + 1 by omega]; exact hrl5.cell (by simpa using t2)
          have q2 : w5.cell? ⟨g, o' + 2, none⟩ = some (.int .i64 p3) := by rw [hoo, show 3 + 3 * i + 2 = (3 * i + 2) + 1 + 1 + 1 by omega]; exact hrl5.cell (by simpa using t3)
          have LP : (wr.drew.alloc (.cells #[.int .i64 p1, .int .i64 p2, .int .i64 p3] 26)).cell? ⟨M, 2, none⟩ = some (.slice au i cu) ∧ (wr.drew.alloc (.cells #[.int .i64 p1, .int .i64 p2, .int .i64 p3] 26)).cell? ⟨g, o', none⟩ = some (.int .i64 p1) ∧ (wr.drew.alloc (.cells #[.int .i64 p1, .int .i64 p2, .int .i64 p3] 26)).cell? ⟨g, o' + 1, none⟩ = some (.int .i64 p2) ∧ (wr.drew.alloc (.cells #[.int .i64 p1, .int .i64 p2, .int .i64 p3] 26)).cell? ⟨g, o' + 2, none⟩ = some (.int .i64 p3) := ⟨(hb4.cell (p := ⟨M, 2, none⟩) (World.block_lt_of_cell? wr _ m2)).trans m2, (hb4.cell (p := ⟨g, o', none⟩) (World.block_lt_of_cell? wr _ e0)).trans e0, (hb4.cell (p := ⟨g, o' + 1, none⟩) (World.block_lt_of_cell? wr _ e1)).trans e1, (hb4.cell (p := ⟨g, o' + 2, none⟩) (World.block_lt_of_cell? wr _ e2)).trans e2⟩
          have LQ : w5.cell? ⟨M, 2, none⟩ = some (.slice au i cu) ∧ w5.cell? ⟨g, o', none⟩ = some (.int .i64 p1) ∧ w5.cell? ⟨g, o' + 1, none⟩ = some (.int .i64 p2) ∧ w5.cell? ⟨g, o' + 2, none⟩ = some (.int .i64 p3) := ⟨n2, q0, q1, q2⟩
          have HR5 := Lib.hid hr5
          have HO2 : Hid (o' + 3 = 3 + 3 * (i + 1)) := Lib.hid (by omega)
          have HIG := Lib.hid hig
          clear hr5 ho5 hg5 hb4 hoff hx5 hrl5 hb5 hMW htk hl5 t1 t2 t3 t4 hit hoo hig q0 q1 q2 HOO hsz
          go_wp2_with fail
          refine dsk.wp_region_peel2 (by kernel_rfl) (by simp only [List.dropLast_cons_cons, List.dropLast_singleton]; exact rfl) rfl (by kernel_rfl) ?_
          refine wpAny_of_held (S := fun w' => w'.cell? ⟨M, 2, none⟩ = some (.slice au i cu) ∧ w'.cell? ⟨g, o', none⟩ = some (.int .i64 p1) ∧ w'.cell? ⟨g, o' + 1, none⟩ = some (.int .i64 p2) ∧ w'.cell? ⟨g, o' + 2, none⟩ = some (.int .i64 p3)) _ _ _ _ ?_
          have hHeld := (show wr.drew.cell? ⟨M, 2, none⟩ = some (.slice au i cu) ∧ wr.drew.cell? ⟨g, o', none⟩ = some (.int .i64 p1) ∧ wr.drew.cell? ⟨g, o' + 1, none⟩ = some (.int .i64 p2) ∧ wr.drew.cell? ⟨g, o' + 2, none⟩ = some (.int .i64 p3) from ⟨m2, e0, e1, e2⟩)
          refine wpAnyH_take (i := 0) (v := ?v1) rfl (by kernel_rfl) (by kernel_rfl) (by kernel_rfl) (fun _ _ _ h => h) (Or.inl ⟨by rfl, ?hy1⟩) (by assumption) ?rest1
          case hy1 => (intro w0 hSw; (try dsimp only at hSw); go_simp; try with_reducible rfl)
          try simp only [Act.put, List.getElem_toArray, List.getElem_cons_zero, List.getElem_cons_succ, List.setIfInBounds_toArray, List.set_cons_zero, List.set_cons_succ]
          refine wpAnyH_take (i := 1) (v := ?v2) rfl (by kernel_rfl) (by kernel_rfl) (by kernel_rfl) (fun _ _ _ h => h) (Or.inl ⟨by rfl, ?hy2⟩) (by assumption) ?rest2
          case hy2 => (intro w0 hSw; (try dsimp only at hSw); go_simp; try with_reducible rfl)
          try simp only [Act.put, List.getElem_toArray, List.getElem_cons_zero, List.getElem_cons_succ, List.setIfInBounds_toArray, List.set_cons_zero, List.set_cons_succ]
          refine wpAnyH_take (i := 2) (v := ?v3) rfl (by kernel_rfl) (by kernel_rfl) (by kernel_rfl) (fun _ _ _ h => h) (Or.inl ⟨by rfl, ?hy3⟩) (by assumption) ?rest3
          case hy3 => (intro w0 hSw; (try dsimp only at hSw); go_simp; try with_reducible rfl)
          try simp only [Act.put, List.getElem_toArray, List.getElem_cons_zero, List.getElem_cons_succ, List.setIfInBounds_toArray, List.set_cons_zero, List.set_cons_succ]
          refine wpAnyH_take (i := 3) (v := ?v4) rfl (by kernel_rfl) (by kernel_rfl) (by kernel_rfl) (fun _ _ _ h => h) (Or.inl ⟨by rfl, ?hy4⟩) (by assumption) ?rest4
          case hy4 => (intro w0 hSw; (try dsimp only at hSw); go_simp; try with_reducible rfl)
          try simp only [Act.put, List.getElem_toArray, List.getElem_cons_zero, List.getElem_cons_succ, List.setIfInBounds_toArray, List.set_cons_zero, List.set_cons_succ]
          refine wpAnyH_take (i := 4) (v := ?v5) rfl (by kernel_rfl) (by kernel_rfl) (by kernel_rfl) (fun _ _ _ h => h) (Or.inl ⟨by rfl, ?hy5⟩) (by assumption) ?rest5
          case hy5 => (intro w0 hSw; (try dsimp only at hSw); go_simp; try with_reducible rfl)
          try simp only [Act.put, List.getElem_toArray, List.getElem_cons_zero, List.getElem_cons_succ, List.setIfInBounds_toArray, List.set_cons_zero, List.set_cons_succ]
          refine wpAnyH_take (i := 5) (v := ?v6) rfl (by kernel_rfl) (by kernel_rfl) (by kernel_rfl) (fun _ _ _ h => h) (Or.inl ⟨by rfl, ?hy6⟩) (by assumption) ?rest6
          case hy6 => (intro w0 hSw; (try dsimp only at hSw); go_simp; try with_reducible rfl)
          try simp only [Act.put, List.getElem_toArray, List.getElem_cons_zero, List.getElem_cons_succ, List.setIfInBounds_toArray, List.set_cons_zero, List.set_cons_succ]
          refine wpAnyH_take (i := 6) (v := ?v7) rfl (by kernel_rfl) (by kernel_rfl) (by kernel_rfl) (fun _ _ _ h => h) (Or.inl ⟨by rfl, ?hy7⟩) (by assumption) ?rest7
          case hy7 => (intro w0 hSw; (try dsimp only at hSw); go_simp; try with_reducible rfl)
          try simp only [Act.put, List.getElem_toArray, List.getElem_cons_zero, List.getElem_cons_succ, List.setIfInBounds_toArray, List.set_cons_zero, List.set_cons_succ]
          refine wpAnyH_take (i := 7) (v := ?v8) rfl (by kernel_rfl) (by kernel_rfl) (by kernel_rfl) (fun _ _ _ h => h) (Or.inl ⟨by rfl, ?hy8⟩) (by assumption) ?rest8
          case hy8 => (intro w0 hSw; (try dsimp only at hSw); go_simp; try with_reducible rfl)
          try simp only [Act.put, List.getElem_toArray, List.getElem_cons_zero, List.getElem_cons_succ, List.setIfInBounds_toArray, List.set_cons_zero, List.set_cons_succ]
          refine wpAnyH_take (i := 8) (v := ?v9) rfl (by kernel_rfl) (by kernel_rfl) (by kernel_rfl) (fun _ _ _ h => h) (Or.inl ⟨by rfl, ?hy9⟩) (by assumption) ?rest9
          case hy9 => (intro w0 hSw; (try dsimp only at hSw); go_simp; try with_reducible rfl)
          try simp only [Act.put, List.getElem_toArray, List.getElem_cons_zero, List.getElem_cons_succ, List.setIfInBounds_toArray, List.set_cons_zero, List.set_cons_succ]
          refine wpAnyH_take (i := 9) (v := ?v10) rfl (by kernel_rfl) (by kernel_rfl) (by kernel_rfl) (fun _ _ _ h => h) (Or.inl ⟨by rfl, ?hy10⟩) (by assumption) ?rest10
          case hy10 => (intro w0 hSw; (try dsimp only at hSw); go_simp; try with_reducible rfl)
          try simp only [Act.put, List.getElem_toArray, List.getElem_cons_zero, List.getElem_cons_succ, List.setIfInBounds_toArray, List.set_cons_zero, List.set_cons_succ]
          refine wpAnyH_take (i := 10) (v := ?v11) rfl (by kernel_rfl) (by kernel_rfl) (by kernel_rfl) (fun _ _ _ h => h) (Or.inl ⟨by rfl, ?hy11⟩) (by assumption) ?rest11
          case hy11 => (intro w0 hSw; (try dsimp only at hSw); go_simp; try with_reducible rfl)
          try simp only [Act.put, List.getElem_toArray, List.getElem_cons_zero, List.getElem_cons_succ, List.setIfInBounds_toArray, List.set_cons_zero, List.set_cons_succ]
          refine wpAnyH_take (i := 11) (v := ?v12) rfl (by kernel_rfl) (by kernel_rfl) (by kernel_rfl) (fun _ _ _ h => h) (Or.inl ⟨by rfl, ?hy12⟩) (by assumption) ?rest12
          case hy12 => (intro w0 hSw; (try dsimp only at hSw); go_simp; try with_reducible rfl)
          try simp only [Act.put, List.getElem_toArray, List.getElem_cons_zero, List.getElem_cons_succ, List.setIfInBounds_toArray, List.set_cons_zero, List.set_cons_succ]
          refine wpAnyH_take (i := 12) (v := ?v13) rfl (by kernel_rfl) (by kernel_rfl) (by kernel_rfl) (fun _ _ _ h => h) (Or.inl ⟨by rfl, ?hy13⟩) (by assumption) ?rest13
          case hy13 => (intro w0 hSw; (try dsimp only at hSw); go_simp; try with_reducible rfl)
          try simp only [Act.put, List.getElem_toArray, List.getElem_cons_zero, List.getElem_cons_succ, List.setIfInBounds_toArray, List.set_cons_zero, List.set_cons_succ]
          refine wpAnyH_take (i := 13) (v := ?v14) rfl (by kernel_rfl) (by kernel_rfl) (by kernel_rfl) (fun _ _ _ h => h) (Or.inl ⟨by rfl, ?hy14⟩) (by assumption) ?rest14
          case hy14 => (intro w0 hSw; (try dsimp only at hSw); go_simp; try with_reducible rfl)
          try simp only [Act.put, List.getElem_toArray, List.getElem_cons_zero, List.getElem_cons_succ, List.setIfInBounds_toArray, List.set_cons_zero, List.set_cons_succ]
          refine wpAnyH_take (i := 14) (v := ?v15) rfl (by kernel_rfl) (by kernel_rfl) (by kernel_rfl) (fun _ _ _ h => h) (Or.inl ⟨by rfl, ?hy15⟩) (by assumption) ?rest15
          case hy15 => (intro w0 hSw; (try dsimp only at hSw); go_simp; try with_reducible rfl)
          try simp only [Act.put, List.getElem_toArray, List.getElem_cons_zero, List.getElem_cons_succ, List.setIfInBounds_toArray, List.set_cons_zero, List.set_cons_succ]
          refine wpAnyH_take (i := 15) (v := ?v16) rfl (by kernel_rfl) (by kernel_rfl) (by kernel_rfl) (fun _ _ _ h => h) (Or.inl ⟨by rfl, ?hy16⟩) (by assumption) ?rest16
          case hy16 => (intro w0 hSw; (try dsimp only at hSw); go_simp; try with_reducible rfl)
          try simp only [Act.put, List.getElem_toArray, List.getElem_cons_zero, List.getElem_cons_succ, List.setIfInBounds_toArray, List.set_cons_zero, List.set_cons_succ]
          refine wpAnyH_take (i := 16) (v := ?v17) rfl (by kernel_rfl) (by kernel_rfl) (by kernel_rfl) (fun _ _ _ h => h) (Or.inl ⟨by rfl, ?hy17⟩) (by assumption) ?rest17
          case hy17 => (intro w0 hSw; (try dsimp only at hSw); go_simp; try with_reducible rfl)
          try simp only [Act.put, List.getElem_toArray, List.getElem_cons_zero, List.getElem_cons_succ, List.setIfInBounds_toArray, List.set_cons_zero, List.set_cons_succ]
          refine wpAnyH_ready (rs := [17]) (by kernel_rfl) (by simp) ?_
          refine AllReadyH.cons rfl (fun KQ hKQ => ?_) AllReadyH.nil
          go_simp
          refine hKQ.out _ _ ?_ (fun hHeld => ?_)
          · exact LP
          clear hKQ KQ
          try simp only [Act.put, List.getElem_toArray, List.getElem_cons_zero, List.getElem_cons_succ, List.setIfInBounds_toArray, List.set_cons_zero, List.set_cons_succ]
          refine wpAnyH_ready (rs := [18]) (by kernel_rfl) (by simp) ?_
          refine AllReadyH.cons rfl (fun KQ hKQ => ?_) AllReadyH.nil
          refine step_app rfl (.tmp 31) (.tmp 47) 27 rfl rfl (by rfl) HR5.out ?_
          refine hKQ.out _ _ ?_ (fun hHeld => ?_)
          · exact LQ
          clear hKQ KQ
          try simp only [Act.put, List.getElem_toArray, List.getElem_cons_zero, List.getElem_cons_succ, List.setIfInBounds_toArray, List.set_cons_zero, List.set_cons_succ]
          refine wpAnyH_take (i := 19) (v := ?v18) rfl (by kernel_rfl) (by kernel_rfl) (by kernel_rfl) (fun _ _ _ h => h) (Or.inl ⟨by rfl, ?hy18⟩) (by assumption) ?rest18
          case hy18 => (intro w0 hSw; (try dsimp only at hSw); go_simp; try with_reducible rfl)
          try simp only [Act.put, List.getElem_toArray, List.getElem_cons_zero, List.getElem_cons_succ, List.setIfInBounds_toArray, List.set_cons_zero, List.set_cons_succ]
          refine wpAnyH_done (by kernel_rfl) ?_ _
          change wpList _ _ _ _ _ _
          clear LP LQ hHeld e0 e1 e2 m2 mf hw1 hw2 htn1 htn2
          go_wp2_with fail
          go_roundg gg
          case measure => omega
          case rel => exact ⟨i + 1, o' + 3, a5, c5, by have := HIG.out; omega, by go_num, HO2, HX6, HO6, HR6, HB6⟩
end Go.Proofs.Ytknldabnkaecdaa.pip
