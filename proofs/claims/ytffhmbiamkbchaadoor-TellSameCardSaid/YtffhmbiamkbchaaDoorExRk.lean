/- The reference's one at an 'if': walked. Written by tools/genIfRef.py. -/
import Derived.Test.YtffhmbiamkbchaaDoorExRi
import Derived.Test.YtffhmbiamkbchaaDoorMRg
namespace Go.Proofs.YtffhmbiamkbchaaDoor.exp
set_option linter.unusedSimpArgs false
set_option linter.unusedVariables false
open Go.RowKit nam lex

set_option maxHeartbeats 6400000 in
set_option maxRecDepth 1000000 in
theorem one_if_ref {S : Src} {f : List Tok → Out} {i : Nat} {w : World} (hf : Row0 S f (S.at i).length) (hs : Rt S w i (-1)) (hfl : ∀ l, Less l.length (f l)) (hif : txt (S.at i) = wIf) :
    Calls Tryd.prog 62 #[ptr S.rb] w (RPost S (oneP f (S.at i)) w) := by
  obtain ⟨W, hW⟩ : ∃ W, w.alloc (.cells #[.int .u8 0, .int .i64 0, .slice none 0 0] 27) = W := ⟨_, rfl⟩
  obtain ⟨N0, hN0⟩ : ∃ N, w.heap.size = N := ⟨_, rfl⟩
  have hwb : Below w.heap.size w W := by rw [← hW]; exact (Below.refl _ _).alloc (Nat.le_refl _) _
  have hbx : Bx W N0 0 0 none 0 0 := by rw [← hW]; exact heap_last hN0.symm
  obtain ⟨W2, hW2⟩ : ∃ W2, W.alloc (.cells #[.int .u8 0, .int .i64 0, .slice none 0 0] 27) = W2 := ⟨_, rfl⟩
  obtain ⟨N1, hN1⟩ : ∃ N, W.heap.size = N := ⟨_, rfl⟩
  have hwb2 : Below W.heap.size W W2 := by rw [← hW2]; exact (Below.refl _ _).alloc (Nat.le_refl _) _
  have hbx2 : Bx W2 N1 0 0 none 0 0 := by rw [← hW2]; exact heap_last hN1.symm
  have hne : N0 ≠ N1 := by have := hW ▸ hN1; rw [World.size_alloc] at this; omega
  obtain ⟨W3, hW3⟩ : ∃ W3, exp.set3 W2 N1 0 0 none 0 0 = W3 := ⟨_, rfl⟩
  have hwbb : Below w.heap.size w W3 := by
    rw [← hW3]
    exact only_none (set3_only (F := fun _ => False) (Only.of_below (hwb.trans (hwb2.mono hwb.size))) (b := N1) (A := 0) (N := 0) (p := none) (n := 0) (c := 0) (by have := hwb.size; omega)) (fun k h => h)
  have hb0 : Bx W3 N0 0 0 none 0 0 := by rw [← hW3]; exact (set3_other hne).trans (hbx.under hwb2)
  have hb1 : Bx W3 N1 0 0 none 0 0 := by rw [← hW3]; exact hbx2.set _ _ _ _ _
  have hs3 := hs.under hwbb
  obtain ⟨q0, q1, q2, q3, q4, q5⟩ := hbx2.cells
  obtain ⟨c0, c1, c2, c3, f1, f3⟩ := hs3.cells
  obtain ⟨a, cc, hv, ht⟩ := hs3.tok
  rw [hv] at c0
  have hv' := hv
  have hle := hs.le
  have hfew := hs.few
  have HB := Lib.hid hwbb; have HB0 := Lib.hid hb0; have HB1 := Lib.hid hb1; have HS := Lib.hid hs3; have HN := Lib.hid (Nat.le_of_eq hN0); have HF := Lib.hid hf; have HIF := Lib.hid hif
  obtain ⟨O, hOO⟩ : ∃ O, oneP f (S.at i) = O := ⟨_, rfl⟩
  rw [hOO]
  have HOO := Lib.hid hOO
  unfold exp.set3 at hW3
  clear hOO hs hs3 hwb hbx hwb2 hbx2 hwbb hb0 hb1 hf hne hif
  obtain ⟨nn, hnn⟩ : ∃ nn, S.toks.length = nn := ⟨_, rfl⟩
  have HK := Lib.hid hnn
  have hI0 := Lib.hid (isC (S := S) (i := i) (t := wrd 0) (okl (by decide)) (by decide) (T := ⟨#[107, 101, 121]⟩) rfl)
  have hI1 := Lib.hid (isC (S := S) (i := i) (t := wrd 1) (okl (by decide)) (by decide) (T := ⟨#[118, 97, 108]⟩) rfl)
  have hI2 := Lib.hid (isC (S := S) (i := i) (t := wrd 2) (okl (by decide)) (by decide) (T := ⟨#[97, 99, 99]⟩) rfl)
  have hI3 := Lib.hid (isC (S := S) (i := i) (t := [40]) (okl (by decide)) (by decide) (T := ⟨#[40]⟩) rfl)
  have hI4 := Lib.hid (isC (S := S) (i := i) (t := wIf) (okl (by decide)) (by decide) (T := ⟨#[105, 102]⟩) rfl)
  unfold ptr at *
  have hlt := at_lt (S := S) (i := i) (by rw [HIF.out]; decide)
  have HFL := Lib.hid hfl
  have hk2 : knd (S.at i) ≠ 2 := by
    intro h
    rw [at_cons hlt] at h
    have h2 := (HS.out.ok _ (List.getElem_mem hlt)).two h
    have h3 := HIF.out
    rw [at_cons hlt] at h3
    exact absurd (h2.symm.trans h3) (by decide)
  have HK2 := Lib.hid hk2
  obtain ⟨g, rfl, e0, e1, e2, e3⟩ := ht hlt
  have hkk : S.toks[i].kind ≠ 2 := by rw [at_cons hlt] at hk2; exact hk2
  have hkb : ((S.toks[i].kind : Int) == 2) = false := by simp; omega
  generalize S.toks[i].kind = ki at e0 hkb
  have HLT := Lib.hid hlt
  rw [hnn] at c0 hlt hfew
  have hin : (i : Int) < (nn : Int) := by omega
  clear ht hkk hv' hnn hv hle hk2 e1 e3 e2 hfl
  go_enter Tryd.func62, Tryd.ntmps62
  go_wp2_with fail
  go_quiet (fail)
  go_wp2_with fail
  have hq : Below W3.heap.size W3 (W3.drewN nq) := belowD (Below.refl _ _) nq
  have HSQ := Lib.hid (HS.out.under hq); have HB0Q := Lib.hid (HB0.out.under hq); have HB1Q := Lib.hid (HB1.out.under hq); have HBQ := Lib.hid (HB.out.trans (hq.mono HB.out.size))
  clear hq
  obtain ⟨N4, hN4⟩ : ∃ N, W3.heap.size = N := ⟨_, rfl⟩
  have hN4' : (W3.drewN nq).heap.size = N4 := hN4
  rw [hN4]
  generalize W3.drewN nq = Wq at HSQ HB0Q HB1Q HBQ hN4' ⊢
  obtain ⟨W4, hW4⟩ : ∃ W4, Wq.alloc (.cells #[.string ⟨#[107, 101, 121]⟩, .string ⟨#[118, 97, 108]⟩, .string ⟨#[97, 99, 99]⟩] 9) = W4 := ⟨_, rfl⟩
  have h4 : Below Wq.heap.size Wq W4 := by rw [← hW4]; exact (Below.refl _ _).alloc (Nat.le_refl _) _
  have HW4 : Hid (W4.heap[N4]? = some (.cells #[.string ⟨#[107, 101, 121]⟩, .string ⟨#[118, 97, 108]⟩, .string ⟨#[97, 99, 99]⟩] 9 (0, 0))) := by refine Lib.hid ?_; rw [← hW4]; exact heap_last hN4'.symm
  have HS4 := Lib.hid (HSQ.out.under h4); have HB04 := Lib.hid (HB0Q.out.under h4); have HB14 := Lib.hid (HB1Q.out.under h4); have HB4 := Lib.hid (HBQ.out.trans (h4.mono HBQ.out.size))
  rw [hW4]
  clear h4 hW4 hN4 hN4' HSQ HB0Q HB1Q HBQ
  go_loopg [5] 4 (fun g v5 wr => ∃ j : Nat, j ≤ 3 ∧ g + j = 4 ∧ v5 = .int .i64 (j : Int) ∧ Below W4.heap.size W4 wr ∧ NotYet S i j)
  case atStart => exact ⟨0, by omega, rfl, rfl, Below.refl _ _, fun k h => by omega⟩
  case round =>
    rename World => wr
    obtain ⟨j, hj, hg, rfl, hb, hny⟩ := hrel
    have HSR := Lib.hid (HS4.out.under hb); have HB0R := Lib.hid (HB04.out.under hb); have HB1R := Lib.hid (HB14.out.under hb); have HBR := Lib.hid (HB4.out.trans (hb.mono HB4.out.size))
    have hwr : wr.heap[N4]? = _ := (hb.block N4 (Array.getElem?_eq_some_iff.1 HW4.out).1).trans HW4.out
    have x0 : wr.cell? ⟨N4, 0, none⟩ = some (.string ⟨#[107, 101, 121]⟩) := cell_of hwr rfl
    have x1 : wr.cell? ⟨N4, 1, none⟩ = some (.string ⟨#[118, 97, 108]⟩) := cell_of hwr rfl
    have x2 : wr.cell? ⟨N4, 2, none⟩ = some (.string ⟨#[97, 99, 99]⟩) := cell_of hwr rfl
    have HNY := Lib.hid hny; have HBW := Lib.hid hb
    clear hb hwr hny
    rcases (show j = 0 ∨ j = 1 ∨ j = 2 ∨ j = 3 by omega) with rfl | rfl | rfl | rfl
    · have HI := Lib.hid (hI0.out wr HSR.out false (by rw [HIF.out]; decide))
      go_wp2_with fail
      refine HI.out.mono ?_
      rintro e w1 ⟨rfl, hb1⟩
      have HBN := Lib.hid (HBW.out.trans (hb1.mono HBW.out.size)); clear hb1
      go_wp2_with fail
      go_roundg (gk - 1)
      case measure => omega
      case rel => exact ⟨1, by omega, by omega, by go_num, HBN.out, fun k hk => by rw [HIF.out]; match k with | 0 => decide | 1 => decide | (k + 2) => exact (show wIf ≠ [97, 99, 99] from by decide)⟩
    · have HI := Lib.hid (hI1.out wr HSR.out false (by rw [HIF.out]; decide))
      go_wp2_with fail
      refine HI.out.mono ?_
      rintro e w1 ⟨rfl, hb1⟩
      have HBN := Lib.hid (HBW.out.trans (hb1.mono HBW.out.size)); clear hb1
      go_wp2_with fail
      go_roundg (gk - 1)
      case measure => omega
      case rel => exact ⟨2, by omega, by omega, by go_num, HBN.out, fun k hk => by rw [HIF.out]; match k with | 0 => decide | 1 => decide | (k + 2) => exact (show wIf ≠ [97, 99, 99] from by decide)⟩
    · have HI := Lib.hid (hI2.out wr HSR.out false (by rw [HIF.out]; decide))
      go_wp2_with fail
      refine HI.out.mono ?_
      rintro e w1 ⟨rfl, hb1⟩
      have HBN := Lib.hid (HBW.out.trans (hb1.mono HBW.out.size)); clear hb1
      go_wp2_with fail
      go_roundg (gk - 1)
      case measure => omega
      case rel => exact ⟨3, by omega, by omega, by go_num, HBN.out, fun k hk => by rw [HIF.out]; match k with | 0 => decide | 1 => decide | (k + 2) => exact (show wIf ≠ [97, 99, 99] from by decide)⟩
    · have HI := Lib.hid (hI3.out wr HSR.out false (by rw [HIF.out]; decide))
      go_wp2_with fail
      refine HI.out.mono ?_
      rintro e w0 ⟨rfl, hb0⟩
      have HR0 := Lib.hid (HSR.out.under hb0); have H0 := Lib.hid hb0
      have HJ := Lib.hid (hI4.out w0 HR0.out true (by rw [HIF.out]; decide))
      clear hb0
      go_wp2_with fail
      refine HJ.out.mono ?_
      rintro e w1 ⟨rfl, hb1'⟩
      have hb1 := H0.out.trans (hb1'.mono H0.out.size)
      have hr := HSR.out.under hb1
      obtain ⟨c0, c1, c2, c3, f1, f3⟩ := hr.cells
      have hi4 : (i : Int) < 400 := by have := HLT.out; have := hr.few; omega
      have hw1 : IntKind.i64.wrap ((i : Int) + 1) = (i : Int) + 1 := IntWalk.i64_in _ ⟨by omega, by omega⟩
      obtain ⟨wd, hwd⟩ : ∃ wd, w1.setCell ⟨S.rb, 1, none⟩ (.int .i64 ((i : Int) + 1)) = wd := ⟨_, rfl⟩
      have hod : Only (Mine S) w1 wd := by rw [← hwd]; exact Only.setCell _ _ _ _ rfl
      have HRD : Hid (Rt S wd (i + 1) (-1)) := by refine Lib.hid ?_; rw [← hwd]; exact hr.next HLT.out
      have HED := Lib.hid ((HB0R.out.under hb1).onlyT hod hr)
      have HOD := Lib.hid ((Only.of_below (HBR.out.trans (hb1.mono HBR.out.size))).then hod)
      have hsh : (S.at (i + 1)).length < (S.at i).length := by have := HLT.out; rw [at_len, at_len]; omega
      have HSH := Lib.hid hsh
      have HC := Lib.hid (HF.out wd (i + 1) HRD.out hsh)
      unfold ptr at HC
      clear hr hb1 hb1' hod hsh
      go_wp2_with fail
      refine HC.out.mono ?_
      rintro e w2 ⟨A1, M1, p1, n1, c1', b2, i2, rfl, r2, ho2, ht2⟩
      obtain ⟨N7, hN7⟩ : ∃ N, w2.heap.size = N := ⟨_, rfl⟩
      obtain ⟨w3, hw3⟩ : ∃ w3, w2.alloc (.cells #[.int .u8 A1, .int .i64 M1, .slice p1 n1 c1'] 27) = w3 := ⟨_, rfl⟩
      have h23 : Below w2.heap.size w2 w3 := by rw [← hw3]; exact (Below.refl _ _).alloc (Nat.le_refl _) _
      have HM := Lib.hid (must_both (t := wThen) (okl (by decide)) (by decide) (T := ⟨#[116, 104, 101, 110]⟩) rfl (r2.under h23) ht2.okb)
      have HL2 := Lib.hid (fun hb : b2 = -1 => Nat.lt_trans (ht2.len (HFL.out _) hb) HSH.out)
      unfold ptr at HM
      have HR2 := Lib.hid r2; have HO2 := Lib.hid ho2; have HT2 := Lib.hid ht2
      clear r2 ho2 ht2 h23
      go_wp2_with fail
      refine HM.out.mono ?_
      rintro e w4 ⟨b4, i4, rfl, r4, ok4, ho4, k1, k2, k3⟩
      have HB2 := Lib.hid (row0_both HF.out r4 ok4 (then_len HT2.out.okb HL2.out k1 k2 k3))
      have HL4 := Lib.hid (then_len HT2.out.okb HL2.out k1 k2 k3)
      unfold ptr at HB2
      have HR4 := Lib.hid r4; have HO4 := Lib.hid ho4; have HK1 := Lib.hid k1; have HK2' := Lib.hid k2; have HK3 := Lib.hid k3
      clear r4 ok4 ho4 k1 k2 k3
      go_wp2_with fail
      refine HB2.out.mono ?_
      rintro e w5 ⟨A2, M2, p2, n2, c2', b5, i5, rfl, r5, ok5, ho5, ht5, k5⟩
      obtain ⟨N8, hN8⟩ : ∃ N, w5.heap.size = N := ⟨_, rfl⟩
      obtain ⟨w6, hw6⟩ : ∃ w6, w5.alloc (.cells #[.int .u8 A2, .int .i64 M2, .slice p2 n2 c2'] 27) = w6 := ⟨_, rfl⟩
      have h56 : Below w5.heap.size w5 w6 := by rw [← hw6]; exact (Below.refl _ _).alloc (Nat.le_refl _) _
      have HM2 := Lib.hid (must_both (t := wElse) (okl (by decide)) (by decide) (T := ⟨#[101, 108, 115, 101]⟩) rfl (r5.under h56) ok5)
      have HL5 := Lib.hid (fun hb : b5 = -1 => show (S.at i5).length < (S.at i).length from by
        rcases (show b4 = -1 ∨ 0 ≤ b4 from by
          rcases HT2.out.okb with h | h
          · by_cases hx : txt (S.at i2) = wThen
            · exact .inl (HK1.out h hx).1
            · exact .inr (by have := HK2'.out h hx; omega)
          · exact .inr (by have := HK3.out h; omega)) with h | h
        · exact Nat.lt_trans ((ht5 h).len (HFL.out _) hb) (HL4.out h)
        · have := k5 h; omega)
      unfold ptr at HM2
      have HR5 := Lib.hid r5; have HO5 := Lib.hid ho5; have HT5 := Lib.hid ht5; have HK5 := Lib.hid k5; have HOK5 := Lib.hid ok5
      clear r5 ok5 ho5 ht5 k5 h56
      go_wp2_with fail
      refine HM2.out.mono ?_
      rintro e w7 ⟨b7, i7, rfl, r7, ok7, ho7, q1', q2', q3'⟩
      have HB3 := Lib.hid (row0_both HF.out r7 ok7 (then_len HOK5.out HL5.out q1' q2' q3'))
      unfold ptr at HB3
      have HR7 := Lib.hid r7; have HO7 := Lib.hid ho7; have HE1 := Lib.hid q1'; have HE2 := Lib.hid q2'; have HE3 := Lib.hid q3'
      clear r7 ok7 ho7 q1' q2' q3'
      go_wp2_with fail
      refine HB3.out.mono ?_
      rintro e w8 ⟨A3, M3, p3, n3, c3', b8, i8, rfl, r8, ok8, ho8, ht8, k8⟩
      obtain ⟨N9, hN9⟩ : ∃ N, w8.heap.size = N := ⟨_, rfl⟩
      obtain ⟨w9, hw9⟩ : ∃ w9, w8.alloc (.cells #[.int .u8 A3, .int .i64 M3, .slice p3 n3 c3'] 27) = w9 := ⟨_, rfl⟩
      obtain ⟨Ng, hNg⟩ : ∃ N, w9.heap.size = N := ⟨_, rfl⟩
      obtain ⟨wg, hwg⟩ : ∃ wg, w9.alloc (.cells #[.int .u8 A1, .int .i64 M1, .slice p1 n1 c1', .int .u8 A2, .int .i64 M2, .slice p2 n2 c2', .int .u8 A3, .int .i64 M3, .slice p3 n3 c3'] 27) = wg := ⟨_, rfl⟩
      obtain ⟨x7, x8, x9, eg, hp⟩ := if_ref HOD.out HN.out HED.out.lt HED.out HRD.out HR2.out HO2.out HT2.out hN7 hw3 HR4.out HO4.out HK1.out HK2'.out HK3.out HR5.out HO5.out HT5.out HK5.out hN8 hw6 HR7.out HO7.out HE1.out HE2.out HE3.out r8 ho8 ht8 k8 hN9 hw9 hNg hwg
      rw [← oneP_if (f := f) HK2.out HIF.out, HOO.out] at hp
      have HP := Lib.hid hp
      obtain ⟨a1, a2, a3, a4, a5, a6⟩ := eg.cells
      obtain ⟨s0, s1, s2, _⟩ := x7.cells
      obtain ⟨t0, t1, t2, _⟩ := x8.cells
      obtain ⟨v0, v1, v2, _⟩ := x9.cells
      clear x7 x8 x9 eg hp r8 ok8 ho8 ht8 k8
      go_wp2_with fail
      try rw [Exit.noGoto_ret]
      refine bodyPost_ret (v := .agg #[.int .u8 18, .int .i64 0, .slice (some ⟨Ng, 0, none⟩) 3 3]) (by simp [results, Tryd.f62, go_sem, a1, a2, a3]) rfl HP.out
end Go.Proofs.YtffhmbiamkbchaaDoor.exp
