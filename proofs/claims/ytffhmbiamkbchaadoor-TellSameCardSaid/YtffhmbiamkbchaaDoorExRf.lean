/- The reference's row: walked. -/
import Derived.Test.YtffhmbiamkbchaaDoorMRd
import Derived.StillTailTactics
namespace Go.Proofs.YtffhmbiamkbchaaDoor.exp
set_option linter.unusedSimpArgs false
set_option linter.unusedVariables false
open Go.RowKit nam lex

def Few (r m : Nat) (bd : Int) (len g : Nat) : Prop := bd < 0 → (r = 2 → m = 1) ∧ (r ≠ 2 → len ≤ m) ∧ len < g
set_option maxHeartbeats 3200000 in
set_option maxRecDepth 1000000 in
theorem row_ref {S : Src} {f : List Tok → Out} {r L i : Nat} {w : World} (hr : r < 5)
    (hf : ∀ (w' : World) (i' : Nat), Rt S w' i' (-1) → (S.at i').length ≤ L → Calls Tryd.prog 28 #[ptr S.rb, .int .i64 ((r : Int) + 1)] w' (RPost S (f (S.at i')) w')) (hfl : ∀ l, Less l.length (f l)) (hs : Rt S w i (-1)) (hL : (S.at i).length ≤ L) :
    Calls Tryd.prog 28 #[ptr S.rb, .int .i64 (r : Int)] w (RPost S (rowO f r (most r) (S.at i)) w) := by
  obtain ⟨W, hW⟩ : ∃ W, w.alloc (.cells #[.int .u8 0, .int .i64 0, .slice none 0 0] 27) = W := ⟨_, rfl⟩
  obtain ⟨N0, hN0⟩ : ∃ N, w.heap.size = N := ⟨_, rfl⟩
  have hwb : Below w.heap.size w W := by rw [← hW]; exact (Below.refl _ _).alloc (Nat.le_refl _) _
  have hb0 : Bx W N0 0 0 none 0 0 := by rw [← hW]; exact heap_last hN0.symm
  have hsW := hs.under hwb
  have HF := Lib.hid (hf W i hsW hL)
  have HW := Lib.hid hwb; have HB0 := Lib.hid hb0; have HS := Lib.hid hs; have HSW := Lib.hid hsW
  have HFF := Lib.hid hf; have HFL := Lib.hid hfl; have HLL := Lib.hid hL; have HN0 := Lib.hid hN0
  clear hwb hb0 hs hsW hf hfl hL
  obtain ⟨O, hO⟩ : ∃ O, rowO f r (most r) (S.at i) = O := ⟨_, rfl⟩
  rw [hO]
  have HO := Lib.hid hO; clear hO
  have hr5 : ((r : Int) == 5) = false := by simp; omega
  have hw1 : IntKind.i64.wrap ((r : Int) + 1) = (r : Int) + 1 := IntWalk.i64_in _ ⟨by omega, by omega⟩
  unfold ptr at *
  go_enter Tryd.func28, Tryd.ntmps28
  go_wp2_with fail
  refine HF.out.mono ?_
  rintro e w2 ⟨A, N, p, n, c, bd, i2, rfl, hs2, ho2, ht2⟩
  have HS2 := Lib.hid hs2; have HO2 := Lib.hid ho2; have HT2 := Lib.hid ht2
  clear hs2 ho2 ht2
  obtain ⟨N1, hN1⟩ : ∃ N, w2.heap.size = N := ⟨_, rfl⟩
  obtain ⟨w3, hw3⟩ : ∃ w3, w2.alloc (.cells #[.int .u8 A, .int .i64 N, .slice p n c] 27) = w3 := ⟨_, rfl⟩
  have HLV : Hid (Lr S w f r L N0 N1 O (most r) bd w3 A N p n c i2 ∧ Few r (most r) bd (S.at i2).length 401) := Lib.hid (by
    have hO := HO.out
    have h23 : Below w2.heap.size w2 w3 := by rw [← hw3]; exact (Below.refl _ _).alloc (Nat.le_refl _) _
    have hWb := HW.out
    have hO2 := HO2.out
    have hsz := hWb.size
    have hsz2 := hO2.size
    have hWs : W.heap.size = N0 + 1 := by rw [← hW]; simp [HN0.out]
    have hn0 := HN0.out
    have hlen2 : (S.at i2).length ≤ 400 := by rw [at_len]; have := HS.out.few; omega
    refine ⟨⟨((Only.of_below hWb).then hO2).then (Only.of_below h23), (HB0.out.onlyT hO2 HSW.out).under h23, by rw [← hw3]; exact heap_last hN1.symm, HS2.out.under h23, fun hb => ?_, fun hb => ?_⟩, fun hb => ⟨fun h2 => by rw [h2]; rfl, fun h2 => by unfold most; rw [if_neg h2]; exact hlen2, by omega⟩⟩
    · have ht := HT2.out
      unfold rowO at hO
      cases hfo : f (S.at i) with
      | bad l => rw [hfo] at ht; rw [show bd = _ from ht] at hb; omega
      | ok x l =>
        rw [hfo] at ht hO
        obtain ⟨h0, h1, h2, h3, h4, h5⟩ := ht
        have hless := HFL.out (S.at i)
        rw [hfo] at hless
        simp only [Less] at hless
        have hLL := HLL.out
        refine ⟨h0, x, h1, h2, h3, (h4.here.mono fun k hk => ⟨by have := hk.1; unfold From at this; omega, by have := hk.1; unfold From at this; omega, by have := hk.2; omega⟩).under h23, by rw [h5]; exact hO, by rw [h5]; omega⟩
    · have ht := HT2.out
      unfold rowO at hO
      cases hfo : f (S.at i) with
      | bad l => rw [hfo] at ht hO; exact ⟨l, hO.symm, ht⟩
      | ok x l => rw [hfo] at ht; rw [ht.1] at hb; exact absurd (by decide) hb)
  have HN01 : Hid (N0 < N1) := Lib.hid (by have := HO2.out.size; have h2 : W.heap.size = N0 + 1 := by rw [← hW]; simp [HN0.out]
                                           omega)
  clear HT2 HO2 HS2
  go_wp2_with fail
  go_loopg [6] 401 (fun g v6 wr => ∃ (m : Nat) (bd : Int) (A N : Int) (p : Option Addr) (n c i : Nat), Lr S w f r L N0 N1 O m bd wr A N p n c i ∧ Few r m bd (S.at i).length g)
  case atStart => exact ⟨most r, bd, A, N, p, n, c, i2, HLV.out⟩
  case round =>
    rename World => wr
    obtain ⟨m, bd, A, N, p, n, c, i3, hlv, hfew⟩ := hrel
    have HR := Lib.hid hlv; have HFW := Lib.hid hfew
    obtain ⟨c0, c1, c2, c3, f1, f3⟩ := hlv.rt.cells
    obtain ⟨a, cc, hv, ht⟩ := hlv.rt.tok
    rw [hv] at c0
    have hle := hlv.rt.le
    have hn400 := hlv.rt.few
    have HOK := Lib.hid hlv.rt.ok
    have hN01 := HN01.out
    clear hlv hfew
    obtain ⟨nn, hnn⟩ : ∃ nn, S.toks.length = nn := ⟨_, rfl⟩
    by_cases hb : bd < 0
    · by_cases hi : i3 < S.toks.length
      · obtain ⟨g, rfl, e0, e1, _⟩ := ht hi
        have hok := HOK.out S.toks[i3] (List.getElem_mem hi)
        have hA : txt (S.at i3) = S.toks[i3].text := by rw [at_cons hi]; rfl
        have hi4 : (i3 : Int) < 400 := by omega
        by_cases hk : S.toks[i3].kind = 3
        · have hk3 : ((S.toks[i3].kind : Int) == 3) = true := by simp [hk]
          obtain ⟨hbd, x, hx⟩ := HR.out.yes hb
          have HT : Hid (txt (S.at i3) = S.toks[i3].text) := Lib.hid hA
          have HOP := Lib.hid (fun w => op_any hok.ok r hr w)
          rw [← hA] at HOP e1
          obtain ⟨o, ho⟩ : ∃ o, opAt r (txt (S.at i3)) = o := ⟨_, rfl⟩
          rw [ho] at HOP
          have HOO := Lib.hid ho
          obtain ⟨X, hX⟩ : ∃ X, textOf (txt (S.at i3)) = X := ⟨_, rfl⟩
          rw [hX] at HOP e1
          generalize S.toks[i3].kind = ki at e0 hk3
          rw [hnn] at c0 hi
          have hin : (i3 : Int) < (nn : Int) := by omega
          have HH := Lib.hid hnn; have HBD := Lib.hid hbd
          clear ht hA hk hok hnn hv hle hn400 hbd hx ho hX
          go_wp2_with fail
          go_quiet (fail)
          go_wp2_with fail
          have HRQ : Hid (Lr S w f r L N0 N1 O m bd (wr.drewN nq) A N p n c i3) := Lib.hid (HR.out.under (belowD (Below.refl _ _) nq))
          generalize hwq : wr.drewN nq = wq at HRQ ⊢
          have d0 : wq.cell? ⟨S.rb, 0, none⟩ = some (.slice (some ⟨g, 0, none⟩) nn cc) := by rw [← hwq]; exact c0
          have d1 : wq.cell? ⟨S.rb, 1, none⟩ = some (.int .i64 (i3 : Int)) := by rw [← hwq]; exact c1
          have d2 : wq.cell? ⟨g, i3 * 4 + 1, none⟩ = some (.string X) := by rw [← hwq]; exact e1
          clear c0 c1 c2 c3 e0 e1 hwq
          go_still_tail 12, (by kernel_rfl)
          change wpList _ _ _ _ _ wq.drew
          have HRP : Hid (Lr S w f r L N0 N1 O m bd wq.drew A N p n c i3) := Lib.hid (HRQ.out.under ⟨rfl, rfl, rfl, Nat.le_refl _, fun _ _ => rfl⟩)
          clear d0 d1 d2
          generalize wq.drew = wp at HRP ⊢
          go_wp2_with fail
          refine (HOP.out _).mono ?_
          rintro e wx ⟨rfl, hbx⟩
          have HRX := Lib.hid (HRP.out.under hbx)
          clear hbx HRP HRQ
          have hlx := HRX.out
          obtain ⟨a1, a2, a3, a4, a5, a6, b1, b2, b3⟩ := hlx.cells
          obtain ⟨c0, c1, c2, c3, f1, f3⟩ := hlx.rt.cells
          clear hlx
          by_cases ho0 : o = 0
          · have HP := Lib.hid (lr_end HRX.out HN0.out hN01 (fun _ => .inl (HOO.out.trans ho0)))
            subst ho0
            go_wp2_with fail
            refine bodyPost_ret (v := .agg #[.int .u8 A, .int .i64 N, .slice p n c]) (by simp [results, Tryd.f28, go_sem, a1, a2, a3]) rfl HP.out
          · have hob : ((o : Int) == 0) = false := by simp; omega
            have HOP2 : Hid (opAt r (txt (S.at i3)) ≠ 0) := Lib.hid (by rw [HOO.out]; exact ho0)
            have hw2 : IntKind.i64.wrap ((i3 : Int) + 1) = (i3 : Int) + 1 := IntWalk.i64_in _ ⟨by omega, by omega⟩
            have hmp : ∃ m', m = m' + 1 := by
              obtain ⟨k1, k2, k3⟩ := HFW.out hb
              by_cases hr2 : r = 2
              · exact ⟨0, k1 hr2⟩
              · have := k2 hr2
                rw [at_len] at this
                have := HH.out
                exact ⟨m - 1, by omega⟩
            obtain ⟨m', rfl⟩ := hmp
            have hbd := HBD.out
            subst hbd
            obtain ⟨wd, hwd⟩ : ∃ wd, wx.setCell ⟨S.rb, 1, none⟩ (.int .i64 ((i3 : Int) + 1)) = wd := ⟨_, rfl⟩
            have HPRE := Lib.hid (Lr.pre HRX.out HOP2.out hwd)
            clear ho0
            go_wp2_with fail
            refine (HFF.out wd (i3 + 1) HPRE.out.1 (Nat.le_of_lt HPRE.out.2.1)).mono ?_
            rintro e we ⟨A2, M2, p2, n2, c2, b2', i4, rfl, hs4, ho4, ht4⟩
            obtain ⟨N2, hN2⟩ : ∃ N2, we.heap.size = N2 := ⟨_, rfl⟩
            obtain ⟨wf, hwf⟩ : ∃ wf, we.alloc (.cells #[.int .u8 A2, .int .i64 M2, .slice p2 n2 c2] 27) = wf := ⟨_, rfl⟩
            obtain ⟨N3, hN3⟩ : ∃ N3, wf.heap.size = N3 := ⟨_, rfl⟩
            obtain ⟨wg, hwg⟩ : ∃ wg, wf.alloc (.cells #[.int .u8 A, .int .i64 N, .slice p n c, .int .u8 A2, .int .i64 M2, .slice p2 n2 c2] 27) = wg := ⟨_, rfl⟩
            obtain ⟨f1, f2, g1, hlv, hshort⟩ := lr_step HRX.out HOP2.out HOO.out HN0.out hN01 HFL.out ⟨hwd, hs4, ho4, ht4⟩ hN2 hwf hN3 hwg
            have HNX := Lib.hid hlv
            obtain ⟨s0, s1, s2, _, _, _⟩ := f1.cells
            obtain ⟨t0, t1, t2, _, _, _⟩ := f2.cells
            obtain ⟨v0, v1, v2, v3, v4, v5⟩ := g1.cells
            have HSH := Lib.hid hshort
            obtain ⟨wh, hwh⟩ : ∃ wh, exp.set3 wg N1 (o : Int) 0 (some ⟨N3, 0, none⟩) 2 2 = wh := ⟨_, rfl⟩
            rw [hwh] at hlv HNX
            obtain ⟨a1, a2, a3, a4, a5, a6, b1, b2, b3⟩ := hlv.cells
            unfold exp.set3 at hwh
            clear hlv hs4 ho4 ht4 f1 f2 g1 hshort
            by_cases hr2 : r = 2
            · have HP := Lib.hid (lr_end HNX.out HN0.out hN01 (fun _ => .inr (by have := (HFW.out hb).1 hr2; omega)))
              have hq2 : ((r : Int) == 2) = true := by simp [hr2]
              clear hr2
              go_wp2_with fail
              refine bodyPost_ret (v := .agg #[.int .u8 (o : Int), .int .i64 0, .slice (some ⟨N3, 0, none⟩) 2 2]) (by simp [results, Tryd.f28, go_sem, a1, a2, a3]) rfl HP.out
            · have hq2 : ((r : Int) == 2) = false := by simp; omega
              have HR2 := Lib.hid hr2
              clear hr2
              go_wp2_with fail
              go_roundg (gk - 1)
              case measure => have := (HFW.out (by decide)).2.2; omega
              case rel => exact ⟨m', b2', (o : Int), 0, _, 2, 2, i4, HNX.out, fun h2 => ⟨fun h => absurd h HR2.out, fun h => by have h1 := (HFW.out (by decide)).2.1 h; have := HSH.out h2; omega, by have h1 := (HFW.out (by decide)).2.2; have := HSH.out h2; omega⟩⟩
        · have HZ : Hid (opAt r (txt (S.at i3)) = 0) := Lib.hid (by rw [hA]; exact op_kind hok hk r)
          have hk3 : ((S.toks[i3].kind : Int) == 3) = false := by simp; omega
          generalize S.toks[i3] = u at e0 e1 hok hk3
          rw [hnn] at c0 hi
          have hin : (i3 : Int) < (nn : Int) := by omega
          have HH := Lib.hid hnn
          clear ht hA hk hok hnn hv hle hn400
          obtain ⟨a1, a2, a3, a4, a5, a6, b1, b2, b3⟩ := HR.out.cells
          have HP := Lib.hid (fun q => lr_end (HR.out.under (belowD (Below.refl _ _) q)) HN0.out hN01 (fun _ => .inl HZ.out))
          go_wp2_with fail
          go_quiet (fail)
          go_wp2_with fail
          refine bodyPost_ret (v := .agg #[.int .u8 A, .int .i64 N, .slice p n c]) (by simp [results, Tryd.f28, go_sem, a1, a2, a3]) rfl (HP.out _)
      · have HZ : Hid (opAt r (txt (S.at i3)) = 0) := Lib.hid (by rw [at_nil (by omega)]; exact opAt_nil r)
        rw [hnn] at c0 hi
        have hin : ¬ (i3 : Int) < (nn : Int) := by omega
        have HH := Lib.hid hnn
        clear ht hnn hv hle hn400
        obtain ⟨a1, a2, a3, a4, a5, a6, b1, b2, b3⟩ := HR.out.cells
        have HP := Lib.hid (fun q => lr_end (HR.out.under (belowD (Below.refl _ _) q)) HN0.out hN01 (fun _ => .inl HZ.out))
        go_wp2_with fail
        go_quiet (fail)
        go_wp2_with fail
        refine bodyPost_ret (v := .agg #[.int .u8 A, .int .i64 N, .slice p n c]) (by simp [results, Tryd.f28, go_sem, a1, a2, a3]) rfl (HP.out _)
    · have HNB := Lib.hid hb
      have hb0 : decide (bd < 0) = false := decide_eq_false hb
      have hb1' : 0 ≤ bd := by omega
      have hb2 : (bd < 0) = False := eq_false hb
      rw [hnn] at c0
      have HH := Lib.hid hnn
      clear ht hnn hv hle hn400
      obtain ⟨a1, a2, a3, a4, a5, a6, b1, b2, b3⟩ := HR.out.cells
      have HP := Lib.hid (fun q => lr_end (HR.out.under (belowD (Below.refl _ _) q)) HN0.out hN01 (fun h => absurd h HNB.out))
      go_wp2_with fail
      go_quiet (fail)
      go_wp2_with fail
      refine bodyPost_ret (v := .agg #[.int .u8 A, .int .i64 N, .slice p n c]) (by simp [results, Tryd.f28, go_sem, a1, a2, a3]) rfl (HP.out _)
end Go.Proofs.YtffhmbiamkbchaaDoor.exp
