/- What level answers: walked. -/
import Derived.Test.YtffhmbiamkbchaaDoorMVx
import Derived.Deep.DrawnRows
namespace Go.Proofs.YtffhmbiamkbchaaDoor.exp
set_option linter.unusedSimpArgs false
set_option linter.unusedVariables false
open Go.RowKit nam lex

set_option maxHeartbeats 1600000 in
set_option maxRecDepth 1000000 in
theorem level_any {S : Src} {f : List Tok → Out} {r K L m0 i sb cs : Nat} {zs : List ByteArray} {w : World} (hr : r < 5) (hent : ∀ args w, (callFunc K args).run Tryd.prog w = .ok (.enter K args) w)
    (hf : ∀ (w' : World) (i' : Nat), Rs S w' i' → (S.at i').length ≤ L → Calls Tryd.prog K #[ptr S.rb] w' (PPost S (f (S.at i')) w')) (hfl : ∀ l, Less l.length (f l)) (hs : Rs S w i) (hL : (S.at i).length ≤ L) (hm : m0 ≤ 400)
    (hz : zs = (sgs r).map textOf) (hsb : Sgs w sb zs) :
    Calls Tryd.prog 53 #[ptr S.rb, .func (.func K) #[ptr S.rb] #[], .int .i64 (m0 : Int), .slice (some ⟨sb, 0, none⟩) zs.length cs] w (PPost S (rowO f r m0 (S.at i)) w) := by
  obtain ⟨W, hW⟩ : ∃ W, w.alloc (.cells #[.int .u8 0, .int .i64 0, .slice none 0 0] 27) = W := ⟨_, rfl⟩
  obtain ⟨N0, hN0⟩ : ∃ N, w.heap.size = N := ⟨_, rfl⟩
  have hwb : Below w.heap.size w W := by rw [← hW]; exact (Below.refl _ _).alloc (Nat.le_refl _) _
  have hb0 : Bx W N0 0 0 none 0 0 := by rw [← hW]; exact heap_last hN0.symm
  have hsW := hs.under hwb
  have HF := Lib.hid (hf W i hsW hL)
  have HW := Lib.hid hwb; have HB0 := Lib.hid hb0; have HS := Lib.hid hs; have HSW := Lib.hid hsW; have HSB := Lib.hid hsb; have HZ := Lib.hid hz
  have HFF := Lib.hid hf; have HFL := Lib.hid hfl; have HLL := Lib.hid hL; have HN0 := Lib.hid hN0
  clear hwb hb0 hs hsW hsb hz hf hfl hL
  obtain ⟨O, hO⟩ : ∃ O, rowO f r m0 (S.at i) = O := ⟨_, rfl⟩
  rw [hO]
  have HO := Lib.hid hO; clear hO
  unfold ptr at *
  go_enter Tryd.func53, Tryd.ntmps53
  go_wp2_with fail
  refine HF.out.mono ?_
  rintro e w2 ⟨A, N, p, n, c, b, i2, rfl, hs2, ho2, ht2⟩
  have HS2 := Lib.hid hs2; have HO2 := Lib.hid ho2; have HT2 := Lib.hid ht2
  clear hs2 ho2 ht2
  go_wp2_with fail
  obtain ⟨N1, hN1⟩ : ∃ N, w2.heap.size = N := ⟨_, rfl⟩
  obtain ⟨w3, hw3⟩ : ∃ w3, w2.alloc (.cells #[.int .u8 A, .int .i64 N, .slice p n c] 27) = w3 := ⟨_, rfl⟩
  rw [hw3, hN1]
  have hO := HO.out
  have HLV : Hid (Lv S w f r L N0 N1 O m0 b w3 A N p n c i2) := Lib.hid (by
    have h23 : Below w2.heap.size w2 w3 := by rw [← hw3]; exact (Below.refl _ _).alloc (Nat.le_refl _) _
    have hWb := HW.out
    have hO2 := HO2.out
    have hsz := hWb.size
    have hsz2 := hO2.size
    have hWs : W.heap.size = N0 + 1 := by rw [← hW]; simp [HN0.out]
    refine ⟨((Only.of_below hWb).then hO2).then (Only.of_below h23), (HB0.out.only hO2 HSW.out).under h23, by rw [← hw3]; exact heap_last hN1.symm, HS2.out.under h23, fun hb => ?_, fun hb => ?_⟩
    · have ht := HT2.out
      unfold rowO at hO
      cases hfo : f (S.at i) with
      | bad l => rw [hfo] at ht; rw [ht.1] at hb; cases hb
      | ok x l =>
        rw [hfo] at ht hO
        obtain ⟨_, h1, h2, h3, h4, h5⟩ := ht
        have hless := HFL.out (S.at i)
        rw [hfo] at hless
        simp only [Less] at hless
        have hLL := HLL.out
        refine ⟨x, h1, h2, h3, (h4.here.mono fun k hk => ⟨by have := hk.1; unfold From at this; omega, by have := hk.1; unfold From at this; omega, by have := hk.2; omega⟩).under h23, by rw [h5]; exact hO, by rw [h5]; omega⟩
    · have ht := HT2.out
      unfold rowO at hO
      cases hfo : f (S.at i) with
      | bad l => rw [hfo] at ht hO; rw [ht.2]; exact hO.symm
      | ok x l => rw [hfo] at ht; rw [ht.1] at hb; cases hb)
  have HK := Lib.hid (And.intro hN1 hw3)
  have HN01 : Hid (N0 < N1) := Lib.hid (by have := HO2.out.size; have h2 : W.heap.size = N0 + 1 := by rw [← hW]; simp [HN0.out]
                                           omega)
  clear hO hN1 hw3 HT2 HO2 HS2
  go_loopg [2, 11, 12, 13] (m0 + 1) (fun g v2 v11 v12 v13 wr => ∃ (m : Nat) (b : Bool) (A N : Int) (p : Option Addr) (n c i : Nat), g = m + 1 ∧ m ≤ m0 ∧ v2 = .int .i64 (m : Int) ∧ v11 = .bool b ∧ Lv S w f r L N0 N1 O m b wr A N p n c i)
  case atStart => exact ⟨m0, b, A, N, p, n, c, i2, rfl, Nat.le_refl _, rfl, rfl, HLV.out⟩
  case round =>
    rename World => wr
    obtain ⟨m, b, A, N, p, n, c, i3, hg, hmm, rfl, rfl, hlv⟩ := hrel
    have HR := Lib.hid hlv; clear hlv
    have hN01 := HN01.out
    cases b with
    | false =>
      obtain ⟨a1, a2, a3, a4, a5, a6, b1, b2, b3⟩ := HR.out.cells
      have HP := Lib.hid (lv_end HR.out HN0.out hN01 (fun h => by cases h))
      go_wp2_with fail
      try rw [Exit.noGoto_ret]
      refine bodyPost_ret (v := .tuple #[.agg #[.int .u8 A, .int .i64 N, .slice p n c], .bool false]) (by simp [results, Tryd.f53, go_sem, a1, a2, a3]) rfl HP.out
    | true =>
      by_cases hm0 : m = 0
      · obtain ⟨a1, a2, a3, a4, a5, a6, b1, b2, b3⟩ := HR.out.cells
        have HP := Lib.hid (lv_end HR.out HN0.out hN01 (fun h => .inr hm0))
        have hmi : ¬ (m : Int) > 0 := by omega
        have HM := Lib.hid hm0; clear hm0
        go_wp2_with fail
        try rw [Exit.noGoto_ret]
        refine bodyPost_ret (v := .tuple #[.agg #[.int .u8 A, .int .i64 N, .slice p n c], .bool true]) (by simp [results, Tryd.f53, go_sem, a1, a2, a3]) rfl HP.out
      · have hmi : (m : Int) > 0 := by omega
        obtain ⟨X, hX⟩ : ∃ X, textOf (txt (S.at i3)) = X := ⟨_, rfl⟩
        have HX := Lib.hid hX; clear hX
        go_wp2_with fail
        refine (tok_txt HR.out.rs HX.out).mono ?_
        rintro e wa ⟨ta, tb, tc, rfl, hba⟩
        have HRA := Lib.hid (HR.out.under hba); clear hba
        have hft := field_txt
        go_wp2_with fail
        obtain ⟨bo, hbo⟩ : ∃ bo, decide (opAt r (txt (S.at i3)) ≠ 0) = bo := ⟨_, rfl⟩
        have HBO := Lib.hid hbo; clear hbo
        refine (sgn_txt hr HZ.out (HSB.out.only HRA.out.only HS.out) HRA.out.rs HX.out HBO.out).mono ?_
        rintro e wx ⟨rfl, rfl⟩
        cases bo with
        | false =>
          obtain ⟨a1, a2, a3, a4, a5, a6, b1, b2, b3⟩ := HRA.out.cells
          have HP := Lib.hid (lv_end HRA.out HN0.out hN01 (fun h => .inl (by have := HBO.out; simpa using this)))
          go_wp2_with fail
          try rw [Exit.noGoto_ret]
          refine bodyPost_ret (v := .tuple #[.agg #[.int .u8 A, .int .i64 N, .slice p n c], .bool true]) (by simp [results, Tryd.f53, go_sem, a1, a2, a3]) rfl HP.out
        | true =>
          have HOP : Hid (opAt r (txt (S.at i3)) ≠ 0) := Lib.hid (by have := HBO.out; simpa using this)
          go_wp2_with fail
          refine (tok_txt HRA.out.rs HX.out).mono ?_
          rintro e wb ⟨ta2, tb2, tc2, rfl, hbb⟩
          have HRB := Lib.hid (HRA.out.under hbb); clear hbb
          obtain ⟨o, ho⟩ : ∃ o, opAt r (txt (S.at i3)) = o := ⟨_, rfl⟩
          have HOO := Lib.hid ho; clear ho
          go_wp2_with fail
          refine (two_txt hr HOP.out HX.out HOO.out _).mono ?_
          rintro e wx ⟨rfl, rfl⟩
          obtain ⟨c0, c1, c2, cf⟩ := HRB.out.rs.cells
          have hi3 : (i3 : Int) < 400 := by have := at_lt (op_ne HOP.out); have := HRB.out.rs.few; omega
          obtain ⟨m', rfl⟩ : ∃ m', m = m' + 1 := ⟨m - 1, by omega⟩
          obtain ⟨N2, hN2⟩ : ∃ N2, wb.heap.size = N2 := ⟨_, rfl⟩
          obtain ⟨wd, hwd⟩ : ∃ wd, (wb.setCell ⟨S.rb, 1, none⟩ (.int .i64 ((i3 : Int) + 1))).alloc (.cells #[.int .u8 0, .int .i64 0, .slice none 0 0] 27) = wd := ⟨_, rfl⟩
          have HPRE := Lib.hid (Stp.pre HRB.out HOP.out hwd hN2)
          go_wp2_with fail
          refine (HFF.out wd (i3 + 1) HPRE.out.1 HPRE.out.2.1).mono ?_
          rintro e we ⟨A2, M2, p2, n2, c2, b2, i4, rfl, hs4, ho4, ht4⟩
          obtain ⟨wf, hwf⟩ : ∃ wf, exp.set3 we N2 A2 M2 p2 n2 c2 = wf := ⟨_, rfl⟩
          obtain ⟨N3, hN3⟩ : ∃ N3, wf.heap.size = N3 := ⟨_, rfl⟩
          obtain ⟨wg, hwg⟩ : ∃ wg, wf.alloc (.cells #[.int .u8 A, .int .i64 N, .slice p n c, .int .u8 A2, .int .i64 M2, .slice p2 n2 c2] 27) = wg := ⟨_, rfl⟩
          obtain ⟨e2, f1, f2, g1, hlv⟩ := lv_step HRB.out HOP.out HOO.out HN0.out hN01 HFL.out ⟨hwd, hN2, hs4, ho4, ht4⟩ hwf hN3 hwg
          have HNX := Lib.hid hlv
          obtain ⟨q0, q1, q2, q3, q4, q5⟩ := e2.cells
          obtain ⟨s0, s1, s2, _, _, _⟩ := f1.cells
          obtain ⟨t0, t1, t2, _, _, _⟩ := f2.cells
          obtain ⟨v0, v1, v2, v3, v4, v5⟩ := g1.cells
          unfold exp.set3 at hwf
          clear hlv hs4 ho4 ht4 e2 f1 f2 g1
          go_wp2_with fail
          go_roundg (m' + 1)
          case measure => omega
          case rel => exact ⟨m', b2, (o : Int), 0, _, 2, 2, i4, rfl, by omega, rfl, rfl, HNX.out⟩
end Go.Proofs.YtffhmbiamkbchaaDoor.exp
