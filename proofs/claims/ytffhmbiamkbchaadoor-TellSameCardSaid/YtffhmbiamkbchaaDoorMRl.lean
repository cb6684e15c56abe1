/- What each of the reference's rules answers. The reference's Parse: what it answers. The reference's Parse: walked. -/
import Derived.Test.YtffhmbiamkbchaaDoorExRk
import Derived.Test.YtffhmbiamkbchaaDoorExRf
import Derived.Test.YtffhmbiamkbchaaDoorMTt
import Derived.Test.YtffhmbiamkbchaaDoorMZc
import Derived.Test.YtffhmbiamkbchaaDoorExS
import Derived.Test.YtffhmbiamkbchaaDoorLxW
section
namespace Go.Proofs.YtffhmbiamkbchaaDoor.exp
set_option linter.unusedSimpArgs false
set_option linter.unusedVariables false
open Go.RowKit nam lex

theorem rref_any (S : Src) : ∀ (k : Nat) (i : Nat) (w : World), Rt S w i (-1) →
    (∀ r, r ≤ 5 → need r (S.at i) ≤ k → Calls Tryd.prog 28 #[ptr S.rb, .int .i64 (r : Int)] w (RPost S (par k r (S.at i)) w)) ∧
    (need 5 (S.at i) ≤ k → Calls Tryd.prog 47 #[ptr S.rb] w (RPost S (par k 5 (S.at i)) w)) ∧
    (need 6 (S.at i) ≤ k → Calls Tryd.prog 62 #[ptr S.rb] w (RPost S (par k 6 (S.at i)) w)) := by
  intro k
  induction k with
  | zero => exact fun i w hs => ⟨fun r hr hn => by unfold need at hn; omega, fun hn => by unfold need at hn; omega, fun hn => by unfold need at hn; omega⟩
  | succ k ih =>
    intro i w hs
    have hone : need 6 (S.at i) ≤ k + 1 → Calls Tryd.prog 62 #[ptr S.rb] w (RPost S (par (k + 1) 6 (S.at i)) w) := fun hn => by
      unfold need at hn
      have hf : Row0 S (par k 0) (S.at i).length := fun w' i' hs' hl => (ih i' w' hs').1 0 (by omega) (by unfold need; omega)
      rw [par_one]
      by_cases hif : txt (S.at i) = wIf
      · exact one_if_ref hf hs (fun l => par_less k 0 l) hif
      · exact one_ref hf hs hif
    have hun : ∀ (w : World), Rt S w i (-1) → need 5 (S.at i) ≤ k + 1 → Calls Tryd.prog 47 #[ptr S.rb] w (RPost S (par (k + 1) 5 (S.at i)) w) := fun w hs hn => by
      unfold need at hn
      rw [par_unary]
      exact unary_ref (f5 := par k 5) (f6 := par k 6) (fun w' i' hs' hl => (ih i' w' hs').2.1 (by unfold need; omega)) (fun w' i' hs' hl => (ih i' w' hs').2.2 (by unfold need; omega)) hs (Nat.le_refl _)
    refine ⟨fun r hr hn => ?_, hun w hs, hone⟩
    by_cases h5 : r = 5
    · subst h5
      exact row5_ref (fun w' hs' => hun w' hs' hn) hs
    · unfold need at hn
      rw [par_row k r _ (by omega)]
      exact row_ref (f := par k (r + 1)) (by omega) (fun w' i' hs' hl => by
        rw [show ((r : Int) + 1) = ((r + 1 : Nat) : Int) by omega]
        exact (ih i' w' hs').1 (r + 1) (by omega) (by unfold need; omega)) (fun l => par_less k (r + 1) l) hs (Nat.le_refl _)
end Go.Proofs.YtffhmbiamkbchaaDoor.exp
end
section
namespace Go.Proofs.YtffhmbiamkbchaaDoor.exp
set_option linter.unusedSimpArgs false
set_option linter.unusedVariables false
open Go.RowKit nam lex

theorem below_drewD {B : Nat} {a w : World} (h : Below B a w) : Below B a w.drew := ⟨h.os, h.tape, h.output, h.size, h.block⟩
/-- What is known at the call of the first rule. -/
structure Qa (s : ByteArray) (w : World) (N0 N1 : Nat) (S : Src) (w3 : World) : Prop where
  code : (toksO s).2.2 = 0
  below : Below w.heap.size w w3
  z : Bx w3 N0 0 0 none 0 0
  zn : Bx w3 N1 0 0 none 0 0
  n0 : w.heap.size = N0
  n1 : N0 < N1
  rs : Rt S w3 0 (-1)
  toks : S.toks = (toksO s).1
  en : S.en = (rn s 0).length
  rb : N1 < S.rb
theorem Qa.rule {s : ByteArray} {w : World} {N0 N1 : Nat} {S : Src} {w3 : World} (h : Qa s w N0 N1 S w3) : Calls Tryd.prog 28 #[ptr S.rb, .int .i64 0] w3 (RPost S (par 4000 0 (toksO s).1) w3) := by
  have h1 := (rref_any S 4000 0 w3 h.rs).1 0 (by omega) (by unfold need; rw [at_len]; have := h.rs.few; omega)
  have e : S.at 0 = (toksO s).1 := by unfold Src.at; rw [List.drop_zero]; exact h.toks
  rw [e] at h1
  exact h1
/-- What is known behind it. -/
structure Qb (s : ByteArray) (w : World) (N0 N1 N3 : Nat) (S : Src) (w5 : World) (A M : Int) (p : Option Addr) (n c : Nat) (bd : Int) (i : Nat) : Prop where
  code : (toksO s).2.2 = 0
  below : Below w.heap.size w w5
  z : Bx w5 N0 0 0 none 0 0
  zn : Bx w5 N1 0 0 none 0 0
  bx : Bx w5 N3 A M p n c
  n0 : w.heap.size = N0
  n1 : N0 < N1 ∧ N1 < S.rb ∧ S.rb < N3
  rs : Rt S w5 i bd
  tells : TR S (fun k => w.heap.size ≤ k ∧ k ≠ N0) (par 4000 0 (toksO s).1) w5 A M p n c bd i
  toks : S.toks = (toksO s).1
  en : S.en = (rn s 0).length
theorem Qb.of {s : ByteArray} {w : World} {N0 N1 N3 : Nat} {S : Src} {w3 w4 w5 : World} (h : Qa s w N0 N1 S w3) {A M bd : Int} {p : Option Addr} {n c i : Nat} (hr : Rt S w4 i bd) (ho : Only (Mine S) w3 w4) (ht : TR S (From w3) (par 4000 0 (toksO s).1) w4 A M p n c bd i)
    (hN3 : w4.heap.size = N3) (hw5 : w4.alloc (.cells #[.int .u8 A, .int .i64 M, .slice p n c] 27) = w5) : Qb s w N0 N1 N3 S w5 A M p n c bd i := by
  obtain ⟨o5, l5⟩ := alloc_only (F := Mine S) hw5
  have hn0 := h.n0; have hn1 := h.n1; have hrb := h.rb; have hlt := h.z.lt; have hz := ho.size; have hrl := hr.lt
  have hb := h.below.size
  refine ⟨h.code, h.below.trans ((ho.below h.below.size (fun k hk => by rw [show k = S.rb from hk]; omega)).trans (l5.mono (by omega))), (h.z.onlyT ho h.rs).under l5, (h.zn.onlyT ho h.rs).under l5, by rw [← hw5]; exact heap_last hN3.symm, hn0, ⟨hn1, hrb, by omega⟩, hr.under l5,
    (ht.keep hr o5).mono fun k hk => ?_, h.toks, h.en⟩
  have := hk.1
  unfold From at this
  omega
theorem Qb.wrong {s : ByteArray} {w : World} {N0 N1 N3 : Nat} {S : Src} {w5 : World} {A M bd : Int} {p : Option Addr} {n c i : Nat} (h : Qb s w N0 N1 N3 S w5 A M p n c bd i) (hb : ¬ bd < 0) : ∃ pl : Nat, bd = (pl : Int) ∧ parseO s = (Ex.zero, pl, 80) := by
  have ht := h.tells
  cases ho : par 4000 0 (toksO s).1 with
  | bad l => rw [ho] at ht; exact ⟨placeOf l S.en, ht, by rw [parseO_bad h.code ho, h.en]⟩
  | ok x l => rw [ho] at ht; rw [ht.1] at hb; exact absurd (by decide) hb
theorem Qb.more {s : ByteArray} {w : World} {N0 N1 N3 : Nat} {S : Src} {w5 : World} {A M bd : Int} {p : Option Addr} {n c i : Nat} (h : Qb s w N0 N1 N3 S w5 A M p n c bd i) (hb : bd < 0) (hi : i < S.toks.length) : bd = -1 ∧ parseO s = (Ex.zero, placeOf (S.at i) S.en, 80) := by
  have ht := h.tells
  cases ho : par 4000 0 (toksO s).1 with
  | bad l => rw [ho] at ht; rw [show bd = _ from ht] at hb; omega
  | ok x l =>
    rw [ho] at ht
    obtain ⟨t0, _, _, _, _, t5⟩ := ht
    have hl : l ≠ [] := by rw [← t5, at_cons hi]; simp
    exact ⟨t0, by rw [parseO_more h.code ho hl, t5, h.en]⟩
theorem Qb.good {s : ByteArray} {w : World} {N0 N1 N3 : Nat} {S : Src} {w5 : World} {A M bd : Int} {p : Option Addr} {n c i : Nat} (h : Qb s w N0 N1 N3 S w5 A M p n c bd i) (hb : bd < 0) (hi : ¬ i < S.toks.length) :
    bd = -1 ∧ ∃ x : Ex, par 4000 0 (toksO s).1 = .ok x [] ∧ A = (x.op : Int) ∧ M = x.n ∧ n = x.args.length ∧ Lies w5 (fun k => w.heap.size ≤ k ∧ k ≠ N0) (.slice p n c) x.args ∧ x.size ≤ 400 := by
  have ht := h.tells
  cases ho : par 4000 0 (toksO s).1 with
  | bad l => rw [ho] at ht; rw [show bd = _ from ht] at hb; omega
  | ok x l =>
    rw [ho] at ht
    obtain ⟨t0, t1, t2, t3, t4, t5⟩ := ht
    have hl : l = [] := by rw [← t5]; exact at_nil (by have := h.rs.le; omega)
    subst hl
    refine ⟨t0, x, rfl, t1, t2, t3, t4, ?_⟩
    have := (par_size ho).1
    have := (toks_ok s).2
    omega
end Go.Proofs.YtffhmbiamkbchaaDoor.exp
end
section
namespace Go.Proofs.YtffhmbiamkbchaaDoor.exp
set_option linter.unusedSimpArgs false
set_option linter.unusedVariables false
open Go.RowKit nam lex

theorem pa_none {w w' : World} {N0 p : Nat} {c : Int} {o : Ex × Nat × Int} (ho : o = (Ex.zero, p, c)) (hb : Below w.heap.size w w') (h0 : w.heap.size ≤ N0) : PaPost o w (.returned (.tuple #[.agg #[.int .u8 0, .int .i64 0, .slice none 0 0], .int .i64 (p : Int), .int .i64 c])) (set3 w' N0 0 0 none 0 0) := by
  rw [ho]; exact pa_zero hb h0
set_option maxHeartbeats 6400000 in
set_option maxRecDepth 1000000 in
theorem rparse_any (s : ByteArray) (w : World) : Calls Tryd.prog 14 #[.string s] w (PaPost (parseO s) w) := by
  obtain ⟨W, hW⟩ : ∃ W, w.alloc (.cells #[.int .u8 0, .int .i64 0, .slice none 0 0] 27) = W := ⟨_, rfl⟩
  obtain ⟨N0, hN0⟩ : ∃ N, w.heap.size = N := ⟨_, rfl⟩
  have hwb : Below w.heap.size w W := by rw [← hW]; exact (Below.refl _ _).alloc (Nat.le_refl _) _
  have hbx : Bx W N0 0 0 none 0 0 := by rw [← hW]; exact heap_last hN0.symm
  obtain ⟨W2, hW2⟩ : ∃ W2, W.alloc (.cells #[.int .u8 0, .int .i64 0, .slice none 0 0] 27) = W2 := ⟨_, rfl⟩
  obtain ⟨N1, hN1⟩ : ∃ N, W.heap.size = N := ⟨_, rfl⟩
  have hwb2 : Below W.heap.size W W2 := by rw [← hW2]; exact (Below.refl _ _).alloc (Nat.le_refl _) _
  have hbx2 : Bx W2 N1 0 0 none 0 0 := by rw [← hW2]; exact heap_last hN1.symm
  have hn01 : N0 < N1 := by have := hW ▸ hN1; rw [World.size_alloc] at this; omega
  have hne : N0 ≠ N1 := by omega
  obtain ⟨W3, hW3⟩ : ∃ W3, exp.set3 W2 N1 0 0 none 0 0 = W3 := ⟨_, rfl⟩
  have hwbb : Below w.heap.size w W3 := by
    rw [← hW3]
    exact only_none (set3_only (F := fun _ => False) (Only.of_below (hwb.trans (hwb2.mono hwb.size))) (b := N1) (A := 0) (N := 0) (p := none) (n := 0) (c := 0) (by have := hwb.size; omega)) (fun k h => h)
  have hb0 : Bx W3 N0 0 0 none 0 0 := by rw [← hW3]; exact (set3_other hne).trans (hbx.under hwb2)
  have hb1 : Bx W3 N1 0 0 none 0 0 := by rw [← hW3]; exact hbx2.set _ _ _ _ _
  obtain ⟨q0, q1, q2, q3, q4, q5⟩ := hbx2.cells
  have HB := Lib.hid hwbb; have HB0 := Lib.hid hb0; have HB1 := Lib.hid hb1; have HN := Lib.hid (Nat.le_of_eq hN0); have HN01 := Lib.hid hn01; have HNE := Lib.hid hN0
  unfold exp.set3 at hW3
  have HT := Lib.hid (ref_any s W3)
  unfold TokPost at HT
  obtain ⟨O, hO⟩ : ∃ O, parseO s = O := ⟨_, rfl⟩
  rw [hO]
  have HO := Lib.hid hO
  obtain ⟨cd, hcd⟩ : ∃ cd, (toksO s).2.2 = cd := ⟨_, rfl⟩
  obtain ⟨pl, hpl⟩ : ∃ pl, (toksO s).2.1 = pl := ⟨_, rfl⟩
  rw [hcd, hpl] at HT
  clear hO hwb hbx hwb2 hbx2 hwbb hb0 hb1 hn01 hne
  by_cases hc : cd = 0
  · subst hc
    have HCD := Lib.hid hcd
    have hs400 : s.size ≤ 400 := by
      by_cases h : s.size ≤ 400
      · exact h
      · unfold toksO at hcd; rw [if_pos (by omega)] at hcd; simp at hcd
    have HR := Lib.hid (fun w => runes_read s w (by omega))
    obtain ⟨rc, hrc⟩ : ∃ rc, (runesAt s 0).length = rc := ⟨_, rfl⟩
    rw [hrc] at HR
    have HRC : Hid ((rn s 0).length = rc) := Lib.hid (by rw [rn_len, hrc])
    clear hcd hpl hrc hs400
    go_enter Tryd.func14, Tryd.ntmps14
    go_wp2_with fail
    refine HT.out.mono ?_
    rintro e w1 ⟨v, rfl, htk, hb1⟩
    obtain ⟨av, cv, rfl, _⟩ := toks_form htk
    obtain ⟨nv, hnv⟩ : ∃ n, (toksO s).1.length = n := ⟨_, rfl⟩
    rw [hnv] at htk ⊢
    have HTK := Lib.hid htk; have HB2 := Lib.hid hb1; have HNV := Lib.hid hnv
    clear htk hb1 hnv
    go_wp2_with fail
    refine (HR.out _).mono ?_
    rintro e w2 ⟨a1, k1, a2, k2, rfl, hb2, _⟩
    have HB3 := Lib.hid hb2
    clear hb2
    obtain ⟨N2, hN2⟩ : ∃ N2, w2.heap.size = N2 := ⟨_, rfl⟩
    obtain ⟨w3, hw3⟩ : ∃ w3, w2.alloc (.cells #[.slice av nv cv, .int .i64 0, .int .i64 (rc : Int), .int .i64 (-1)] 63) = w3 := ⟨_, rfl⟩
    have HQA : Hid (Qa s w N0 N1 ⟨W3.heap.size, .slice av nv cv, (toksO s).1, rc, N2⟩ w3) := Lib.hid (by
      obtain ⟨_, l3⟩ := alloc_only (F := fun _ => False) hw3
      have l13 : Below w1.heap.size w1 w3 := HB3.out.trans (l3.mono HB3.out.size)
      have lW : Below W3.heap.size W3 w3 := HB2.out.trans (l13.mono HB2.out.size)
      have z1 := HB1.out.lt; have z2 := HB2.out.size; have z3 := HB3.out.size
      exact ⟨HCD.out, HB.out.trans (lW.mono HB.out.size), HB0.out.under lW, HB1.out.under lW, HNE.out, HN01.out, ⟨toks_below HTK.out l13, by rw [← hw3]; exact heap_last hN2.symm, Nat.zero_le _, (toks_ok s).2, (toks_ok s).1⟩, rfl, HRC.out.symm, by show N1 < N2; omega⟩)
    have HRU := Lib.hid HQA.out.rule
    unfold ptr at HRU
    go_wp2_with fail
    refine HRU.out.mono ?_
    rintro e w4 ⟨A, M, p, n, c, bd, i, rfl, hr4, ho4, ht4⟩
    obtain ⟨N3, hN3⟩ : ∃ N, w4.heap.size = N := ⟨_, rfl⟩
    obtain ⟨w5, hw5⟩ : ∃ w5, w4.alloc (.cells #[.int .u8 A, .int .i64 M, .slice p n c] 27) = w5 := ⟨_, rfl⟩
    have HQB := Lib.hid (Qb.of HQA.out hr4 ho4 ht4 hN3 hw5)
    clear hr4 ho4 ht4
    obtain ⟨a1, a2, a3, a4, a5, a6⟩ := HQB.out.z.cells
    obtain ⟨z0, z1, z2, _⟩ := HQB.out.zn.cells
    obtain ⟨x0, x1, x2, _⟩ := HQB.out.bx.cells
    obtain ⟨c0, c1, c2, c3, f1, f3⟩ := HQB.out.rs.cells
    have hilen := HQB.out.rs.le
    have hn400 := HQB.out.rs.few
    dsimp only at c0 c1 c2 c3 f1 f3 hilen hn400
    rw [HNV.out] at hilen hn400
    have hnd := HQB.out.n1
    dsimp only at hnd
    have hn02 : N0 ≠ N2 := by omega
    have hn20 : N2 ≠ N0 := by omega
    have hn01' : N0 ≠ N1 := by omega
    have hn10' : N1 ≠ N0 := by omega
    clear hnd
    by_cases hb : bd < 0
    · by_cases hi : i < nv
      · obtain ⟨rfl, he⟩ := HQB.out.more hb (by show i < (toksO s).1.length; rw [HNV.out]; exact hi)
        obtain ⟨pq, hpq⟩ : ∃ pq, placeOf ((⟨W3.heap.size, .slice av nv cv, (toksO s).1, rc, N2⟩ : Src).at i) rc = pq := ⟨_, rfl⟩
        have HPO : Hid (O = (Ex.zero, pq, 80)) := Lib.hid (by rw [← HO.out, he, ← hpq])
        have hin : (i : Int) < (nv : Int) := by omega
        have HA := Lib.hid (ref_at HQB.out.rs)
        unfold ptr at HA
        simp only [hpq] at HA
        clear he hpq hb
        go_wp2_with fail
        refine HA.out.mono ?_
        rintro e w6 ⟨rfl, hb6⟩
        obtain ⟨a1, a2, a3, a4, a5, a6⟩ := (HQB.out.z.under hb6).cells
        obtain ⟨z0, z1, z2, _⟩ := (HQB.out.zn.under hb6).cells
        obtain ⟨c0, c1, c2, c3, f1, f3⟩ := (HQB.out.rs.under hb6).cells
        dsimp only at c0 c1 c2 c3 f1 f3
        have hp0 : (pq : Int) ≥ 0 := by omega
        have hbw : Below w.heap.size w w6 := HQB.out.below.trans (hb6.mono HQB.out.below.size)
        obtain ⟨wd, hwd⟩ : ∃ wd, w6.setCell ⟨N2, 3, none⟩ (.int .i64 (pq : Int)) = wd := ⟨_, rfl⟩
        have hbd : Below w.heap.size w wd := by rw [← hwd]; exact hbw.setCell (by have := HQB.out.n1; have := HQB.out.n0; dsimp only at *; omega) _
        have hrw : Rt ⟨W3.heap.size, .slice av nv cv, (toksO s).1, rc, N2⟩ wd i (pq : Int) := by rw [← hwd]; exact (HQB.out.rs.under hb6).wrong _
        have hod : Only (Mine ⟨W3.heap.size, .slice av nv cv, (toksO s).1, rc, N2⟩) w6 wd := by rw [← hwd]; exact Only.setCell _ _ _ _ rfl
        have hzd := (HQB.out.z.under hb6).onlyT hod (HQB.out.rs.under hb6)
        have hznd := (HQB.out.zn.under hb6).onlyT hod (HQB.out.rs.under hb6)
        have HP : Hid (∀ w7 : World, w7.heap = (set3 wd N0 0 0 none 0 0).heap → w7.os = wd.os → w7.tape = wd.tape → w7.output = wd.output → PaPost O w (.returned (.tuple #[.agg #[.int .u8 0, .int .i64 0, .slice none 0 0], .int .i64 (pq : Int), .int .i64 80])) w7) := Lib.hid (by
          intro w7 e1 e2 e3 e4
          have h := pa_none HPO.out hbd HN.out
          obtain ⟨a, c, h1, h2, h3⟩ := h
          have hk : Below (set3 wd N0 0 0 none 0 0).heap.size (set3 wd N0 0 0 none 0 0) w7 := ⟨e2, e3, e4, by rw [e1]; exact Nat.le_refl _, fun k hk => by rw [e1]⟩
          exact ⟨a, c, h1, h2.under hk, h3.trans (hk.mono h3.size)⟩)
        obtain ⟨d1, d2, d3, d4, d5, d6⟩ := hzd.cells
        obtain ⟨v0, v1, v2, _⟩ := hznd.cells
        obtain ⟨g0, g1, g2, g3, _⟩ := hrw.cells
        dsimp only at g0 g1 g2 g3
        clear hb6 hbw hbd hrw hod hzd hznd
        go_wp2_with fail
        go_region
        all_goals (go_wp2_with fail; refine bodyPost_ret (v := .tuple #[.agg #[.int .u8 0, .int .i64 0, .slice none 0 0], .int .i64 (pq : Int), .int .i64 80]) (by simp [results, Tryd.f14, go_sem, d1, d2, d3]) rfl (HP.out _ rfl rfl rfl rfl))
      · obtain ⟨rfl, x, hp, rfl, rfl, rfl, hL, hsz⟩ := HQB.out.good hb (by show ¬ i < (toksO s).1.length; rw [HNV.out]; exact hi)
        have hin : ¬ (i : Int) < (nv : Int) := by omega
        have HD := Lib.hid (rdeep_any hL (by omega))
        unfold exV at HD
        have HL := Lib.hid hL; have HPAR := Lib.hid hp
        clear hp hL hb
        go_wp2_with fail
        refine HD.out.mono ?_
        rintro e w6 ⟨rfl, hb6⟩
        have hbw : Below w.heap.size w w6 := HQB.out.below.trans (hb6.mono HQB.out.below.size)
        obtain ⟨a1, a2, a3, a4, a5, a6⟩ := (HQB.out.z.under hb6).cells
        obtain ⟨z0, z1, z2, _⟩ := (HQB.out.zn.under hb6).cells
        obtain ⟨x0, x1, x2, _⟩ := (HQB.out.bx.under hb6).cells
        by_cases hd : 16 < x.dep
        · have HPO : Hid (O = (Ex.zero, 0, 81)) := Lib.hid (by rw [← HO.out]; unfold parseO; rw [if_neg (by simp [HCD.out]), HPAR.out]; simp only []; rw [if_pos hd])
          have hm : (min 17 x.dep : Nat) = 17 := by omega
          have HP := Lib.hid (pa_none HPO.out hbw HN.out)
          rw [hm]
          clear hb6 hbw hd hm
          go_wp2_with fail
          refine bodyPost_ret (v := .tuple #[.agg #[.int .u8 0, .int .i64 0, .slice none 0 0], .int .i64 0, .int .i64 81]) (by simp [results, Tryd.f14, go_sem, a1, a2, a3]) rfl HP.out
        · have HPO : Hid (O = (x, 0, 0)) := Lib.hid (by rw [← HO.out, parseO_ok HCD.out HPAR.out hd])
          obtain ⟨dd, hdd⟩ : ∃ dd : Int, ((min 17 x.dep : Nat) : Int) = dd := ⟨_, rfl⟩
          have hd16 : ¬ dd > 16 := by omega
          have HP : Hid (PaPost O w (.returned (.tuple #[.agg #[.int .u8 (x.op : Int), .int .i64 x.n, .slice p x.args.length c], .int .i64 0, .int .i64 0])) (set3 w6 N0 (x.op : Int) x.n p x.args.length c)) := Lib.hid (by
            rw [HPO.out]
            have hb7 := only_none (set3_only (F := fun _ => False) (Only.of_below hbw) (b := N0) (A := (x.op : Int)) (N := x.n) (p := p) (n := x.args.length) (c := c) HN.out) (fun k h => h)
            exact ⟨p, c, rfl, (((HL.out.under hb6).frame fun k cc hk hcc => set3_other hk.2).mono fun k hk => hk.1), hb7⟩)
          rw [hdd]
          clear hb6 hbw hd hdd
          go_wp2_with fail
          refine bodyPost_ret (v := .tuple #[.agg #[.int .u8 (x.op : Int), .int .i64 x.n, .slice p x.args.length c], .int .i64 0, .int .i64 0]) (by simp [results, Tryd.f14, go_sem, a1, a2, a3]) rfl HP.out
    · obtain ⟨pq, rfl, he⟩ := HQB.out.wrong hb
      have HPO : Hid (O = (Ex.zero, pq, 80)) := Lib.hid (by rw [← HO.out, he])
      have hp0 : (pq : Int) ≥ 0 := by omega
      have hb0 : decide ((pq : Int) < 0) = false := decide_eq_false hb
      have hb2 : ((pq : Int) < 0) = False := eq_false hb
      have HP : Hid (∀ w7 : World, w7.heap = (set3 w5 N0 0 0 none 0 0).heap → w7.os = w5.os → w7.tape = w5.tape → w7.output = w5.output → PaPost O w (.returned (.tuple #[.agg #[.int .u8 0, .int .i64 0, .slice none 0 0], .int .i64 (pq : Int), .int .i64 80])) w7) := Lib.hid (by
        intro w7 e1 e2 e3 e4
        obtain ⟨a, c, h1, h2, h3⟩ := pa_none HPO.out HQB.out.below HN.out
        have hk : Below (set3 w5 N0 0 0 none 0 0).heap.size (set3 w5 N0 0 0 none 0 0) w7 := ⟨e2, e3, e4, by rw [e1]; exact Nat.le_refl _, fun k hk => by rw [e1]⟩
        exact ⟨a, c, h1, h2.under hk, h3.trans (hk.mono h3.size)⟩)
      clear he
      go_wp2_with fail
      go_region
      all_goals (go_wp2_with fail; refine bodyPost_ret (v := .tuple #[.agg #[.int .u8 0, .int .i64 0, .slice none 0 0], .int .i64 (pq : Int), .int .i64 80]) (by simp [results, Tryd.f14, go_sem, a1, a2, a3]) rfl (HP.out _ rfl rfl rfl rfl))
  · have hne : (cd != 0) = true := by simpa using hc
    have HPO : Hid (O = (Ex.zero, pl, cd)) := Lib.hid (by rw [← HO.out, parseO_err (by rw [hcd]; exact hc), hcd, hpl])
    clear hcd hpl hc
    go_enter Tryd.func14, Tryd.ntmps14
    go_wp2_with fail
    refine HT.out.mono ?_
    rintro e w1 ⟨v, rfl, htk, hb1⟩
    have HP := Lib.hid (pa_none HPO.out (HB.out.trans (hb1.mono HB.out.size)) HN.out)
    obtain ⟨a1, a2, a3, a4, a5, a6⟩ := (HB0.out.under hb1).cells
    obtain ⟨z0, z1, z2, _⟩ := (HB1.out.under hb1).cells
    clear htk hb1
    go_wp2_with fail
    try rw [Exit.noGoto_ret]
    refine bodyPost_ret (v := .tuple #[.agg #[.int .u8 0, .int .i64 0, .slice none 0 0], .int .i64 (pl : Int), .int .i64 cd]) (by simp [results, Tryd.f14, go_sem, a1, a2, a3]) rfl HP.out
end Go.Proofs.YtffhmbiamkbchaaDoor.exp
end
