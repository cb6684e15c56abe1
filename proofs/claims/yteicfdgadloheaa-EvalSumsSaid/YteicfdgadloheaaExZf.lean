/- What Parse answers: of every text. -/
import Derived.Test.YteicfdgadloheaaExZe
namespace Go.Proofs.Yteicfdgadloheaa.exp
set_option linter.unusedSimpArgs false
set_option linter.unusedVariables false
open Go.RowKit nam lex

def PaPost (o : Ex × Nat × Int) (w : World) (e : Ending) (w' : World) : Prop :=
  ∃ (a : Option Addr) (c : Nat), e = .returned (.tuple #[.agg #[.int .u8 (o.1.op : Int), .int .i64 o.1.n, .slice a o.1.args.length c], .int .i64 (o.2.1 : Int), .int .i64 o.2.2]) ∧ Lies w' (From w) (.slice a o.1.args.length c) o.1.args ∧ Below w.heap.size w w'
theorem pa_zero {w w' : World} {N0 p : Nat} {c : Int} (hb : Below w.heap.size w w') (h0 : w.heap.size ≤ N0) : PaPost (Ex.zero, p, c) w (.returned (.tuple #[.agg #[.int .u8 0, .int .i64 0, .slice none 0 0], .int .i64 (p : Int), .int .i64 c])) (set3 w' N0 0 0 none 0 0) := by
  refine ⟨none, 0, rfl, .nil, ?_⟩
  have h1 := set3_only (F := fun _ => False) (Only.of_below hb) (b := N0) (A := 0) (N := 0) (p := none) (n := 0) (c := 0) h0
  exact only_none h1 (fun k h => h)
theorem parseO_err {s : ByteArray} (h : (toksO s).2.2 ≠ 0) : parseO s = (Ex.zero, (toksO s).2.1, (toksO s).2.2) := by unfold parseO; rw [if_pos h]
theorem parseO_bad {s : ByteArray} (h : (toksO s).2.2 = 0) {l : List Tok} (hp : par 4000 0 (toksO s).1 = .bad l) : parseO s = (Ex.zero, placeOf l (rn s 0).length, 80) := by unfold parseO; rw [if_neg (by simp [h]), hp]
theorem parseO_more {s : ByteArray} (h : (toksO s).2.2 = 0) {l : List Tok} {x : Ex} (hp : par 4000 0 (toksO s).1 = .ok x l) (hl : l ≠ []) : parseO s = (Ex.zero, placeOf l (rn s 0).length, 80) := by
  unfold parseO; rw [if_neg (by simp [h]), hp]
  cases l with
  | nil => exact absurd rfl hl
  | cons t l => rfl
theorem parseO_deep {s : ByteArray} (h : (toksO s).2.2 = 0) {x : Ex} (hp : par 4000 0 (toksO s).1 = .ok x []) (hd : 16 < x.dep) : parseO s = (Ex.zero, 0, 81) := by unfold parseO; rw [if_neg (by simp [h]), hp]; simp only []; rw [if_pos hd]
theorem parseO_ok {s : ByteArray} (h : (toksO s).2.2 = 0) {x : Ex} (hp : par 4000 0 (toksO s).1 = .ok x []) (hd : ¬ 16 < x.dep) : parseO s = (x, 0, 0) := by unfold parseO; rw [if_neg (by simp [h]), hp]; simp only []; rw [if_neg hd]

set_option maxHeartbeats 1600000 in
set_option maxRecDepth 1000000 in
theorem parse_err {s : ByteArray} (h : (toksO s).2.2 ≠ 0) (w : World) : Calls Try.prog 8 #[.string s] w (PaPost (parseO s) w) := by
  rw [parseO_err h]
  obtain ⟨W, hW⟩ : ∃ W, w.alloc (.cells #[.int .u8 0, .int .i64 0, .slice none 0 0] 24) = W := ⟨_, rfl⟩
  obtain ⟨N0, hN0⟩ : ∃ N, w.heap.size = N := ⟨_, rfl⟩
  have hwb : Below w.heap.size w W := by rw [← hW]; exact (Below.refl _ _).alloc (Nat.le_refl _) _
  have hb0 : Bx W N0 0 0 none 0 0 := by rw [← hW]; exact heap_last hN0.symm
  obtain ⟨cd, hcd⟩ : ∃ cd, (toksO s).2.2 = cd := ⟨_, rfl⟩
  obtain ⟨pl, hpl⟩ : ∃ pl, (toksO s).2.1 = pl := ⟨_, rfl⟩
  have HT := Lib.hid (tokens_any s W)
  unfold TokPost at HT
  rw [hcd, hpl] at HT ⊢
  rw [hcd] at h
  have hne : (cd != 0) = true := by simpa using h
  have HB := Lib.hid hwb; have HB0 := Lib.hid hb0; have HN := Lib.hid hN0
  clear hwb hb0 h hcd hpl
  go_enter Try.func8, Try.ntmps8
  go_wp2_with fail
  refine HT.out.mono ?_
  rintro e w1 ⟨v, rfl, htk, hb1⟩
  have h0 := HB0.out.under hb1
  have HP : Hid (PaPost (Ex.zero, pl, cd) w (.returned (.tuple #[.agg #[.int .u8 0, .int .i64 0, .slice none 0 0], .int .i64 (pl : Int), .int .i64 cd])) (set3 w1 N0 0 0 none 0 0)) := Lib.hid (pa_zero (HB.out.trans (hb1.mono HB.out.size)) (by have := HN.out; omega))
  obtain ⟨a1, a2, a3, a4, a5, a6⟩ := h0.cells
  clear htk hb1 h0
  go_wp2_with fail
  refine bodyPost_ret (v := .tuple #[.agg #[.int .u8 0, .int .i64 0, .slice none 0 0], .int .i64 (pl : Int), .int .i64 cd]) (by simp [results, Try.f8, go_sem, a1, a2, a3]) rfl HP.out

/-- What is known at the call of the first rule. -/
structure Pa (s : ByteArray) (w W : World) (N0 n rc : Nat) (S : Src) (w3 : World) : Prop where
  code : (toksO s).2.2 = 0
  below : Below w.heap.size w w3
  z : Bx w3 N0 0 0 none 0 0
  n0 : w.heap.size = N0
  rs : Rs S w3 0
  toks : S.toks = (toksO s).1
  len : (toksO s).1.length = n
  en : S.en = rc
  rc : (rn s 0).length = rc
  rb : N0 < S.rb
theorem Pa.of {s : ByteArray} {w W : World} {N0 n rc : Nat} {a : Option Addr} {c N2 : Nat} {w1 w2 w3 : World} (hS : (toksO s).2.2 = 0) (hB : Below w.heap.size w W) (hB0 : Bx W N0 0 0 none 0 0) (hN : w.heap.size = N0) (hn : (toksO s).1.length = n) (hrc : (rn s 0).length = rc)
    (htk : Toks w1 W.heap.size (.slice a n c) (toksO s).1) (hb1 : Below W.heap.size W w1) (hb2 : Below w1.heap.size w1 w2) (hN2 : w2.heap.size = N2) (hw3 : w2.alloc (.cells #[.slice a n c, .int .i64 0, .int .i64 (rc : Int)] 55) = w3) : Pa s w W N0 n rc ⟨W.heap.size, .slice a n c, (toksO s).1, rc, N2⟩ w3 := by
  have hb3 : Below w2.heap.size w2 w3 := by rw [← hw3]; exact (Below.refl _ _).alloc (Nat.le_refl _) _
  have h13 : Below w1.heap.size w1 w3 := hb2.trans (hb3.mono hb2.size)
  have hW3 : Below W.heap.size W w3 := hb1.trans (h13.mono hb1.size)
  have hlt := hB0.lt
  have hz := hb1.size
  have hz2 := hb2.size
  exact ⟨hS, hB.trans (hW3.mono hB.size), hB0.under hW3, hN, ⟨toks_below htk h13, by rw [← hw3]; exact heap_last hN2.symm, Nat.zero_le _, (toks_ok s).2, (toks_ok s).1⟩, rfl, hn, rfl, hrc, by show N0 < N2; omega⟩
theorem Pa.rule {s : ByteArray} {w W : World} {N0 n rc : Nat} {S : Src} {w3 : World} (h : Pa s w W N0 n rc S w3) : Calls Try.prog 23 #[ptr S.rb] w3 (PPost S (par 4000 0 (toksO s).1) w3) := by
  have h1 := rule_any S 4000 0 0 w3 (by omega) h.rs (by unfold need; rw [at_len]; have := h.rs.few; omega)
  have e : S.at 0 = (toksO s).1 := by unfold Src.at; rw [List.drop_zero]; exact h.toks
  rw [e] at h1
  exact h1
/-- What is known behind it. -/
structure Pb (s : ByteArray) (w : World) (N0 n rc : Nat) (S : Src) (w4 w5 : World) (A M : Int) (p : Option Addr) (n' c' : Nat) (b : Bool) (i : Nat) : Prop where
  code : (toksO s).2.2 = 0
  below : Below w.heap.size w w5
  z : Bx w4 N0 0 0 none 0 0
  box : Bx w5 N0 A M p n' c'
  rs : Rs S w5 i
  le : i ≤ n
  tells : Tells S (fun k => w.heap.size ≤ k ∧ k ≠ N0) (par 4000 0 (toksO s).1) w5 A M p n' c' b i
  rc : (rn s 0).length = rc
  toks : S.toks.length = n
  n0 : w.heap.size = N0
theorem Pb.of {s : ByteArray} {w W : World} {N0 n rc : Nat} {S : Src} {w3 w4 w5 : World} (h : Pa s w W N0 n rc S w3) {A M : Int} {p : Option Addr} {n' c' : Nat} {b : Bool} {i : Nat} (hr : Rs S w4 i) (ho : Only (Mine S) w3 w4) (ht : Tells S (From w3) (par 4000 0 (toksO s).1) w4 A M p n' c' b i)
    (hw5 : set3 w4 N0 A M p n' c' = w5) : Pb s w N0 n rc S w4 w5 A M p n' c' b i := by
  have hz : Bx w4 N0 0 0 none 0 0 := h.z.only ho h.rs
  have hn0 := h.n0
  have hlt := h.z.lt
  have hrb := h.rb
  have h34 : Below w.heap.size w w4 := h.below.trans (ho.below h.below.size (fun k hk => by rw [show k = S.rb from hk]; omega))
  have h45 := set3_only (F := fun _ => False) (Only.of_below h34) (b := N0) (A := A) (N := M) (p := p) (n := n') (c := c') (by omega)
  refine ⟨h.code, by rw [← hw5]; exact only_none h45 (fun k h => h), hz, by rw [← hw5]; exact hz.set _ _ _ _ _, by rw [← hw5]; exact hr.set3 hz, ?_, ?_, h.rc, by rw [h.toks, h.len], hn0⟩
  · have := hr.le; rw [h.toks, h.len] at this; exact this
  · have hsz := h.below.size
    cases ho2 : par 4000 0 (toksO s).1 with
    | bad l => rw [ho2] at ht; exact ht
    | ok x l =>
      rw [ho2] at ht
      obtain ⟨t0, t1, t2, t3, t4, t5⟩ := ht
      refine ⟨t0, t1, t2, t3, ?_, t5⟩
      rw [← hw5]
      refine (t4.frame fun k cc hk hcc => set3_other ?_).mono fun k hk => ?_
      · unfold From at hk; omega
      · unfold From at hk; exact ⟨by omega, by omega⟩
theorem Pb.bad {s : ByteArray} {w : World} {N0 n rc : Nat} {S : Src} {w4 w5 : World} {A M : Int} {p : Option Addr} {n' c' : Nat} {b : Bool} {i : Nat} (h : Pb s w N0 n rc S w4 w5 A M p n' c' b i) (hb : b = false ∨ i < n) : parseO s = (Ex.zero, placeOf (S.at i) rc, 80) := by
  have ht := h.tells
  have hrc := h.rc
  cases ho : par 4000 0 (toksO s).1 with
  | bad l => rw [ho] at ht; rw [parseO_bad h.code ho, ht.2, hrc]
  | ok x l =>
    rw [ho] at ht
    obtain ⟨t0, t1, t2, t3, t4, t5⟩ := ht
    have hl : l ≠ [] := by
      rcases hb with hb | hb
      · rw [hb] at t0; cases t0
      · intro e
        have := at_len S i
        rw [t5, e, h.toks] at this
        simp at this
        omega
    rw [parseO_more h.code ho hl, t5, hrc]
theorem Pb.good {s : ByteArray} {w : World} {N0 n rc : Nat} {S : Src} {w4 w5 : World} {A M : Int} {p : Option Addr} {n' c' : Nat} {i : Nat} (h : Pb s w N0 n rc S w4 w5 A M p n' c' true i) (hb : i = n) :
    ∃ x : Ex, par 4000 0 (toksO s).1 = .ok x [] ∧ A = (x.op : Int) ∧ M = x.n ∧ n' = x.args.length ∧ Lies w5 (fun k => w.heap.size ≤ k ∧ k ≠ N0) (.slice p n' c') x.args ∧ x.size ≤ 400 := by
  have ht := h.tells
  cases ho : par 4000 0 (toksO s).1 with
  | bad l => rw [ho] at ht; cases ht.1
  | ok x l =>
    rw [ho] at ht
    obtain ⟨t0, t1, t2, t3, t4, t5⟩ := ht
    have hl : l = [] := by rw [← t5]; exact at_nil (by rw [h.toks]; exact hb)
    subst hl
    exact ⟨x, rfl, t1, t2, t3, t4, by have := (par_size ho).1; have := (toks_ok s).2; omega⟩

set_option maxHeartbeats 1600000 in
set_option maxRecDepth 1000000 in
theorem parse_read {s : ByteArray} (h : (toksO s).2.2 = 0) (w : World) : Calls Try.prog 8 #[.string s] w (PaPost (parseO s) w) := by
  obtain ⟨W, hW⟩ : ∃ W, w.alloc (.cells #[.int .u8 0, .int .i64 0, .slice none 0 0] 24) = W := ⟨_, rfl⟩
  obtain ⟨N0, hN0⟩ : ∃ N, w.heap.size = N := ⟨_, rfl⟩
  have hwb : Below w.heap.size w W := by rw [← hW]; exact (Below.refl _ _).alloc (Nat.le_refl _) _
  have hb0 : Bx W N0 0 0 none 0 0 := by rw [← hW]; exact heap_last hN0.symm
  obtain ⟨pl, hpl⟩ : ∃ pl, (toksO s).2.1 = pl := ⟨_, rfl⟩
  have hs400 : s.size ≤ 400 := by
    rcases Nat.lt_or_ge 400 s.size with h4 | h4
    · unfold toksO at h; rw [if_pos h4] at h; simp at h
    · exact h4
  have HT := Lib.hid (tokens_any s W)
  unfold TokPost at HT
  rw [h, hpl] at HT
  have HB := Lib.hid hwb; have HB0 := Lib.hid hb0; have HN := Lib.hid hN0; have HS := Lib.hid h; have HRC := Lib.hid (fun w => Try.utf8_RuneCountInString s w (by omega)); have HR := Lib.hid (runeCount_rn s)
  clear hwb hb0 h hpl
  obtain ⟨O, hO⟩ : ∃ O, parseO s = O := ⟨_, rfl⟩
  rw [hO]
  have HO := Lib.hid hO; clear hO
  go_enter Try.func8, Try.ntmps8
  go_wp2_with fail
  refine HT.out.mono ?_
  rintro e w1 ⟨v, rfl, htk, hb1⟩
  obtain ⟨a, c, rfl, ha⟩ := toks_form htk
  obtain ⟨n, hn⟩ : ∃ n, (toksO s).1.length = n := ⟨_, rfl⟩
  rw [hn] at htk ⊢
  have HTK := Lib.hid htk; have HB1 := Lib.hid hb1; have HNN := Lib.hid hn; clear htk hb1 ha hn
  obtain ⟨rc, hrc⟩ : ∃ rc, (rn s 0).length = rc := ⟨_, rfl⟩
  go_wp2_with fail
  refine (HRC.out _).mono ?_
  rintro e w2 ⟨rfl, pos, hw2⟩
  rw [HR.out, hrc]
  have HRL := Lib.hid hrc; clear hrc
  have HB2 : Hid (Below w1.heap.size w1 w2) := Lib.hid (by rw [hw2]; exact below_iter w1 s pos)
  clear hw2
  obtain ⟨N2, hN2⟩ : ∃ N2, w2.heap.size = N2 := ⟨_, rfl⟩
  obtain ⟨w3, hw3⟩ : ∃ w3, w2.alloc (.cells #[.slice a n c, .int .i64 0, .int .i64 (rc : Int)] 55) = w3 := ⟨_, rfl⟩
  have HPA : Hid (Pa s w W N0 n rc ⟨W.heap.size, .slice a n c, (toksO s).1, rc, N2⟩ w3) := Lib.hid (Pa.of HS.out HB.out HB0.out HN.out HNN.out HRL.out HTK.out HB1.out HB2.out hN2 hw3)
  have HRU := Lib.hid (HPA.out.rule)
  unfold ptr at HRU
  go_wp2_with fail
  refine HRU.out.mono ?_
  rintro e w4 ⟨A, M, p, n', c', b, i, rfl, hr4, ho4, ht4⟩
  obtain ⟨w5, hw5⟩ : ∃ w5, set3 w4 N0 A M p n' c' = w5 := ⟨_, rfl⟩
  have HPB := Lib.hid (Pb.of HPA.out hr4 ho4 ht4 hw5)
  obtain ⟨a1, a2, a3, a4, a5, a6⟩ := HPB.out.z.cells
  unfold set3 at hw5
  clear hr4 ho4 ht4
  obtain ⟨b1, b2, b3, b4, b5, b6⟩ := HPB.out.box.cells
  obtain ⟨c0, c1, c2, c3⟩ := HPB.out.rs.cells
  have HTK2 := Lib.hid (token_at HPB.out.rs)
  unfold tokA ptr at HTK2
  obtain ⟨pl2, hpl2⟩ : ∃ pl2, placeOf ((⟨W.heap.size, .slice a n c, (toksO s).1, rc, N2⟩ : Src).at i) rc = pl2 := ⟨_, rfl⟩
  have HPL := Lib.hid hpl2
  have hfa := field_at
  simp only [hpl2] at HTK2
  clear hpl2
  have hfin : b = false ∨ (b = true ∧ i < n) ∨ (b = true ∧ i = n) := by
    have := HPB.out.le
    cases b with
    | false => exact .inl rfl
    | true => rcases Nat.lt_or_ge i n with h | h
              · exact .inr (.inl ⟨rfl, h⟩)
              · exact .inr (.inr ⟨rfl, by omega⟩)
  rcases hfin with rfl | ⟨rfl, hin⟩ | ⟨rfl, hin⟩
  · have HE := Lib.hid (HPB.out.bad (.inl rfl))
    rw [HO.out, HPL.out] at HE
    go_wp2_with fail
    refine HTK2.out.mono ?_
    rintro e w6 ⟨rfl, hb6⟩
    obtain ⟨d1, d2, d3, d4, d5, d6⟩ := (HPB.out.box.under hb6).cells
    have HP : Hid (PaPost O w (.returned (.tuple #[.agg #[.int .u8 0, .int .i64 0, .slice none 0 0], .int .i64 (pl2 : Int), .int .i64 80])) (set3 w6 N0 0 0 none 0 0)) := Lib.hid (by rw [HE.out]; exact pa_zero (HPB.out.below.trans (hb6.mono HPB.out.below.size)) (by have := HN.out; omega))
    clear hb6
    go_wp2_with fail
    refine bodyPost_ret (v := .tuple #[.agg #[.int .u8 0, .int .i64 0, .slice none 0 0], .int .i64 (pl2 : Int), .int .i64 80]) (by simp [results, Try.f8, go_sem, d1, d2, d3]) rfl HP.out
  · have HE := Lib.hid (HPB.out.bad (.inr hin))
    rw [HO.out, HPL.out] at HE
    have hin' : (i : Int) < (n : Int) := by omega
    go_wp2_with fail
    refine HTK2.out.mono ?_
    rintro e w6 ⟨rfl, hb6⟩
    obtain ⟨d1, d2, d3, d4, d5, d6⟩ := (HPB.out.box.under hb6).cells
    have HP : Hid (PaPost O w (.returned (.tuple #[.agg #[.int .u8 0, .int .i64 0, .slice none 0 0], .int .i64 (pl2 : Int), .int .i64 80])) (set3 w6 N0 0 0 none 0 0)) := Lib.hid (by rw [HE.out]; exact pa_zero (HPB.out.below.trans (hb6.mono HPB.out.below.size)) (by have := HN.out; omega))
    clear hb6
    go_wp2_with fail
    refine bodyPost_ret (v := .tuple #[.agg #[.int .u8 0, .int .i64 0, .slice none 0 0], .int .i64 (pl2 : Int), .int .i64 80]) (by simp [results, Try.f8, go_sem, d1, d2, d3]) rfl HP.out
  · obtain ⟨x, hx1, rfl, rfl, rfl, hx5, hx6⟩ := HPB.out.good hin
    have hin' : ¬ (i : Int) < (n : Int) := by omega
    have HIN := Lib.hid hin
    have HDP := Lib.hid (deep_any hx5 (by omega))
    unfold exV at HDP
    obtain ⟨dd, hdd⟩ : ∃ dd, min 17 x.dep = dd := ⟨_, rfl⟩
    rw [hdd] at HDP
    have HX := Lib.hid (And.intro hx1 hx5)
    have HDD := Lib.hid hdd
    have hd17 : dd ≤ 17 := by omega
    clear hx1 hx5 hx6 hdd hin
    go_wp2_with fail
    refine HDP.out.mono ?_
    rintro e w6 ⟨rfl, hb6⟩
    have h6 := HPB.out.box.under hb6
    obtain ⟨d1, d2, d3, d4, d5, d6⟩ := h6.cells
    have HB6 := Lib.hid (HPB.out.below.trans (hb6.mono HPB.out.below.size))
    have HL6 := Lib.hid (HX.out.2.under hb6)
    clear hb6 h6
    by_cases hdp : 16 < dd
    · have hdp' : (dd : Int) > 16 := by omega
      have HP : Hid (PaPost O w (.returned (.tuple #[.agg #[.int .u8 0, .int .i64 0, .slice none 0 0], .int .i64 0, .int .i64 81])) (set3 w6 N0 0 0 none 0 0)) := Lib.hid (by
        rw [← HO.out, parseO_deep HS.out HX.out.1 (by have := HDD.out; omega)]; exact pa_zero HB6.out (by have := HN.out; omega))
      go_wp2_with fail
      refine bodyPost_ret (v := .tuple #[.agg #[.int .u8 0, .int .i64 0, .slice none 0 0], .int .i64 0, .int .i64 81]) (by simp [results, Try.f8, go_sem, d1, d2, d3]) rfl HP.out
    · have hdp' : ¬ (dd : Int) > 16 := by omega
      have HP : Hid (PaPost O w (.returned (.tuple #[.agg #[.int .u8 (x.op : Int), .int .i64 x.n, .slice p x.args.length c'], .int .i64 0, .int .i64 0])) (set3 w6 N0 (x.op : Int) x.n p x.args.length c')) := Lib.hid (by
        rw [← HO.out, parseO_ok HS.out HX.out.1 (by have := HDD.out; omega)]
        refine ⟨p, c', rfl, (HL6.out.frame fun k cc hk hcc => set3_other hk.2).mono fun k hk => hk.1, ?_⟩
        exact only_none (set3_only (F := fun _ => False) (Only.of_below HB6.out) (by have := HN.out; omega)) (fun k h => h))
      go_wp2_with fail
      refine bodyPost_ret (v := .tuple #[.agg #[.int .u8 (x.op : Int), .int .i64 x.n, .slice p x.args.length c'], .int .i64 0, .int .i64 0]) (by simp [results, Try.f8, go_sem, d1, d2, d3]) rfl HP.out
theorem parse_any (s : ByteArray) (w : World) : Calls Try.prog 8 #[.string s] w (PaPost (parseO s) w) := by
  by_cases h : (toksO s).2.2 = 0
  · exact parse_read h w
  · exact parse_err h w
end Go.Proofs.Yteicfdgadloheaa.exp
