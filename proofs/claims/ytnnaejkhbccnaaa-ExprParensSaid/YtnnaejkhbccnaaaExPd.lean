/- ExprParens returns true at any text in whatever world, and turns nothing that was there. -/
import Derived.Test.YtnnaejkhbccnaaaExG
import Derived.Test.YtnnaejkhbccnaaaExPc
import Derived.Test.YtnnaejkhbccnaaaRp
namespace Go.Proofs.Ytnnaejkhbccnaaa.exp
set_option linter.unusedSimpArgs false
set_option linter.unusedVariables false
open Go.RowKit nam lex

theorem keepOn_place {t t' : Tok} {r : Nat} (h : keepOn t r = .yes t') : t'.place = t.place := by
  unfold keepOn at h
  repeat' split at h
  all_goals first | (injection h with h; subst h; rfl) | cases h
theorem beg_place {r p : Nat} {t : Tok} (h : beg r p = some t) : t.place = p := by
  unfold beg at h
  repeat' split at h
  all_goals first | (injection h with h; subst h; rfl) | cases h
theorem scan_place : ∀ (L : List Nat) (D : List Tok) (C : Option Tok) (p : Nat), (∀ t, C = some t → t.place ≤ p) → (scan D C p L).2.1 ≤ p + L.length
  | [], D, C, p, h => by rw [scan_nil]; simp
  | r :: L, D, C, p, h => by
    have e : (r :: L).length = L.length + 1 := rfl
    cases hk : keepO C r with
    | yes t =>
      rw [scan_yes hk]
      have := scan_place L D (some t) (p + 1) (fun t' ht => by
        injection ht with ht; subst ht
        cases C with
        | none => cases hk
        | some t0 => have h1 := keepOn_place hk; have h2 := h t0 rfl; omega)
      omega
    | big =>
      rw [scan_big hk]
      cases C with
      | none => cases hk
      | some t => have := h t rfl; show t.place ≤ _; omega
    | no =>
      by_cases hb : blkB r = true
      · rw [scan_blank hk hb]
        have := scan_place L (D ++ C.toList) none (p + 1) (fun t ht => by cases ht)
        omega
      · have hb' : blkB r = false := by simpa using hb
        cases hg : beg r p with
        | none => rw [scan_bad hk hb' hg]; show p ≤ _; omega
        | some t =>
          rw [scan_beg hk hb' hg]
          have := scan_place L (D ++ C.toList) (some t) (p + 1) (fun t' ht => by injection ht with ht; subst ht; have := beg_place hg; omega)
          omega
theorem place_err (s : ByteArray) (h80 : (parseO s).2.2 ≠ 80) (h0 : (parseO s).2.2 ≠ 0) (h81 : (parseO s).2.2 ≠ 81) : (parseO s).2.1 ≤ 400 := by
  by_cases h : (toksO s).2.2 = 0
  · obtain ⟨_, a2, _⟩ := parseO_told h
    rw [a2] at h80 h0 h81
    unfold told at h80 h0 h81
    cases hp : par 4000 0 (toksO s).1 with
    | bad l => rw [hp] at h80; exact absurd rfl h80
    | ok x l =>
      rw [hp] at h80 h0 h81
      cases l with
      | cons t l => exact absurd rfl h80
      | nil =>
        simp only [] at h0 h81
        by_cases hd : 16 < x.dep
        · rw [if_pos hd] at h81; exact absurd rfl h81
        · rw [if_neg hd] at h0; exact absurd rfl h0
  · rw [parseO_err' h]
    show (toksO s).2.1 ≤ 400
    unfold toksO
    by_cases hs : 400 < s.size
    · rw [if_pos hs]; simp
    · rw [if_neg hs]
      have h1 := scan_place (rn s 0) [] none 0 (fun t ht => by cases ht)
      have h2 := rn_length s 0
      omega
/-- What both readings come to. -/
structure Par2 (s T : ByteArray) (n : Nat) (x y : Ex) (p q : Nat) (c d : Int) : Prop where
  one : parseO s = (x, p, c)
  two : parseO T = (y, q, d)
  bad : c = 80 → n = 0 → d = c ∧ q = p
  good : c ≠ 80 → d = c ∧ y = x ∧ (c = 0 ∨ c = 81 ∨ q = p + n)
theorem par2_of {s a b : ByteArray} {n : Nat} (hs : s.size + 2 * n ≤ 400) (ha : a.data.toList = List.replicate n 40) (hb : b.data.toList = List.replicate n 41) : ∃ x y p q c d, Par2 s (a ++ s ++ b) n x y p q c d := by
  have hr := rn_within s a b n ha hb
  have ht : (a ++ s ++ b).size ≤ 400 := by
    rw [size_app, size_app, ← len_size a, ← len_size b, ha, hb, List.length_replicate, List.length_replicate]; omega
  refine ⟨_, _, _, _, _, _, rfl, rfl, fun h0 hn => ?_, fun h0 => parens_facts hs ht hr h0⟩
  subst hn
  rw [within_zero s a b ha hb]
  exact ⟨rfl, rfl⟩

theorem u8_range' {b : Int} (hwf : (Lit.int .u8 b).wf = true) : 0 ≤ b ∧ b ≤ 255 := by
  have h1 : IntKind.u8.min = 0 := rfl
  have h2 : IntKind.u8.max = 255 := rfl
  simp [Lit.wf, IntKind.wrap, IntKind.bits, IntKind.signed] at hwf
  omega
set_option maxHeartbeats 1600000 in
set_option maxRecDepth 1000000 in
theorem law_parens (s : ByteArray) (m : Int) (hm : (Lit.int .u8 m).wf = true) (hs : s.size ≤ 140737488351232) (w : World) : Calls Try.prog 7 #[.string s, .int .u8 m] w fun e w' => e = .returned (.bool true) ∧ Below w.heap.size w w' := by
  obtain ⟨k, rfl, hk⟩ : ∃ k : Nat, m = (k : Int) ∧ k ≤ 255 := by
    have h := u8_range' hm
    exact ⟨m.toNat, by omega, by omega⟩
  clear hm
  obtain ⟨n, hn⟩ : ∃ n, k % 6 = n := ⟨_, rfl⟩
  have hn5 : n ≤ 5 := by omega
  have ht : Int.tmod (k : Int) 6 = (n : Int) := by rw [Int.tmod_eq_emod_of_nonneg (by omega)]; omega
  obtain ⟨z, hz⟩ : ∃ z : Nat, s.size = z := ⟨_, rfl⟩
  have HZ := Lib.hid hz
  have hz6 : z ≤ 140737488351232 := by omega
  have hw1 : IntKind.u8.wrap (n : Int) = (n : Int) := IntWalk.u8_in _ ⟨by omega, by omega⟩
  have hw2 : IntKind.i64.wrap (n : Int) = (n : Int) := IntWalk.i64_in _ ⟨by omega, by omega⟩
  have hw3 : IntKind.i64.wrap (2 * (n : Int)) = 2 * (n : Int) := IntWalk.i64_in _ ⟨by omega, by omega⟩
  have hw4 : IntKind.i64.wrap ((z : Int) + 2 * (n : Int)) = (z : Int) + 2 * (n : Int) := IntWalk.i64_in _ ⟨by omega, by omega⟩
  clear hn hk hs
  by_cases hl : (z : Int) + 2 * (n : Int) > 400
  · go_enter Try.func7, Try.ntmps7
    go_wp2_with fail
    refine (works_any _).mono ?_
    rintro e w1 ⟨rfl, hb⟩
    have HB := Lib.hid hb; clear hb
    go_wp2_with fail
    try rw [Exit.noGoto_ret]
    go_ret
    exact ⟨rfl, HB.out⟩
  · obtain ⟨x, y, p, q, c, d, H⟩ := par2_of (s := s) (a := ⟨(Lib.repeatL [40] n).toArray⟩) (b := ⟨(Lib.repeatL [41] n).toArray⟩) (n := n) (by rw [hz]; omega) (by rw [repeat_one]) (by rw [repeat_one])
    obtain ⟨T, hT⟩ : ∃ T, (⟨(Lib.repeatL [40] n).toArray⟩ : ByteArray) ++ s ++ ⟨(Lib.repeatL [41] n).toArray⟩ = T := ⟨_, rfl⟩
    rw [hT] at H
    have HH := Lib.hid H
    have hxs : x.size ≤ 1000 := by have := (parseO_facts s).1; rw [H.one] at this; exact this
    have HXS := Lib.hid hxs
    obtain ⟨R1, hR1⟩ : ∃ R, (⟨(Lib.repeatL [40] n).toArray⟩ : ByteArray) = R := ⟨_, rfl⟩
    obtain ⟨R2, hR2⟩ : ∃ R, (⟨(Lib.repeatL [41] n).toArray⟩ : ByteArray) = R := ⟨_, rfl⟩
    have HR1 : Hid (∀ w, Calls Try.prog 22 #[.string ⟨#[40]⟩, .int .i64 n] w fun e w' => e = .returned (.string R1) ∧ Below w.heap.size w w') := Lib.hid (fun w => by
      have := Try.strings_Repeat ⟨#[40]⟩ n w (by omega) (by show 1 * n ≤ _; omega)
      rw [← hR1]; exact this)
    have HR2 : Hid (∀ w, Calls Try.prog 22 #[.string ⟨#[41]⟩, .int .i64 n] w fun e w' => e = .returned (.string R2) ∧ Below w.heap.size w w') := Lib.hid (fun w => by
      have := Try.strings_Repeat ⟨#[41]⟩ n w (by omega) (by show 1 * n ≤ _; omega)
      rw [← hR2]; exact this)
    rw [hR1, hR2] at hT
    have hz1 : R1.size ≤ 5 := by rw [← hR1, ← len_size]; show (Lib.repeatL [40] n).length ≤ 5; rw [repeat_one, List.length_replicate]; exact hn5
    have hz2 : R2.size ≤ 5 := by rw [← hR2, ← len_size]; show (Lib.repeatL [41] n).length ≤ 5; rw [repeat_one, List.length_replicate]; exact hn5
    clear hxs H hR1 hR2
    go_enter Try.func7, Try.ntmps7
    go_wp2_with fail
    refine (parse_of HH.out.one w).mono ?_
    rintro e w1 ⟨a, k1, rfl, hL, hb⟩
    obtain ⟨N1, hN1⟩ : ∃ N, w1.heap.size = N := ⟨_, rfl⟩
    obtain ⟨W1, hW1⟩ : ∃ W, w1.alloc (.cells #[.int .u8 (x.op : Int), .int .i64 x.n, .slice a x.args.length k1] 24) = W := ⟨_, rfl⟩
    have hbW : Below w1.heap.size w1 W1 := by rw [← hW1]; exact (Below.refl _ _).alloc (Nat.le_refl _) _
    have HBX : Hid (Bx W1 N1 (x.op : Int) x.n a x.args.length k1) := by refine Lib.hid ?_; rw [← hW1]; exact heap_last hN1.symm
    have HL := Lib.hid (hL.under hbW)
    have HB := Lib.hid (hb.trans (hbW.mono hb.size))
    clear hL hb hbW
    go_wp2_with fail
    refine (HR1.out _).mono ?_
    rintro e w2 ⟨rfl, hb2⟩
    have HB2 := Lib.hid hb2; clear hb2
    go_wp2_with fail
    refine (HR2.out _).mono ?_
    rintro e w3 ⟨rfl, hb3⟩
    have HB3 := Lib.hid (HB2.out.trans (hb3.mono HB2.out.size)); clear hb3
    go_wp2_with fail
    refine (parse_of HH.out.two _).mono ?_
    rintro e w4 ⟨a', k2, rfl, hL4, hb4⟩
    have hb14 : Below W1.heap.size W1 w4 := HB3.out.trans (hb4.mono HB3.out.size)
    obtain ⟨N2, hN2⟩ : ∃ N, w4.heap.size = N := ⟨_, rfl⟩
    obtain ⟨W2, hW2⟩ : ∃ W, w4.alloc (.cells #[.int .u8 (y.op : Int), .int .i64 y.n, .slice a' y.args.length k2] 24) = W := ⟨_, rfl⟩
    have hbW : Below w4.heap.size w4 W2 := by rw [← hW2]; exact (Below.refl _ _).alloc (Nat.le_refl _) _
    have hb1W : Below W1.heap.size W1 W2 := hb14.trans (hbW.mono hb14.size)
    have hy0 : Bx W2 N2 (y.op : Int) y.n a' y.args.length k2 := by rw [← hW2]; exact heap_last hN2.symm
    have hx0 := HBX.out.under hb1W
    obtain ⟨f0, f1, f2, _⟩ := hx0.cells
    obtain ⟨g0, g1, g2, _⟩ := hy0.cells
    have HLx := Lib.hid (HL.out.under hb1W)
    have HLy := Lib.hid (hL4.under hbW)
    have HBW := Lib.hid (HB.out.trans (hb1W.mono HB.out.size))
    clear hL4 hb4 hb14 hbW hb1W hy0 hx0
    by_cases hc : c = 80
    · subst hc
      by_cases hn0 : n = 0
      · obtain ⟨hd, hq⟩ := HH.out.bad rfl hn0
        subst hd; subst hq; subst hn0
        go_wp2_with fail
        refine (works_any _).mono ?_
        rintro e w5 ⟨rfl, hb5⟩
        have HB5 := Lib.hid (HBW.out.trans (hb5.mono HBW.out.size))
        clear hb5
        go_wp2_with fail
        go_ret
        exact ⟨rfl, HB5.out⟩
      · have hn1 : (n : Int) > 0 := by omega
        go_wp2_with fail
        refine (works_any _).mono ?_
        rintro e w5 ⟨rfl, hb5⟩
        have HB5 := Lib.hid (HBW.out.trans (hb5.mono HBW.out.size))
        clear hb5
        go_wp2_with fail
        go_ret
        exact ⟨rfl, HB5.out⟩
    · obtain ⟨hd, hy, h3⟩ := HH.out.good hc
      subst hd; subst hy
      have HC := Lib.hid h3
      have HS := Lib.hid (same_any HLx.out HLy.out (by have := HXS.out; omega))
      unfold exV at HS
      clear h3
      have hcb : (d == 80) = false := by simp [hc]
      by_cases h0 : d = 0
      · subst h0
        go_wp2_with fail
        refine HS.out.mono ?_
        rintro e w5 ⟨r, rfl, hr, hb5⟩
        have hrt : r = true := hr.2 rfl
        subst hrt
        have HB5 := Lib.hid (HBW.out.trans (hb5.mono HBW.out.size))
        clear hb5 hr
        go_wp2_with fail
        refine (works_any _).mono ?_
        rintro e w6 ⟨rfl, hb6⟩
        have HB6 := Lib.hid (HB5.out.trans (hb6.mono HB5.out.size))
        clear hb6
        go_wp2_with fail
        go_ret
        exact ⟨rfl, HB6.out⟩
      · by_cases h1 : d = 81
        · subst h1
          go_wp2_with fail
          refine HS.out.mono ?_
          rintro e w5 ⟨r, rfl, hr, hb5⟩
          have hrt : r = true := hr.2 rfl
          subst hrt
          have HB5 := Lib.hid (HBW.out.trans (hb5.mono HBW.out.size))
          clear hb5 hr
          go_wp2_with fail
          refine (works_any _).mono ?_
          rintro e w6 ⟨rfl, hb6⟩
          have HB6 := Lib.hid (HB5.out.trans (hb6.mono HB5.out.size))
          clear hb6
          go_wp2_with fail
          go_ret
          exact ⟨rfl, HB6.out⟩
        · have hq : q = p + n := by rcases HC.out with h | h | h; exact absurd h h0; exact absurd h h1; exact h
          subst hq
          have hp6 : p ≤ 1000000 := by have := place_err s; rw [HH.out.one] at this; exact Nat.le_trans (this hc h0 h1) (by omega)
          have hwp : IntKind.i64.wrap ((p : Int) + (n : Int)) = (p : Int) + (n : Int) := IntWalk.i64_in _ ⟨by omega, by omega⟩
          have hpn : ((p + n : Nat) : Int) = (p : Int) + (n : Int) := by omega
          have hb0 : (d == 0) = false := by simp [h0]
          have hb1 : (d == 81) = false := by simp [h1]
          rw [hpn]
          go_wp2_with fail
          refine HS.out.mono ?_
          rintro e w5 ⟨r, rfl, hr, hb5⟩
          have hrt : r = true := hr.2 rfl
          subst hrt
          have HB5 := Lib.hid (HBW.out.trans (hb5.mono HBW.out.size))
          clear hb5 hr
          go_wp2_with fail
          refine (works_any _).mono ?_
          rintro e w6 ⟨rfl, hb6⟩
          have HB6 := Lib.hid (HB5.out.trans (hb6.mono HB5.out.size))
          clear hb6
          go_wp2_with fail
          go_ret
          exact ⟨rfl, HB6.out⟩
end Go.Proofs.Ytnnaejkhbccnaaa.exp
