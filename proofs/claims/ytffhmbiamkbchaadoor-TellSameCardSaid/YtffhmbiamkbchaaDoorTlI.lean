/- TellSame returns true at any two texts in whatever world in which the library's table stands. -/
import Derived.Test.YtffhmbiamkbchaaDoorTlG
import Derived.Test.YtffhmbiamkbchaaDoorTlT
import Derived.Test.YtffhmbiamkbchaaDoorMRl
namespace Go.Proofs.YtffhmbiamkbchaaDoor.exp
set_option linter.unusedSimpArgs false
set_option linter.unusedVariables false
open Go.RowKit nam lex

theorem rparse_of {s : ByteArray} {x : Ex} {p : Nat} {c : Int} (h : parseO s = (x, p, c)) (w : World) : Calls Tryd.prog 14 #[.string s] w fun e w' =>
    ∃ (a : Option Addr) (k : Nat), e = .returned (.tuple #[.agg #[.int .u8 (x.op : Int), .int .i64 x.n, .slice a x.args.length k], .int .i64 (p : Int), .int .i64 c]) ∧ Lies w' (From w) (.slice a x.args.length k) x.args ∧ Below w.heap.size w w' := by
  have := rparse_any s w
  rw [h] at this
  exact this
set_option maxHeartbeats 3200000 in
set_option maxRecDepth 1000000 in
theorem law_same (a b : ByteArray) (ha : a.size ≤ 140737488351232) (hb : b.size ≤ 140737488351232) {w : World} (htab : Tab w.heap.size w) :
    Calls Tryd.prog 5 #[.string a, .string b] w fun e w' => e = .returned (.bool true) ∧ Below w.heap.size w w' := by
  have HT := Lib.hid htab
  clear htab
  obtain ⟨n, hn⟩ : ∃ n : Int, (a.size : Int) = n := ⟨_, rfl⟩
  obtain ⟨m, hm⟩ : ∃ m : Int, (b.size : Int) = m := ⟨_, rfl⟩
  have hnm : IntKind.i64.wrap (n + m) = n + m := IntWalk.i64_in _ ⟨by omega, by omega⟩
  by_cases hl : n + m > 5000
  · go_enter Tryd.func5, Tryd.ntmps5
    go_wp2_with fail
    refine (works_any HT.out).mono ?_
    rintro e w1 ⟨rfl, hb1⟩
    have HB := Lib.hid hb1; clear hb1
    go_wp2_with fail
    try rw [Exit.noGoto_ret]
    go_ret
    exact ⟨rfl, HB.out⟩
  · obtain ⟨x, p, c, hx⟩ : ∃ x p c, parseO a = (x, p, c) := ⟨_, _, _, rfl⟩
    obtain ⟨y, q, d, hy⟩ : ∃ y q d, parseO b = (y, q, d) := ⟨_, _, _, rfl⟩
    have hsx := (parseO_facts a).1
    rw [hx] at hsx
    simp only [] at hsx
    have HX := Lib.hid (fun w => rparse_of hx w); have HY := Lib.hid (fun w => rparse_of hy w)
    have HS := Lib.hid hsx
    have HTS : Hid (∀ w, Calls Tryd.prog 10 #[.string a, .string b] w fun e w' => ∃ r : Bool, e = .returned (.bool r) ∧ (r = true ↔ (c = 0 ∧ d = 0 ∧ x = y)) ∧ Below w.heap.size w w') := Lib.hid fun w => by
      have := tsame_any a b w
      unfold AreOne at this
      rw [hx, hy] at this
      exact this
    clear hx hy hsx
    by_cases hc : c = 0
    · subst hc
      by_cases hd : d = 0
      · subst hd
        go_enter Tryd.func5, Tryd.ntmps5
        go_wp2_with fail
        refine (HX.out _).mono ?_
        rintro e w1 ⟨a1, k1, rfl, hL1, hb1⟩
        obtain ⟨N1, W1, hN1, hW1, hbx1, hLW1, hbW1⟩ := boxed hL1 hb1
        have H1 := Lib.hid (And.intro hbx1 (And.intro hLW1 hbW1))
        clear hL1 hb1 hbx1 hLW1 hbW1
        go_wp2_with fail
        refine (HY.out _).mono ?_
        rintro e w2 ⟨a2, k2, rfl, hL2, hb2⟩
        obtain ⟨N2, W2, hN2, hW2, hbx2, hLW2, hbW2⟩ := boxed hL2 hb2
        have H2 := Lib.hid (And.intro hbx2 (And.intro hLW2 (And.intro hbW2 (H1.out.1.under hbW2))))
        have H3 := Lib.hid (And.intro (H1.out.2.1.under hbW2) (H1.out.2.2.trans (hbW2.mono H1.out.2.2.size)))
        clear hL2 hb2 hbx2 hLW2 hbW2
        go_wp2_with fail
        refine (HTS.out _).mono ?_
        rintro e w3 ⟨r, rfl, hr, hb3⟩
        obtain ⟨g0, g1, g2, _⟩ := (H2.out.1.under hb3).cells
        obtain ⟨e0, e1, e2, _⟩ := (H2.out.2.2.2.under hb3).cells
        have HR := Lib.hid (rsame_any x.size (by have := HS.out; omega) x (Nat.le_refl _) y _ _ _ _ w3 (H3.out.1.under hb3) (H2.out.2.1.under hb3))
        unfold exV SPost at HR
        have HB := Lib.hid (And.intro hr (H3.out.2.trans (hb3.mono H3.out.2.size)))
        clear hr hb3
        go_wp2_with fail
        refine HR.out.mono ?_
        rintro e w4 ⟨r', rfl, hr', hb4⟩
        have hrr : r = r' := by
          have h1 := HB.out.1
          simp only [true_and] at h1
          rw [Bool.eq_iff_iff, h1, hr']
        subst hrr
        have HB4 := Lib.hid (HB.out.2.trans (hb4.mono HB.out.2.size))
        clear hb4 hr'
        cases r with
        | true =>
          go_wp2_with fail
          refine (works_any (tab_on HT.out HB4.out)).mono ?_
          rintro e w5 ⟨rfl, hb5⟩
          have HZ := Lib.hid (HB4.out.trans (hb5.mono HB4.out.size))
          clear hb5
          go_wp2_with fail
          go_ret
          exact ⟨rfl, HZ.out⟩
        | false =>
          go_wp2_with fail
          refine (works_any (tab_on HT.out HB4.out)).mono ?_
          rintro e w5 ⟨rfl, hb5⟩
          have HZ := Lib.hid (HB4.out.trans (hb5.mono HB4.out.size))
          clear hb5
          go_wp2_with fail
          go_ret
          exact ⟨rfl, HZ.out⟩
      · have hd' : (d == 0) = false := by simp [hd]
        have HTF : Hid (∀ w, Calls Tryd.prog 10 #[.string a, .string b] w fun e w' => e = .returned (.bool false) ∧ Below w.heap.size w w') := Lib.hid fun w => (HTS.out w).mono fun e w' ⟨r, h1, h2, h3⟩ => ⟨by
          rw [h1]
          cases r with
          | true => exact absurd (h2.1 rfl).2.1 hd
          | false => rfl, h3⟩
        go_enter Tryd.func5, Tryd.ntmps5
        go_wp2_with fail
        refine (HX.out _).mono ?_
        rintro e w1 ⟨a1, k1, rfl, hL1, hb1⟩
        obtain ⟨N1, W1, hN1, hW1, hbx1, hLW1, hbW1⟩ := boxed hL1 hb1
        have H1 := Lib.hid hbW1
        clear hL1 hb1 hbx1 hLW1 hbW1
        go_wp2_with fail
        refine (HY.out _).mono ?_
        rintro e w2 ⟨a2, k2, rfl, hL2, hb2⟩
        obtain ⟨N2, W2, hN2, hW2, hbx2, hLW2, hbW2⟩ := boxed hL2 hb2
        have H2 := Lib.hid (H1.out.trans (hbW2.mono H1.out.size))
        clear hL2 hb2 hbx2 hLW2 hbW2
        go_wp2_with fail
        refine (HTF.out _).mono ?_
        rintro e w3 ⟨rfl, hb3⟩
        have H3 := Lib.hid (H2.out.trans (hb3.mono H2.out.size))
        clear hb3
        go_wp2_with fail
        refine (works_any (tab_on HT.out H3.out)).mono ?_
        rintro e w5 ⟨rfl, hb5⟩
        have HZ := Lib.hid (H3.out.trans (hb5.mono H3.out.size))
        clear hb5
        go_wp2_with fail
        go_ret
        exact ⟨rfl, HZ.out⟩
    · have hc' : (c == 0) = false := by simp [hc]
      have HTF : Hid (∀ w, Calls Tryd.prog 10 #[.string a, .string b] w fun e w' => e = .returned (.bool false) ∧ Below w.heap.size w w') := Lib.hid fun w => (HTS.out w).mono fun e w' ⟨r, h1, h2, h3⟩ => ⟨by
        rw [h1]
        cases r with
        | true => exact absurd (h2.1 rfl).1 hc
        | false => rfl, h3⟩
      go_enter Tryd.func5, Tryd.ntmps5
      go_wp2_with fail
      refine (HX.out _).mono ?_
      rintro e w1 ⟨a1, k1, rfl, hL1, hb1⟩
      obtain ⟨N1, W1, hN1, hW1, hbx1, hLW1, hbW1⟩ := boxed hL1 hb1
      have H1 := Lib.hid hbW1
      clear hL1 hb1 hbx1 hLW1 hbW1
      go_wp2_with fail
      refine (HY.out _).mono ?_
      rintro e w2 ⟨a2, k2, rfl, hL2, hb2⟩
      obtain ⟨N2, W2, hN2, hW2, hbx2, hLW2, hbW2⟩ := boxed hL2 hb2
      have H2 := Lib.hid (H1.out.trans (hbW2.mono H1.out.size))
      clear hL2 hb2 hbx2 hLW2 hbW2
      go_wp2_with fail
      refine (HTF.out _).mono ?_
      rintro e w3 ⟨rfl, hb3⟩
      have H3 := Lib.hid (H2.out.trans (hb3.mono H2.out.size))
      clear hb3
      go_wp2_with fail
      refine (works_any (tab_on HT.out H3.out)).mono ?_
      rintro e w5 ⟨rfl, hb5⟩
      have HZ := Lib.hid (H3.out.trans (hb5.mono H3.out.size))
      clear hb5
      go_wp2_with fail
      go_ret
      exact ⟨rfl, HZ.out⟩
end Go.Proofs.YtffhmbiamkbchaaDoor.exp
