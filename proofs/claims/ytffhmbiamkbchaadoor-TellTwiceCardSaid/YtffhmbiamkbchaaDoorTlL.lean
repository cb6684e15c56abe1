/- TellTwice returns true at any text in whatever world in which the library's table stands. -/
import Derived.Test.YtffhmbiamkbchaaDoorTlH
import Derived.Test.YtffhmbiamkbchaaDoorTlK
namespace Go.Proofs.YtffhmbiamkbchaaDoor.exp
set_option linter.unusedSimpArgs false
set_option linter.unusedVariables false
open Go.RowKit nam lex

set_option maxHeartbeats 3200000 in
set_option maxRecDepth 1000000 in
theorem law_twice (s : ByteArray) {w : World} (htab : Tab w.heap.size w) :
    Calls Tryd.prog 7 #[.string s] w fun e w' => e = .returned (.bool true) ∧ Below w.heap.size w w' := by
  have HT := Lib.hid htab
  clear htab
  obtain ⟨x, p, c, hx⟩ : ∃ x p c, parseO s = (x, p, c) := ⟨_, _, _, rfl⟩
  obtain ⟨hsz, _, hok⟩ := parseO_facts s
  have hnm := parseO_num s
  rw [hx] at hsz hok hnm
  simp only [] at hsz hok hnm
  have HX := Lib.hid (parse_of hx w)
  obtain ⟨n, hn⟩ : ∃ n : Int, (s.size : Int) = n := ⟨_, rfl⟩
  have HF := Lib.hid (And.intro hsz hnm)
  by_cases hl : n > 5000
  · clear hx hsz hok hnm
    go_enter Tryd.func7, Tryd.ntmps7
    go_wp2_with fail
    refine HX.out.mono ?_
    rintro e w1 ⟨a1, k1, rfl, hL1, hb1⟩
    obtain ⟨N1, W1, hN1, hW1, hbx1, hLW1, hbW1⟩ := boxed hL1 hb1
    have H1 := Lib.hid hbW1
    clear hL1 hb1 hbx1 hLW1 hbW1
    go_wp2_with fail
    refine (works_any (tab_on HT.out H1.out)).mono ?_
    rintro e w5 ⟨rfl, hb5⟩
    have HZ := Lib.hid (H1.out.trans (hb5.mono H1.out.size))
    clear hb5
    go_wp2_with fail
    try rw [Exit.noGoto_ret]
    go_ret
    exact ⟨rfl, HZ.out⟩
  by_cases hc : c = 0
  · subst hc
    obtain ⟨hg, _, _⟩ := hok rfl
    by_cases hw : 400 < x.line.length
    · have eC : lineC x = 110 := by unfold lineC; rw [if_pos hg, if_pos hw]
      clear hx hsz hok hnm hg hw
      go_enter Tryd.func7, Tryd.ntmps7
      go_wp2_with fail
      refine HX.out.mono ?_
      rintro e w1 ⟨a1, k1, rfl, hL1, hb1⟩
      obtain ⟨N1, W1, hN1, hW1, hbx1, hLW1, hbW1⟩ := boxed hL1 hb1
      obtain ⟨e0, e1, e2, _⟩ := hbx1.cells
      have HLI := Lib.hid (line_any hLW1 (by have := HF.out.1; omega) HF.out.2 (tab_on HT.out hbW1))
      rw [eC] at HLI
      unfold exV at HLI
      have H1 := Lib.hid hbW1
      clear hL1 hb1 hbx1 hLW1 hbW1
      go_wp2_with fail
      refine HLI.out.mono ?_
      rintro e w2 ⟨rfl, hb2⟩
      have H2 := Lib.hid (H1.out.trans (hb2.mono H1.out.size))
      clear hb2
      go_wp2_with fail
      refine (works_any (tab_on HT.out H2.out)).mono ?_
      rintro e w5 ⟨rfl, hb5⟩
      have HZ := Lib.hid (H2.out.trans (hb5.mono H2.out.size))
      clear hb5
      go_wp2_with fail
      try rw [Exit.noGoto_ret]
      go_ret
      exact ⟨rfl, HZ.out⟩
    · have eC : lineC x = 0 := by unfold lineC; rw [if_pos hg, if_neg hw]
      obtain ⟨t, ht⟩ : ∃ t, lineS x = t := ⟨_, rfl⟩
      have hpl : parseO t = (x, 0, 0) := by
        rw [← ht]
        unfold lineS
        rw [if_pos ⟨hg, hw⟩]
        exact parse_line hg hnm hw
      have hone : AreOne s t := by unfold AreOne; rw [hx, hpl]; exact ⟨rfl, rfl, rfl⟩
      have HO := Lib.hid (fun w => same_yes hone w)
      have HTE : Hid (∀ w : World, Tab w.heap.size w → Calls Tryd.prog 9 #[.string t] w fun e w' => e = .returned (.string t) ∧ Below w.heap.size w w') := Lib.hid fun w h => tells_any hpl ht h
      have HTT := Lib.hid ht
      have he := str_eq (rfl : t = t)
      clear hx hsz hok hnm hg hw hone hpl ht
      go_enter Tryd.func7, Tryd.ntmps7
      go_wp2_with fail
      refine HX.out.mono ?_
      rintro e w1 ⟨a1, k1, rfl, hL1, hb1⟩
      obtain ⟨N1, W1, hN1, hW1, hbx1, hLW1, hbW1⟩ := boxed hL1 hb1
      obtain ⟨e0, e1, e2, _⟩ := hbx1.cells
      have HLI := Lib.hid (line_any hLW1 (by have := HF.out.1; omega) HF.out.2 (tab_on HT.out hbW1))
      rw [eC, HTT.out] at HLI
      unfold exV at HLI
      have H1 := Lib.hid hbW1
      clear hL1 hb1 hbx1 hLW1 hbW1
      go_wp2_with fail
      refine HLI.out.mono ?_
      rintro e w2 ⟨rfl, hb2⟩
      have H2 := Lib.hid (H1.out.trans (hb2.mono H1.out.size))
      clear hb2
      go_wp2_with fail
      refine (HO.out _).mono ?_
      rintro e w3 ⟨rfl, hb3⟩
      have H3 := Lib.hid (H2.out.trans (hb3.mono H2.out.size))
      clear hb3
      go_wp2_with fail
      refine (HTE.out _ (tab_on HT.out H3.out)).mono ?_
      rintro e w4 ⟨rfl, hb4⟩
      have H4 := Lib.hid (H3.out.trans (hb4.mono H3.out.size))
      clear hb4
      go_wp2_with fail
      refine (works_any (tab_on HT.out H4.out)).mono ?_
      rintro e w5 ⟨rfl, hb5⟩
      have HZ := Lib.hid (H4.out.trans (hb5.mono H4.out.size))
      clear hb5
      go_wp2_with fail
      go_ret
      exact ⟨rfl, HZ.out⟩
  · have hc' : (c != 0) = true := by simp [hc]
    clear hx hsz hok hnm
    go_enter Tryd.func7, Tryd.ntmps7
    go_wp2_with fail
    refine HX.out.mono ?_
    rintro e w1 ⟨a1, k1, rfl, hL1, hb1⟩
    obtain ⟨N1, W1, hN1, hW1, hbx1, hLW1, hbW1⟩ := boxed hL1 hb1
    have H1 := Lib.hid hbW1
    clear hL1 hb1 hbx1 hLW1 hbW1
    go_wp2_with fail
    refine (works_any (tab_on HT.out H1.out)).mono ?_
    rintro e w5 ⟨rfl, hb5⟩
    have HZ := Lib.hid (H1.out.trans (hb5.mono H1.out.size))
    clear hb5
    go_wp2_with fail
    try rw [Exit.noGoto_ret]
    go_ret
    exact ⟨rfl, HZ.out⟩
end Go.Proofs.YtffhmbiamkbchaaDoor.exp
