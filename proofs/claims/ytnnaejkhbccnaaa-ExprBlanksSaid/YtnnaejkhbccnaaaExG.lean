/- ExprGood returns true at any text in whatever world, and turns nothing that was there. -/
import Derived.Test.YtnnaejkhbccnaaaExZg
import Derived.Test.YtnnaejkhbccnaaaExUb
namespace Go.Proofs.Ytnnaejkhbccnaaa.exp
set_option linter.unusedSimpArgs false
set_option linter.unusedVariables false
open Go.RowKit nam lex

/-- What is known of what is read. -/
theorem parseO_facts (s : ByteArray) : (parseO s).1.size ≤ 1000 ∧ ((parseO s).2.2 ≠ 0 → (parseO s).1 = Ex.zero) ∧ ((parseO s).2.2 = 0 → good FM (parseO s).1 1 = true ∧ (parseO s).1.dep ≤ 16 ∧ (parseO s).2.1 = 0) := by
  have hz : Ex.zero.size ≤ 1000 := by decide
  by_cases h : (toksO s).2.2 = 0
  · cases hp : par 4000 0 (toksO s).1 with
    | bad l => rw [parseO_bad h hp]; exact ⟨hz, fun _ => rfl, fun h => by simp at h⟩
    | ok x l =>
      obtain ⟨g1, g2⟩ := par_size hp
      have hl := (toks_ok s).2
      by_cases he : l = []
      · subst he
        by_cases hd : 16 < x.dep
        · have : parseO s = (Ex.zero, 0, 81) := by unfold parseO; rw [if_neg (by simp [h]), hp]; simp only []; rw [if_pos hd]
          rw [this]; exact ⟨hz, fun _ => rfl, fun h => by simp at h⟩
        · rw [parseO_ok h hp hd]
          exact ⟨by simp only []; omega, fun h => by simp at h, fun _ => ⟨(good_FM x 1).2 ⟨by omega, g2⟩, by simp only []; omega, rfl⟩⟩
      · rw [parseO_more h hp he]; exact ⟨hz, fun _ => rfl, fun h => by simp at h⟩
  · rw [parseO_err h]; exact ⟨hz, fun _ => rfl, fun h' => absurd h' h⟩

set_option maxHeartbeats 1600000 in
set_option maxRecDepth 1000000 in
theorem law_good (s : ByteArray) (w : World) : Calls Try.prog 6 #[.string s] w fun e w' => e = .returned (.bool true) ∧ Below w.heap.size w w' := by
  obtain ⟨hsz, hbad, hok⟩ := parseO_facts s
  have HP := Lib.hid (parse_any s w)
  obtain ⟨z, hz⟩ : ∃ z, parseO s = z := ⟨_, rfl⟩
  rw [hz] at hsz hbad hok HP
  obtain ⟨x, p, c⟩ := z
  simp only [] at hsz hbad hok
  have HSZ := Lib.hid hsz; have HBAD := Lib.hid hbad; have HOK := Lib.hid hok
  clear hsz hbad hok hz
  obtain ⟨n, hn⟩ : ∃ n : Int, (s.size : Int) = n := ⟨_, rfl⟩
  by_cases hl : n > 5000
  · go_enter Try.func6, Try.ntmps6
    go_wp2_with fail
    refine (works_any _).mono ?_
    rintro e w1 ⟨rfl, hb⟩
    have HB := Lib.hid hb; clear hb
    go_wp2_with fail
    try rw [Exit.noGoto_ret]
    go_ret
    exact ⟨rfl, HB.out⟩
  · go_enter Try.func6, Try.ntmps6
    go_wp2_with fail
    refine HP.out.mono ?_
    rintro e w1 ⟨a, k, rfl, hL, hb⟩
    simp only [] at hL hb
    obtain ⟨N0, hN0⟩ : ∃ N, w1.heap.size = N := ⟨_, rfl⟩
    obtain ⟨W, hW⟩ : ∃ W, w1.alloc (.cells #[.int .u8 (x.op : Int), .int .i64 x.n, .slice a x.args.length k] 24) = W := ⟨_, rfl⟩
    have hbW : Below w1.heap.size w1 W := by rw [← hW]; exact (Below.refl _ _).alloc (Nat.le_refl _) _
    have hbx : Bx W N0 (x.op : Int) x.n a x.args.length k := by rw [← hW]; exact heap_last hN0.symm
    have HL := Lib.hid (hL.under hbW)
    have HB := Lib.hid (hb.trans (hbW.mono hb.size))
    have HBX := Lib.hid hbx
    obtain ⟨e0, e1, e2, _⟩ := hbx.cells
    clear hL hb hbW hbx
    by_cases hc : c = 0
    · subst hc
      obtain ⟨hf, hd, hp⟩ := HOK.out rfl
      subst hp
      have HM := Lib.hid (may_any HL.out (by have := HSZ.out; omega))
      rw [hf] at HM
      unfold exV at HM
      have HD' := Lib.hid (show ((min 17 x.dep : Nat) : Int) ≤ 16 by omega)
      clear hf hd
      go_wp2_with fail
      refine HM.out.mono ?_
      rintro e w2 ⟨rfl, hb2⟩
      have HD := Lib.hid (deep_any (HL.out.under hb2) (by have := HSZ.out; omega))
      unfold exV at HD
      obtain ⟨e0, e1, e2, _⟩ := (HBX.out.under hb2).cells
      have HB2 := Lib.hid (HB.out.trans (hb2.mono HB.out.size))
      clear hb2
      go_wp2_with fail
      refine HD.out.mono ?_
      rintro e w3 ⟨rfl, hb3⟩
      have HB3 := Lib.hid (HB2.out.trans (hb3.mono HB2.out.size))
      obtain ⟨d, hd⟩ : ∃ d : Int, ((min 17 x.dep : Nat) : Int) = d := ⟨_, rfl⟩
      have hd16 := HD'.out
      rw [hd] at hd16 ⊢
      clear hd hb3
      go_wp2_with fail
      refine (works_any _).mono ?_
      rintro e w4 ⟨rfl, hb4⟩
      have HB4 := Lib.hid (HB3.out.trans (hb4.mono HB3.out.size))
      clear hb4
      go_wp2_with fail
      go_ret
      exact ⟨rfl, HB4.out⟩
    · obtain rfl := HBAD.out hc
      have HS := Lib.hid (same_any (y := Ex.zero) HL.out (Lies.nil (w := W) (B := Any)) (by have := HSZ.out; omega))
      have hc' : (c != 0) = true := by simp [hc]
      have hp0 : (0 : Int) ≤ (p : Int) := by omega
      unfold exV at HS
      go_wp2_with fail
      refine HS.out.mono ?_
      rintro e w2 ⟨r, rfl, hr, hb2⟩
      have hrt : r = true := hr.2 rfl
      subst hrt
      have HB2 := Lib.hid (HB.out.trans (hb2.mono HB.out.size))
      clear hb2 hr
      go_wp2_with fail
      refine (works_any _).mono ?_
      rintro e w4 ⟨rfl, hb4⟩
      have HB4 := Lib.hid (HB2.out.trans (hb4.mono HB2.out.size))
      clear hb4
      go_wp2_with fail
      go_ret
      exact ⟨rfl, HB4.out⟩
end Go.Proofs.Ytnnaejkhbccnaaa.exp
