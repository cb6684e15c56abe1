/- NamesOnly returns true of every text, in whatever world, and turns nothing that was there. -/
import Derived.Test.YtmhdjmfkndgboaaL1
namespace Go.Proofs.Ytmhdjmfkndgboaa
open Go.RowKit

theorem runes_facts {s : ByteArray} {P : Nat → Prop} (h : ∀ r ∈ rn s 0, P r) : ∀ x ∈ runesAt s 0, P x.2 := fun x hx => h x.2 (List.mem_map.2 ⟨x, hx, rfl⟩)
theorem wordsGo_in (s : ByteArray) (b : Nat) (acc : List ByteArray) (l : List (Nat × Nat)) (h : ∀ x ∈ l, mayB x.2 = true ∧ blkB x.2 = false) : wordsGo s true b acc l = some (acc ++ [s.extract b s.size]) := by
  induction l with
  | nil => rfl
  | cons x t ih =>
    obtain ⟨h1, h2⟩ := h x List.mem_cons_self
    obtain ⟨p, r⟩ := x
    simp only at h1 h2
    simp only [wordsGo, h1, h2, if_true]
    exact ih (fun y hy => h y (List.mem_cons_of_mem _ hy))
/-- A name is its only word. -/
theorem wordsO_name {s : ByteArray} (h : nameB s = true) : wordsO s = ([s], 0) := by
  obtain ⟨h1, h2, h3, _, h5⟩ := name_facts h
  have hpos : 0 < s.size := by
    rcases Nat.lt_or_ge 0 s.size with h0 | h0
    · exact h0
    · rw [rn_end s 0 (by omega)] at h1; simp at h1
  have hall := runes_facts (P := fun r => nruneB r = true) h3
  unfold wordsO
  rw [if_neg (by omega)]
  rw [runesAt_step s 0 hpos] at hall ⊢
  obtain ⟨_, k1, k2⟩ := nrune_facts (hall _ List.mem_cons_self)
  simp only at k1 k2
  have e : wordsGo s false 0 [] ((0, (Utf8.decode s 0).1) :: runesAt s (0 + (Utf8.decode s 0).2)) = some [s] := by
    simp only [wordsGo, k1, k2, if_true]
    show wordsGo s true 0 [] (runesAt s (0 + (Utf8.decode s 0).2)) = some [s]
    rw [wordsGo_in s 0 [] _ (fun x hx => (nrune_facts (hall x (List.mem_cons_of_mem _ hx))).2)]
    have : s.extract 0 s.size = s := by
      apply byteArray_ext
      rw [extract_toList, List.drop_zero, List.take_of_length_le (by simp)]
    rw [this]; rfl
  rw [e]
theorem words_name {s : ByteArray} (h : nameB s = true) (w : World) : Calls Try.prog 9 #[.string s] w fun e w' =>
    ∃ g cap, e = .returned (.tuple #[.slice (some ⟨g, 0, none⟩) 1 cap, .int .i64 0]) ∧ g < w'.heap.size ∧ w'.cell? ⟨g, 0, none⟩ = some (.string s) ∧ Below w.heap.size w w' := by
  refine (words_any s w).mono ?_
  rintro e w' ⟨v, rfl, ho, hb⟩
  rw [wordsO_name h] at ho
  rcases own_cases ho with ⟨_, h0⟩ | ⟨g, cap, rfl, _, _, _, h3, h4⟩
  · simp at h0
  · exact ⟨g, cap, by rw [wordsO_name h]; rfl, h3, h4 0 _ rfl, hb⟩
theorem many_of {s : ByteArray} {n : Nat} (h : (rn s 0).length = n) (w : World) (hs : s.size ≤ 9223372036854775807) : Calls Try.prog 16 #[.string s] w fun e w' => e = .returned (.int .i64 n) ∧ Below w.heap.size w w' := by
  have := many_any s w hs; rwa [h] at this
theorem turned_of {s t : ByteArray} {c : Int} (h : turnedO s = (t, c)) (w : World) (hs : s.size ≤ 1000000) : Calls Try.prog 11 #[.string s] w fun e w' => e = .returned (.tuple #[.string t, .int .i64 c]) ∧ Below w.heap.size w w' := by
  have := turned_any s w hs; rwa [turnedE_of h] at this

set_option maxHeartbeats 1600000 in
set_option maxRecDepth 1000000 in
theorem law_only (s : ByteArray) (hs : s.size ≤ maxLen) (w : World) : Calls Try.prog 7 #[.string s] w fun e w' => e = .returned (.bool true) ∧ Below w.heap.size w w' := by
  unfold maxLen at hs
  by_cases hl : 5000 < s.size
  · go_enter Try.func7, Try.ntmps7
    go_wp2_with fail
    refine (works_any _).mono ?_
    rintro e w1 ⟨rfl, hb⟩
    have HB := Lib.hid hb; clear hb
    go_wp2_with fail
    go_ret
    exact ⟨rfl, HB.out⟩
  · cases hn : nameB s with
    | false =>
      have HN := Lib.hid hn; clear hn
      go_enter Try.func7, Try.ntmps7
      go_wp2_with fail
      refine (name_false HN.out _).mono ?_
      rintro e w1 ⟨rfl, hb⟩
      have HB := Lib.hid hb; clear hb
      go_wp2_with fail
      refine (works_any _).mono ?_
      rintro e w2 ⟨rfl, hb⟩
      have HB := Lib.hid (below_on' HB.out hb); clear hb
      go_wp2_with fail
      go_ret
      exact ⟨rfl, HB.out⟩
    | true =>
      obtain ⟨hz, hn2, ht, hm⟩ := turned_twice hn
      obtain ⟨t, c, hto⟩ : ∃ t c, turnedO s = (t, c) := ⟨_, _, rfl⟩
      rw [hto] at hz hn2 ht hm
      simp only at hz hn2 ht hm
      subst hz
      obtain ⟨_, _, _, _, hts⟩ := name_facts hn2
      have HN := Lib.hid hn; have HT1 := Lib.hid hto; have HT2 := Lib.hid ht; have HM := Lib.hid hm
      clear hn hto ht hm hn2
      go_enter Try.func7, Try.ntmps7
      go_wp2_with fail
      refine (name_true HN.out _).mono ?_
      rintro e w1 ⟨rfl, hb⟩
      have HB := Lib.hid hb; clear hb
      go_wp2_with fail
      refine (words_name HN.out _).mono ?_
      rintro e w2 ⟨g, cap, rfl, hg, hc, hb⟩
      have HB := Lib.hid (below_on' HB.out hb); clear hb
      have HG := Lib.hid hg; have HC := Lib.hid hc
      clear hg hc
      go_wp2_with fail
      refine (turned_of HT1.out _ (by omega)).mono ?_
      rintro e w3 ⟨rfl, hb⟩
      have HC := Lib.hid ((hb.cell (p := ⟨g, 0, none⟩) HG.out).trans HC.out)
      have HG := Lib.hid (Nat.lt_of_lt_of_le HG.out hb.size)
      have HB := Lib.hid (below_on' HB.out hb); clear hb
      go_wp2_with fail
      refine (turned_of HT2.out _ (by omega)).mono ?_
      rintro e w4 ⟨rfl, hb⟩
      have HC := Lib.hid ((hb.cell (p := ⟨g, 0, none⟩) HG.out).trans HC.out)
      have HB := Lib.hid (below_on' HB.out hb); clear hb
      have hc := HC.out
      go_wp2_with fail
      clear hc
      refine (many_of HM.out _ (by omega)).mono ?_
      rintro e w5 ⟨rfl, hb⟩
      have HB := Lib.hid (below_on' HB.out hb); clear hb
      go_wp2_with fail
      refine (many_any _ _ (by omega)).mono ?_
      rintro e w6 ⟨rfl, hb⟩
      have HB := Lib.hid (below_on' HB.out hb); clear hb
      go_wp2_with fail
      refine (works_any _).mono ?_
      rintro e w7 ⟨rfl, hb⟩
      have HB := Lib.hid (below_on' HB.out hb); clear hb
      go_wp2_with fail
      go_ret
      exact ⟨rfl, HB.out⟩
end Go.Proofs.Ytmhdjmfkndgboaa
