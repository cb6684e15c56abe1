/- What changelingref01.Turned answers of a name; NamesNames returns true of every text. -/
import Derived.Test.YtmhdjmfkndgboaaG
namespace Go.Proofs.Ytmhdjmfkndgboaa
open Go.RowKit

theorem runesAt_get (s : ByteArray) : ∀ (m pos : Nat) (x : Nat × Nat), (runesAt s pos)[m]? = some x → x.1 < s.size ∧ x.2 = (Utf8.decode s x.1).1 ∧ runesAt s x.1 = (runesAt s pos).drop m := by
  intro m
  induction m with
  | zero =>
    intro pos x h
    by_cases hp : pos < s.size
    · rw [runesAt_step s pos hp] at h
      simp only [List.getElem?_cons_zero, Option.some.injEq] at h
      subst h
      exact ⟨hp, rfl, rfl⟩
    · rw [runesAt_end s pos hp] at h; simp at h
  | succ m ih =>
    intro pos x h
    by_cases hp : pos < s.size
    · rw [runesAt_step s pos hp] at h ⊢
      rw [List.getElem?_cons_succ] at h
      obtain ⟨h1, h2, h3⟩ := ih _ x h
      exact ⟨h1, h2, by rw [h3]; rfl⟩
    · rw [runesAt_end s pos hp] at h; simp at h
/-- A rune's piece of the text, up to where the next one begins. -/
theorem piece {s : ByteArray} {m : Nat} {x : Nat × Nat} (h : (runesAt s 0)[m]? = some x) (hr : x.2 ≠ 65533) (e : Nat)
    (he : (∃ y, (runesAt s 0)[m + 1]? = some y ∧ e = y.1) ∨ ((runesAt s 0)[m + 1]? = none ∧ e = s.size)) :
    x.1 ≤ e ∧ e ≤ s.size ∧ s.extract x.1 e = ⟨(enc x.2).toArray⟩ := by
  obtain ⟨h1, h2, h3⟩ := runesAt_get s m 0 x h
  obtain ⟨p, r⟩ := x
  simp only at h1 h2 h3 hr ⊢
  subst h2
  obtain ⟨k1, k2⟩ := enc_decode s p h1 hr
  rw [runesAt_step s p h1] at h3
  have h4 : runesAt s (p + (Utf8.decode s p).2) = (runesAt s 0).drop (m + 1) := by
    have := congrArg List.tail h3
    simpa using this
  have hw : e = p + (Utf8.decode s p).2 := by
    rcases he with ⟨y, hy, rfl⟩ | ⟨hn, rfl⟩
    · have h5 : (runesAt s (p + (Utf8.decode s p).2))[0]? = some y := by rw [h4]; simpa using hy
      by_cases hp : p + (Utf8.decode s p).2 < s.size
      · rw [runesAt_step s _ hp] at h5
        simp only [List.getElem?_cons_zero, Option.some.injEq] at h5
        rw [← h5]
      · rw [runesAt_end s _ hp] at h5; simp at h5
    · have h5 : (runesAt s (p + (Utf8.decode s p).2))[0]? = none := by rw [h4]; simpa using hn
      by_cases hp : p + (Utf8.decode s p).2 < s.size
      · rw [runesAt_step s _ hp] at h5; simp at h5
      · omega
  subst hw
  refine ⟨by omega, k1, ?_⟩
  apply byteArray_ext
  rw [extract_toList', ← k2]
theorem turn_more {s : ByteArray} {m r : Nat} {t : ByteArray} (h : (rn s 0)[m]? = some r) (ht : t = ⟨(enc r).toArray⟩) : textOf ((rn s 0).drop (m + 1)).reverse ++ t = textOf ((rn s 0).drop m).reverse := by
  subst ht
  have hlt : m < (rn s 0).length := by
    rcases Nat.lt_or_ge m (rn s 0).length with h1 | h1
    · exact h1
    · rw [List.getElem?_eq_none h1] at h; cases h
  rw [List.getElem?_eq_getElem hlt] at h
  cases h
  apply byteArray_ext
  rw [append_toList, textOf_toList, textOf_toList, List.drop_eq_getElem_cons hlt]
  simp only [List.reverse_cons, List.flatMap_append, List.flatMap_cons, List.flatMap_nil, List.append_nil]
theorem textOf_bound (s : ByteArray) (m : Nat) : (textOf ((rn s 0).drop m).reverse).size ≤ 4 * s.size := by
  rw [textOf_size]
  have h1 := flat_length ((rn s 0).drop m).reverse
  have h2 := rn_length s 0
  simp only [List.length_reverse, List.length_drop] at h1
  omega
theorem refName_true {s : ByteArray} (h : nameB s = true) (w : World) (hs : s.size ≤ 1000000) : Calls Try.prog 15 #[.string s] w fun e w' => e = .returned (.bool true) ∧ Below w.heap.size w w' := by
  have := refName_any s w hs; rwa [h] at this
theorem refName_false {s : ByteArray} (h : nameB s = false) (w : World) (hs : s.size ≤ 1000000) : Calls Try.prog 15 #[.string s] w fun e w' => e = .returned (.bool false) ∧ Below w.heap.size w w' := by
  have := refName_any s w hs; rwa [h] at this
theorem ret_string {a b : ByteArray} (h : a = b) : Ending.returned (.string a) = .returned (.string b) := by rw [h]

theorem runes_facts' {s : ByteArray} (h : ∀ r ∈ rn s 0, nruneB r = true) : ∀ x ∈ runesAt s 0, x.2 ≠ 65533 := fun x hx => (nrune_facts (h x.2 (List.mem_map.2 ⟨x, hx, rfl⟩))).1

set_option maxHeartbeats 1600000 in
set_option maxRecDepth 1000000 in
theorem refTurned_any (s : ByteArray) (w : World) (hn : nameB s = true) : Calls Try.prog 17 #[.string s] w fun e w' => e = .returned (.string (turnedO s).1) ∧ Below w.heap.size w w' := by
  obtain ⟨h1, h2, h3, h4, h5⟩ := name_facts hn
  rw [rn_len] at h1 h2
  have HALL := Lib.hid (runes_facts' h3)
  have HN := Lib.hid hn
  clear hn h3 h4
  go_enter Try.func17, Try.ntmps17
  go_wp2_with fail
  refine (runes_read s _ (by omega)).mono ?_
  rintro e w1 ⟨a1, c1, a2, c2, rfl, hb, hc⟩
  obtain ⟨g1, g2, rfl, rfl, _, _, hc⟩ := hc (by omega)
  have HB := Lib.hid hb
  have HC := Lib.hid hc
  clear hc hb
  go_wp2_with fail
  go_loop [5, 6] (fun t i => ∃ (k : Nat) (j : Int), k ≤ (runesAt s 0).length ∧ t = .string (textOf (List.reverse ((rn s 0).drop k))) ∧ i = .int .i64 j ∧ j + 1 = k) (fun _ i => (intOf i + 1).toNat)
  case atStart => exact ⟨(runesAt s 0).length, ((runesAt s 0).length : Int) - 1, Nat.le_refl _, by rw [← rn_len, List.drop_length]; rfl, rfl, by omega⟩
  case round =>
    obtain ⟨k, j, hk, rfl, rfl, hj⟩ := hrel
    have hts := textOf_bound s k
    by_cases h0 : j < 0
    · obtain rfl : k = 0 := by omega
      obtain rfl : j = -1 := by omega
      rw [List.drop_zero] at hts ⊢
      clear hj
      cases h6 : nameB (textOf (rn s 0).reverse) with
      | true =>
        have H6 := Lib.hid h6; clear h6
        go_wp2_with fail
        refine (refName_true H6.out _ (by omega)).mono ?_
        rintro e w2 ⟨rfl, hb⟩
        have HB := Lib.hid (below_on' HB.out hb); clear hb
        go_wp2_with fail
        go_ret
        exact ⟨by rw [turned_other HN.out H6.out]; rfl, HB.out⟩
      | false =>
        have H6 := Lib.hid h6; clear h6
        go_wp2_with fail
        refine (refName_false H6.out _ (by omega)).mono ?_
        rintro e w2 ⟨rfl, hb⟩
        have HB := Lib.hid (below_on' HB.out hb); clear hb
        go_wp2_with fail
        go_ret
        exact ⟨by rw [turned_self HN.out H6.out]; rfl, HB.out⟩
    · obtain ⟨m, rfl⟩ : ∃ m : Nat, j = m := ⟨j.toNat, by omega⟩
      obtain rfl : k = m + 1 := by omega
      clear hj
      obtain ⟨x, hx⟩ : ∃ x, (runesAt s 0)[m]? = some x := ⟨_, List.getElem?_eq_getElem (by omega)⟩
      have hc := (HC.out m x hx).2
      have hm0 : (0 : Int) ≤ m := by omega
      by_cases hlast : m + 1 < (runesAt s 0).length
      · obtain ⟨y, hy⟩ : ∃ y, (runesAt s 0)[m + 1]? = some y := ⟨_, List.getElem?_eq_getElem hlast⟩
        have hc2 := (HC.out (m + 1) y hy).2
        obtain ⟨p1, p2, p3⟩ := piece hx (HALL.out x (List.mem_of_getElem? hx)) y.1 (Or.inl ⟨y, hy, rfl⟩)
        have HT := Lib.hid (turn_more (rn_get hx) p3)
        have hps : (s.extract x.1 y.1).size ≤ 4 := by rw [p3]; exact (enc_length _).2
        have p1' : (x.1 : Int) ≤ (y.1 : Int) := by omega
        have p2' : (y.1 : Int) ≤ (s.size : Int) := by omega
        clear hx hy p3
        go_wp2_with fail
        go_round
        case rel => exact ⟨m, (m : Int) - 1, by omega, by rw [HT.out], rfl, by omega⟩
        case measure => simp [intOf]
      · obtain ⟨p1, p2, p3⟩ := piece hx (HALL.out x (List.mem_of_getElem? hx)) s.size (Or.inr ⟨List.getElem?_eq_none (by omega), rfl⟩)
        have HT := Lib.hid (turn_more (rn_get hx) p3)
        have hps : (s.extract x.1 s.size).size ≤ 4 := by rw [p3]; exact (enc_length _).2
        have p1' : (x.1 : Int) ≤ (s.size : Int) := by omega
        clear hx p3
        go_wp2_with fail
        go_round
        case rel => exact ⟨m, (m : Int) - 1, by omega, by rw [HT.out], rfl, by omega⟩
        case measure => simp [intOf]
theorem refTurned_of {s t : ByteArray} {c : Int} (hn : nameB s = true) (h : turnedO s = (t, c)) (w : World) : Calls Try.prog 17 #[.string s] w fun e w' => e = .returned (.string t) ∧ Below w.heap.size w w' := by
  have := refTurned_any s w hn; rwa [h] at this
theorem turned_of {s t : ByteArray} {c : Int} (h : turnedO s = (t, c)) (w : World) (hs : s.size ≤ 1000000) : Calls Try.prog 11 #[.string s] w fun e w' => e = .returned (.tuple #[.string t, .int .i64 c]) ∧ Below w.heap.size w w' := by
  have := turned_any s w hs; rwa [turnedE_of h] at this
theorem many_runes {s : ByteArray} (w : World) (hs : s.size ≤ 1000000) : Calls Try.prog 16 #[.string s] w fun e w' => e = .returned (.int .i64 (runesAt s 0).length) ∧ Below w.heap.size w w' := by
  have := many_any s w (by omega); rwa [rn_len] at this

set_option maxHeartbeats 1600000 in
set_option maxRecDepth 1000000 in
theorem law_names (s : ByteArray) (hs : s.size ≤ maxLen) (w : World) : Calls Try.prog 4 #[.string s] w fun e w' => e = .returned (.bool true) ∧ Below w.heap.size w w' := by
  unfold maxLen at hs
  by_cases hl : 5000 < s.size
  · go_enter Try.func4, Try.ntmps4
    go_wp2_with fail
    refine (works_any _).mono ?_
    rintro e w1 ⟨rfl, hb⟩
    have HB := Lib.hid hb; clear hb
    go_wp2_with fail
    go_ret
    exact ⟨rfl, HB.out⟩
  · cases hn : nameB s with
    | false =>
      have HN := Lib.hid hn; clear hn
      go_enter Try.func4, Try.ntmps4
      go_wp2_with fail
      refine (runes_read s _ (by omega)).mono ?_
      rintro e w1 ⟨a1, c1, a2, c2, rfl, hb, _⟩
      have HB := Lib.hid hb; clear hb
      go_wp2_with fail
      refine (turned_of (turned_bad HN.out) _ (by omega)).mono ?_
      rintro e w2 ⟨rfl, hb⟩
      have HB := Lib.hid (below_on' HB.out hb); clear hb
      go_wp2_with fail
      refine (name_false HN.out _).mono ?_
      rintro e w3 ⟨rfl, hb⟩
      have HB := Lib.hid (below_on' HB.out hb); clear hb
      go_wp2_with fail
      refine (refName_false HN.out _ (by omega)).mono ?_
      rintro e w4 ⟨rfl, hb⟩
      have HB := Lib.hid (below_on' HB.out hb); clear hb
      go_wp2_with fail
      refine (many_runes _ (by omega)).mono ?_
      rintro e w5 ⟨rfl, hb⟩
      have HB := Lib.hid (below_on' HB.out hb); clear hb
      go_wp2_with fail
      refine (refName_false HN.out _ (by omega)).mono ?_
      rintro e w6 ⟨rfl, hb⟩
      have HB := Lib.hid (below_on' HB.out hb); clear hb
      go_wp2_with fail
      refine (works_any _).mono ?_
      rintro e w7 ⟨rfl, hb⟩
      have HB := Lib.hid (below_on' HB.out hb); clear hb
      go_wp2_with fail
      go_ret
      exact ⟨rfl, HB.out⟩
    | true =>
      obtain ⟨hz, _, _, _⟩ := turned_twice hn
      obtain ⟨t, c, hto⟩ : ∃ t c, turnedO s = (t, c) := ⟨_, _, rfl⟩
      rw [hto] at hz
      simp only at hz
      subst hz
      have HN := Lib.hid hn; have HT := Lib.hid hto
      clear hn hto
      go_enter Try.func4, Try.ntmps4
      go_wp2_with fail
      refine (runes_read s _ (by omega)).mono ?_
      rintro e w1 ⟨a1, c1, a2, c2, rfl, hb, _⟩
      have HB := Lib.hid hb; clear hb
      go_wp2_with fail
      refine (turned_of HT.out _ (by omega)).mono ?_
      rintro e w2 ⟨rfl, hb⟩
      have HB := Lib.hid (below_on' HB.out hb); clear hb
      go_wp2_with fail
      refine (name_true HN.out _).mono ?_
      rintro e w3 ⟨rfl, hb⟩
      have HB := Lib.hid (below_on' HB.out hb); clear hb
      go_wp2_with fail
      refine (refName_true HN.out _ (by omega)).mono ?_
      rintro e w4 ⟨rfl, hb⟩
      have HB := Lib.hid (below_on' HB.out hb); clear hb
      go_wp2_with fail
      refine (many_runes _ (by omega)).mono ?_
      rintro e w5 ⟨rfl, hb⟩
      have HB := Lib.hid (below_on' HB.out hb); clear hb
      go_wp2_with fail
      refine (refName_true HN.out _ (by omega)).mono ?_
      rintro e w6 ⟨rfl, hb⟩
      have HB := Lib.hid (below_on' HB.out hb); clear hb
      go_wp2_with fail
      refine (refTurned_of HN.out HT.out _).mono ?_
      rintro e w7 ⟨rfl, hb⟩
      have HB := Lib.hid (below_on' HB.out hb); clear hb
      go_wp2_with fail
      refine (works_any _).mono ?_
      rintro e w8 ⟨rfl, hb⟩
      have HB := Lib.hid (below_on' HB.out hb); clear hb
      go_wp2_with fail
      go_ret
      exact ⟨rfl, HB.out⟩
end Go.Proofs.Ytmhdjmfkndgboaa
