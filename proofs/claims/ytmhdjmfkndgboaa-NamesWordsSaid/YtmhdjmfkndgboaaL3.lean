/- NamesAts returns true of every text and place, in whatever world, and turns nothing that was there. -/
import Derived.Test.YtmhdjmfkndgboaaL1
namespace Go.Proofs.Ytmhdjmfkndgboaa
open Go.RowKit

theorem at_none {s : ByteArray} {n : Int} (h : n < 0 ∨ (runesAt s 0).length ≤ n.toNat) (w : World) (hs : s.size ≤ 9223372036854775807) :
    Calls Try.prog 10 #[.string s, .int .i64 n] w fun e w' => e = .returned (.tuple #[.int .i32 0, .int .i64 0, .int .i64 2]) ∧ Below w.heap.size w w' := by
  have := at_any s n w hs; rwa [atE_none h] at this
theorem at_some {s : ByteArray} {k : Nat} {x : Nat × Nat} (h : (runesAt s 0)[k]? = some x) (w : World) (hs : s.size ≤ 9223372036854775807) :
    Calls Try.prog 10 #[.string s, .int .i64 k] w fun e w' => e = .returned (.tuple #[.int .i32 x.2, .int .i64 x.1, .int .i64 0]) ∧ Below w.heap.size w w' := by
  have := at_any s k w hs; rwa [atE_some h] at this
/-- What Runes leaves, ready to be read. -/
theorem runes_read (s : ByteArray) (w : World) (hs : s.size ≤ 1000000) : Calls Try.prog 14 #[.string s] w fun e w' =>
    ∃ a1 c1 a2 c2, e = .returned (.tuple #[.slice a1 (runesAt s 0).length c1, .slice a2 (runesAt s 0).length c2]) ∧ Below w.heap.size w w' ∧
      (0 < (runesAt s 0).length → ∃ g1 g2, a1 = some ⟨g1, 0, none⟩ ∧ a2 = some ⟨g2, 0, none⟩ ∧ g1 < w'.heap.size ∧ g2 < w'.heap.size ∧
        (∀ k x, (runesAt s 0)[k]? = some x → w'.cell? ⟨g1, k, none⟩ = some (.int .i32 x.2) ∧ w'.cell? ⟨g2, k, none⟩ = some (.int .i64 x.1))) := by
  refine (runes_any s w hs).mono ?_
  rintro e w' ⟨v1, v2, rfl, h1, h2, hb⟩
  obtain ⟨a1, c1, rfl, _, _⟩ := own_slice h1
  obtain ⟨a2, c2, rfl, _, _⟩ := own_slice h2
  refine ⟨a1, c1, a2, c2, rfl, hb, fun h0 => ?_⟩
  rcases own_cases h1 with ⟨_, h⟩ | ⟨g1, d1, e1, _, _, _, l1, k1⟩
  · omega
  rcases own_cases h2 with ⟨_, h⟩ | ⟨g2, d2, e2, _, _, _, l2, k2⟩
  · omega
  simp only [Value.slice.injEq] at e1 e2
  exact ⟨g1, g2, e1.1, e2.1, l1, l2, fun k x hx => ⟨k1 k _ (by rw [List.getElem?_map, hx]; rfl), k2 k _ (by rw [List.getElem?_map, hx]; rfl)⟩⟩

set_option maxHeartbeats 1600000 in
set_option maxRecDepth 1000000 in
theorem law_ats (s : ByteArray) (n : Int) (hs : s.size ≤ maxLen) (hwf : (Lit.int .i64 n).wf = true) (w : World) : Calls Try.prog 6 #[.string s, .int .i64 n] w fun e w' => e = .returned (.bool true) ∧ Below w.heap.size w w' := by
  unfold maxLen at hs
  by_cases hl : 5000 < s.size
  · go_enter Try.func6, Try.ntmps6
    go_wp2_with fail
    refine (works_any _).mono ?_
    rintro e w1 ⟨rfl, hb⟩
    have HB := Lib.hid hb; clear hb
    go_wp2_with fail
    go_ret
    exact ⟨rfl, HB.out⟩
  · have hrl := runesAt_length s 0
    by_cases hn : n < 0 ∨ (runesAt s 0).length ≤ n.toNat
    · have HN := Lib.hid hn
      by_cases h0 : n < 0
      · clear hn
        go_enter Try.func6, Try.ntmps6
        go_wp2_with fail
        refine (runes_read s _ (by omega)).mono ?_
        rintro e w1 ⟨a1, c1, a2, c2, rfl, hb, _⟩
        have HB := Lib.hid hb; clear hb
        go_wp2_with fail
        refine (at_none HN.out _ (by omega)).mono ?_
        rintro e w2 ⟨rfl, hb⟩
        have HB := Lib.hid (below_on' HB.out hb); clear hb
        go_wp2_with fail
        refine (works_any _).mono ?_
        rintro e w3 ⟨rfl, hb⟩
        have HB := Lib.hid (below_on' HB.out hb); clear hb
        go_wp2_with fail
        go_ret
        exact ⟨rfl, HB.out⟩
      · have h1 : ((runesAt s 0).length : Int) ≤ n := by omega
        clear hn
        go_enter Try.func6, Try.ntmps6
        go_wp2_with fail
        refine (runes_read s _ (by omega)).mono ?_
        rintro e w1 ⟨a1, c1, a2, c2, rfl, hb, _⟩
        have HB := Lib.hid hb; clear hb
        go_wp2_with fail
        refine (at_none HN.out _ (by omega)).mono ?_
        rintro e w2 ⟨rfl, hb⟩
        have HB := Lib.hid (below_on' HB.out hb); clear hb
        go_wp2_with fail
        refine (works_any _).mono ?_
        rintro e w3 ⟨rfl, hb⟩
        have HB := Lib.hid (below_on' HB.out hb); clear hb
        go_wp2_with fail
        go_ret
        exact ⟨rfl, HB.out⟩
    · obtain ⟨k, rfl⟩ : ∃ k : Nat, n = k := ⟨n.toNat, by omega⟩
      have hk : k < (runesAt s 0).length := by omega
      have hki : (k : Int) < ((runesAt s 0).length : Int) := by omega
      obtain ⟨x, hx⟩ : ∃ x, (runesAt s 0)[k]? = some x := ⟨_, List.getElem?_eq_getElem hk⟩
      have HX := Lib.hid hx
      clear hn hx
      go_enter Try.func6, Try.ntmps6
      go_wp2_with fail
      refine (runes_read s _ (by omega)).mono ?_
      rintro e w1 ⟨a1, c1, a2, c2, rfl, hb, hc⟩
      obtain ⟨g1, g2, rfl, rfl, l1, l2, hc⟩ := hc (by omega)
      have HB := Lib.hid hb; clear hb
      have HC := Lib.hid (hc k x HX.out); clear hc
      have HL1 := Lib.hid l1; have HL2 := Lib.hid l2; clear l1 l2
      go_wp2_with fail
      refine (at_some HX.out _ (by omega)).mono ?_
      rintro e w2 ⟨rfl, hb⟩
      have c1 := (hb.cell (p := ⟨g1, k, none⟩) HL1.out).trans HC.out.1
      have c2 := (hb.cell (p := ⟨g2, k, none⟩) HL2.out).trans HC.out.2
      have HB := Lib.hid (below_on' HB.out hb); clear hb
      go_wp2_with fail
      clear c1 c2
      refine (works_any _).mono ?_
      rintro e w3 ⟨rfl, hb⟩
      have HB := Lib.hid (below_on' HB.out hb); clear hb
      go_wp2_with fail
      go_ret
      exact ⟨rfl, HB.out⟩
end Go.Proofs.Ytmhdjmfkndgboaa
