/- GroupShares returns true of every par, in whatever world, and turns nothing that was there. -/
import Derived.Test.YtgaepkkbakdmhaaGrD
namespace Go.Proofs.Ytgaepkkbakdmhaa.grp
set_option linter.unusedSimpArgs false
set_option linter.unusedVariables false
open Go.RowKit

theorem nil_of_irow {w : World} {v : Value} (h : IRow w v []) : ∃ a c, v = .slice a 0 c := by
  obtain ⟨a, c, rfl, -⟩ := h
  exact ⟨a, c, rfl⟩
/-- Owns of no place. -/
theorem owns_none {z par : Int} (h : owns z par = []) (w : World) : Calls Try.prog 12 #[.int .i64 z, .int .i64 par] w fun e w' => (∃ a c, e = .returned (.slice a 0 c)) ∧ Below w.heap.size w w' := by
  refine (owns_any z par w).mono ?_
  rintro e w' ⟨v, rfl, ho, hb⟩
  rw [h] at ho
  obtain ⟨a, c, rfl⟩ := nil_of_irow (own_irow ho)
  exact ⟨⟨a, c, rfl⟩, hb⟩
/-- What places have had. -/
def AllRel (par : Int) (w wr : World) (v3 : Value) (k : Nat) : Prop := wr.ownsRow w.heap.size 3 1 v3 (allL par k).length ((allL par k).map intV) ∧ Below w.heap.size w wr
theorem all_more {par : Int} {w wr w2 : World} {k : Nat} {v4 : Value} {r : Option Nat} (hb : Below w.heap.size w wr) (hr : ∀ j, r = some j → w.heap.size ≤ j)
    (k4 : w2.ownsRow w.heap.size 3 1 v4 ((allL par k).length + (owns k par).length) ((allL par k).map intV ++ (owns k par).map intV)) (g4 : wr.grownBy w2 r) : AllRel par w w2 v4 (k + 1) := by
  refine ⟨?_, hb.grown g4 hb.size hr⟩
  rw [allL_more]
  simpa using k4
theorem one_cell (l : List Int) : ∀ u ∈ l.map intV, u.oneCell' = true := by
  intro u hu
  obtain ⟨x, -, rfl⟩ := List.mem_map.1 hu
  rfl

set_option maxHeartbeats 1600000 in
set_option maxRecDepth 1000000 in
theorem law_shares (par : Int) (w : World) : Calls Try.prog 5 #[.int .i64 par] w fun e w' => e = .returned (.bool true) ∧ Below w.heap.size w w' := by
  obtain ⟨i0, hi, hz0, hz1, hz2⟩ := info_parts infoI
  cases hp : mayB par with
  | false =>
    have HE := Lib.hid (owns_no (z := 0) hp)
    rcases may_no hp with hq | ⟨hq, hq2⟩ <;>
      (clear hp
       go_enter Try.func5, Try.ntmps5
       go_wp2_with fail
       refine (owns_none HE.out w).mono ?_
       rintro e w1 ⟨⟨a, c, rfl⟩, hb⟩
       have HB := Lib.hid hb
       clear hb
       go_wp2_with fail
       refine (works_any w1).mono ?_
       rintro e w2 ⟨rfl, hb⟩
       have HB := Lib.hid (below_on' HB.out hb)
       clear hb
       go_wp2_with fail
       go_ret
       exact ⟨rfl, HB.out⟩)
  | true =>
    have HP := Lib.hid hp
    have hq : 1 ≤ par ∧ par ≤ 4 := by have := may_four hp; omega
    obtain ⟨hq1, hq2⟩ := hq
    clear hp
    obtain ⟨n, hn⟩ : ∃ n : Nat, (n : Int) = par := ⟨par.toNat, by omega⟩
    subst hn
    have HN : Hid (n ≤ 4) := Lib.hid (by omega)
    go_enter Try.func5, Try.ntmps5
    go_wp2_with fail
    go_loopg [3, 20] n (fun g v3 v20 wr => ∃ k : Nat, k + g = n ∧ v20 = .int .i64 k ∧ AllRel n w wr v3 k)
    case atStart => exact ⟨0, by omega, rfl, World.ownsRow_nil _ _ _ _, Below.refl _ _⟩
    case round =>
      rename World => wr
      obtain ⟨k, hk, rfl, hown, hb⟩ := hrel
      have HO := Lib.hid hown; have HB := Lib.hid hb
      have HL := Lib.hid (fun j hj => (hown.lt j hj).1)
      have hlen := allL_len n k
      cases gk with
      | zero =>
        have hkz : ¬ ((k : Int) < (n : Int)) := by omega
        obtain rfl : k = n := by omega
        have HA := Lib.hid (all_eight HP.out rfl)
        have HI := Lib.hid (own_irow hown)
        rw [HA.out] at HI
        clear hown hb hlen
        go_wp2_with fail
        refine (equal_same (HI.out.on (below_made _ _)) (irow_new wr [0, 1, 2, 3, 4, 5, 6, 7] 8 8 rfl _) (by decide)).mono ?_
        rintro e w1 ⟨rfl, hb⟩
        have HB := Lib.hid (below_on' HB.out (below_on' (below_made _ _) hb))
        clear hb
        go_wp2_with fail
        refine (owns_none (owns_out (by omega)) w1).mono ?_
        rintro e w2 ⟨⟨a, c, rfl⟩, hb⟩
        have HB := Lib.hid (below_on' HB.out hb)
        clear hb
        go_wp2_with fail
        refine (owns_none (owns_out (by omega)) w2).mono ?_
        rintro e w3 ⟨⟨a', c', rfl⟩, hb⟩
        have HB := Lib.hid (below_on' HB.out hb)
        clear hb
        go_wp2_with fail
        refine (works_any w3).mono ?_
        rintro e w4 ⟨rfl, hb⟩
        have HB := Lib.hid (below_on' HB.out hb)
        clear hb
        go_wp2_with fail
        try rw [Exit.noGoto_ret]
        go_ret
        exact ⟨rfl, HB.out⟩
      | succ g =>
        have hkz : (k : Int) < (n : Int) := by omega
        have HZ := Lib.hid (owns_some (z := k) HP.out (by omega) hkz)
        have HW := Lib.hid (owns_len k n)
        have HAL := Lib.hid hlen
        clear hown hb hlen
        go_wp2_with fail
        refine (owns_any k n wr).mono ?_
        rintro e w2 ⟨v, rfl, ho, hb⟩
        have HB := Lib.hid (below_on' HB.out hb)
        have HO := Lib.hid (own_below HO.out hb)
        have hz := HZ.out
        have hw := HW.out
        rcases own_cases ho with ⟨rfl, h0⟩ | ⟨gb, cap, rfl, _, _, _, hlt, hc⟩
        · exact absurd h0 (by omega)
        obtain ⟨m, hm⟩ : ∃ m, (owns (k : Int) (n : Int)).length = m := ⟨_, rfl⟩
        have HM := Lib.hid hm
        have HC : Hid (∀ j u, ((owns (k : Int) (n : Int)).map intV)[j]? = some u → w2.cell? ((⟨gb, 0, none⟩ : Addr).add j) = some u) := Lib.hid (fun j u hj => by
          have hadd : (⟨gb, 0, none⟩ : Addr).add j = ⟨gb, j, none⟩ := by unfold Addr.add; split <;> simp_all
          rw [hadd]; exact hc j u hj)
        rw [hm] at hz hw ⊢
        clear ho hb hc hm hlt
        have hm0 : ((m : Int) == 0) = false := by simp; omega
        have hal := HAL.out
        go_wp2_with (at_builtin; refine wpList_append_own _ rfl (.tmp 29) (.tmp 30) 26 rfl w.heap.size 3 i0 (.int .i64 0) 1 8 Try.underlying26 hi hz0 hz1 hz2 rfl (by decide) _ _ _ rfl HO.out ⟨gb, 0, none⟩ m cap ((owns (k : Int) (n : Int)).map intV) rfl (by rw [List.length_map, HM.out]; omega) HC.out (one_cell _) (by have := HN.out; unfold maxLen; omega) (by have := HN.out; omega) HB.out.size ?_)
        intro v4 w3 k4 g4 _
        rw [← HM.out] at k4
        have HR2 := Lib.hid (all_more HB.out HL.out k4 g4)
        clear k4 g4
        go_wp2_with fail
        go_roundg g
        case measure => omega
        case rel => exact ⟨k + 1, by omega, by go_num, HR2.out⟩
end Go.Proofs.Ytgaepkkbakdmhaa.grp
