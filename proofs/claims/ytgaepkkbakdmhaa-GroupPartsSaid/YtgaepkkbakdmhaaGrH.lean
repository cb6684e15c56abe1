/- GroupParts returns true of every key and every par, in whatever world, and turns nothing that was there. -/
import Derived.Test.YtgaepkkbakdmhaaGrD
import Derived.Laws.StructEq
namespace Go.Proofs.Ytgaepkkbakdmhaa.grp
set_option linter.unusedSimpArgs false
set_option linter.unusedVariables false
open Go.RowKit

/-- How many groups each part has. -/
def Two (w : World) (N : Nat) (a b : Int) : Prop := w.heap[N]? = some (.cells #[.int .i64 a, .int .i64 b] 32 (0, 0))
theorem Two.cells {w : World} {N : Nat} {a b : Int} (h : Two w N a b) : w.cell? ⟨N, 0, none⟩ = some (.int .i64 a) ∧ w.cell? ⟨N, 1, none⟩ = some (.int .i64 b) ∧ (w.frozen? ⟨N, 0, none⟩ = false) ∧ (w.frozen? ⟨N, 1, none⟩ = false) :=
  ⟨by rw [cell_of_row w N 0 _ _ _ h]; rfl, by rw [cell_of_row w N 1 _ _ _ h]; rfl, frozen_of_row w N 0 _ _ h, frozen_of_row w N 1 _ _ h⟩
theorem Two.one {w : World} {N : Nat} {a b : Int} (h : Two w N a b) (x : Int) : Two (w.setCell ⟨N, 0, none⟩ (.int .i64 x)) N x b := heap_setCell_same w N 0 _ _ _ h
theorem Two.two {w : World} {N : Nat} {a b : Int} (h : Two w N a b) (x : Int) : Two (w.setCell ⟨N, 1, none⟩ (.int .i64 x)) N a x := heap_setCell_same w N 1 _ _ _ h
def PartRel (w wr : World) (k : Nat) : Prop := Two wr w.heap.size (min k 4 : Nat) (k - 4 : Nat) ∧ Below w.heap.size w wr
theorem two_eq (w : World) : (Op.equalIn 10000 32 (.agg #[.int .i64 4, .int .i64 4]) (.agg #[.int .i64 4, .int .i64 4])).run Try.prog w = .ok true w := by kernel_rfl
theorem part_lo {k : Nat} (h : k < 4) : pof k = 0 := by unfold pof gof; omega
theorem part_hi {k : Nat} (h : 4 ≤ k) (h8 : k < 8) : pof k = 1 := by unfold pof gof; omega

set_option maxHeartbeats 1600000 in
set_option maxRecDepth 1000000 in
theorem law_parts (key par : Int) (hk : fits key) (w : World) : Calls Try.prog 7 #[.int .i64 key, .int .i64 par] w fun e w' => e = .returned (.bool true) ∧ Below w.heap.size w w' := by
  obtain ⟨hx, hgx⟩ := xor_eight key
  obtain ⟨next, hn⟩ : ∃ next, bits .xor .i64 key 8 = next := ⟨_, rfl⟩
  rw [hn] at hx hgx
  have H1 := Lib.hid (fun w => of_any key w hk)
  have H2 := Lib.hid (fun w => of_any next w hx)
  have H3 := Lib.hid (fun w => part_any key w hk)
  have H4 := Lib.hid (fun w => part_any next w hx)
  have H5 := Lib.hid (fun w => place_any key par w hk)
  have H6 := Lib.hid (fun w => place_any next par w hx)
  have hp : pof next = pof key := by unfold pof; rw [hgx]
  have hl : plc next par = plc key par := by unfold plc; rw [hgx]
  rw [hgx] at H2
  rw [hp] at H4
  rw [hl] at H6
  obtain ⟨g, hg⟩ : ∃ g, gof key = g := ⟨_, rfl⟩
  obtain ⟨p, hp'⟩ : ∃ p, pof key = p := ⟨_, rfl⟩
  obtain ⟨q, hq⟩ : ∃ q, plc key par = q := ⟨_, rfl⟩
  rw [hg] at H1 H2
  rw [hp'] at H3 H4
  rw [hq] at H5 H6
  clear hx hgx hk hp hl hg hp' hq
  go_enter Try.func7, Try.ntmps7
  go_wp2_with fail
  go_loopg [10] 8 (fun g v10 wr => ∃ k : Nat, k + g = 8 ∧ v10 = .int .i64 k ∧ PartRel w wr k)
  case atStart => exact ⟨0, by omega, rfl, heap_alloc_new w _, below_made _ _⟩
  case round =>
    rename World => wr
    obtain ⟨k, hk, rfl, htwo, hb⟩ := hrel
    have HT := Lib.hid htwo; have HB := Lib.hid hb
    obtain ⟨c0, c1, f0, f1⟩ := htwo.cells
    cases gk with
    | zero =>
      have hkz : ¬ ((k : Int) < 8) := by omega
      obtain rfl : k = 8 := by omega
      have heq := two_eq wr
      clear htwo hb
      go_wp2_with fail
      refine (H1.out wr).mono ?_
      rintro e w1 ⟨rfl, rfl⟩
      go_wp2_with fail
      refine (H2.out w1).mono ?_
      rintro e w1 ⟨rfl, rfl⟩
      go_wp2_with fail
      refine (H3.out w1).mono ?_
      rintro e w1 ⟨rfl, rfl⟩
      go_wp2_with fail
      refine (H4.out w1).mono ?_
      rintro e w1 ⟨rfl, rfl⟩
      go_wp2_with fail
      refine (H5.out w1).mono ?_
      rintro e w1 ⟨rfl, rfl⟩
      go_wp2_with fail
      refine (H6.out w1).mono ?_
      rintro e w1 ⟨rfl, rfl⟩
      go_wp2_with fail
      refine (works_any w1).mono ?_
      rintro e w2 ⟨rfl, hb⟩
      have HB := Lib.hid (below_on' HB.out hb)
      clear hb
      go_wp2_with fail
      try rw [Exit.noGoto_ret]
      go_ret
      exact ⟨rfl, HB.out⟩
    | succ g =>
      have hkz : (k : Int) < 8 := by omega
      have HC := Lib.hid (part_any (k : Int) wr ⟨by omega, by omega⟩)
      by_cases h4 : k < 4
      · have e0 : ((min k 4 : Nat) : Int) = (k : Int) := by omega
        rw [part_lo h4] at HC
        rw [e0] at c0
        have HR2 : Hid (PartRel w (wr.setCell ⟨w.heap.size, 0, none⟩ (.int .i64 ((k : Int) + 1))) (k + 1)) := Lib.hid ⟨by
          have e1 : ((min (k + 1) 4 : Nat) : Int) = (k : Int) + 1 := by omega
          have e2 : k + 1 - 4 = k - 4 := by omega
          rw [e1, e2]
          exact htwo.one _, hb.setCell (p := ⟨w.heap.size, 0, none⟩) (Nat.le_refl _) _⟩
        clear htwo hb h4 e0
        go_wp2_with fail
        refine HC.out.mono ?_
        rintro e w2 ⟨rfl, rfl⟩
        go_wp2_with fail
        go_roundg g
        case measure => omega
        case rel => exact ⟨k + 1, by omega, by go_num, HR2.out⟩
      · rw [part_hi (by omega) (by omega)] at HC
        obtain ⟨m, hm⟩ : ∃ m, k - 4 = m := ⟨_, rfl⟩
        have hm4 : m < 4 := by omega
        rw [hm] at c1
        have HR2 : Hid (PartRel w (wr.setCell ⟨w.heap.size, 1, none⟩ (.int .i64 ((m : Int) + 1))) (k + 1)) := Lib.hid ⟨by
          have e1 : min (k + 1) 4 = min k 4 := by omega
          have e2 : ((k + 1 - 4 : Nat) : Int) = (m : Int) + 1 := by omega
          rw [e1, e2]
          exact htwo.two _, hb.setCell (p := ⟨w.heap.size, 1, none⟩) (Nat.le_refl _) _⟩
        clear htwo hb h4 hm
        go_wp2_with fail
        refine HC.out.mono ?_
        rintro e w2 ⟨rfl, rfl⟩
        go_wp2_with fail
        go_roundg g
        case measure => omega
        case rel => exact ⟨k + 1, by omega, by go_num, HR2.out⟩
end Go.Proofs.Ytgaepkkbakdmhaa.grp
