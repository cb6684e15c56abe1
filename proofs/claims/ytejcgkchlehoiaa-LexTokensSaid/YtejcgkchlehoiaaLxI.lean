/- LexKnown returns true in whatever world, and turns nothing that was there. -/
import Derived.Test.YtejcgkchlehoiaaLxH
namespace Go.Proofs.Ytejcgkchlehoiaa.lex
set_option linter.unusedSimpArgs false
set_option linter.unusedVariables false
open Go.RowKit nam

theorem toksO_dollar : toksO ⟨#[49, 32, 36, 32, 50]⟩ = ([], 2, 70) := by kernel_rfl
theorem toksO_big : toksO ⟨#[195, 159, 32, 57, 50, 50, 51, 51, 55, 50, 48, 51, 54, 56, 53, 52, 55, 55, 53, 56, 48, 56]⟩ = ([], 2, 71) := by kernel_rfl
theorem toksO_most : toksO ⟨#[57, 50, 50, 51, 51, 55, 50, 48, 51, 54, 56, 53, 52, 55, 55, 53, 56, 48, 55]⟩ = ([⟨2, [], 9223372036854775807, 0⟩], 0, 0) := by kernel_rfl
/-- One token alone. -/
theorem one_token {w : World} {B : Nat} {v : Value} {t : Tok} (h : Toks w B v [t]) : ∃ g cap, v = .slice (some ⟨g, 0, none⟩) 1 cap ∧ g < w.heap.size ∧ w.cell? ⟨g, 0, none⟩ = some (.int .u8 t.kind) ∧ w.cell? ⟨g, 1, none⟩ = some (.string (textOf t.text)) ∧ w.cell? ⟨g, 2, none⟩ = some (.int .i64 t.n) := by
  obtain ⟨a, c, rfl, ha⟩ := toks_form h
  obtain ⟨g, rfl⟩ := ha (by simp)
  obtain ⟨c0, c1, c2, _, _⟩ := last_cells (done := []) h
  exact ⟨g, c, rfl, (toks_lt h).2, c0, c1, c2⟩

set_option maxHeartbeats 1600000 in
set_option maxRecDepth 1000000 in
theorem law_known (w : World) : Calls Try.prog 3 #[] w fun e w' => e = .returned (.bool true) ∧ Below w.heap.size w w' := by
  go_enter Try.func3, Try.ntmps3
  go_wp2_with fail
  refine (tokens_of toksO_dollar _).mono ?_
  rintro e w1 ⟨v1, rfl, _, hb1⟩
  have HB1 := Lib.hid hb1; clear hb1
  go_wp2_with fail
  refine (tokens_of toksO_big _).mono ?_
  rintro e w2 ⟨v2, rfl, _, hb2⟩
  have HB2 := Lib.hid (below_on' HB1.out hb2); clear hb2
  go_wp2_with fail
  refine (tokens_of toksO_most _).mono ?_
  rintro e w3 ⟨v3, rfl, ht, hb3⟩
  obtain ⟨g, cap, rfl, hg, _, _, hc⟩ := one_token ht
  have HB3 := Lib.hid (below_on' HB2.out hb3); clear hb3 ht
  go_wp2_with fail
  refine (works_any _).mono ?_
  rintro e w4 ⟨rfl, hb4⟩
  have hc4 : w4.cell? ⟨g, 2, none⟩ = some (.int .i64 9223372036854775807) := by rw [hb4.cell (p := ⟨g, 2, none⟩) hg]; exact hc
  have HB4 := Lib.hid (below_on' HB3.out hb4); clear hb4 hc
  go_wp2_with fail
  go_ret
  exact ⟨rfl, HB4.out⟩
end Go.Proofs.Ytejcgkchlehoiaa.lex
