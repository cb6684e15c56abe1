/- NamesKnown returns true in whatever world, and turns nothing that was there. -/
import Derived.Test.YtmhdjmfkndgboaaF
namespace Go.Proofs.Ytmhdjmfkndgboaa
open Go.RowKit

theorem words_a7 (w : World) : Calls Try.prog 9 #[.string ⟨#[97, 7]⟩] w fun e w' => ∃ v, e = .returned (.tuple #[v, .int .i64 10]) ∧ Below w.heap.size w w' := by
  refine (words_any _ w).mono ?_
  rintro e w' ⟨v, rfl, ho, hb⟩
  have : wordsO ⟨#[97, 7]⟩ = ([], 10) := by kernel_rfl
  exact ⟨v, by rw [this], hb⟩
theorem at_oess (w : World) : Calls Try.prog 10 #[.string ⟨#[195, 182, 195, 159]⟩, .int .i64 1] w fun e w' => e = .returned (.tuple #[.int .i32 223, .int .i64 2, .int .i64 0]) ∧ Below w.heap.size w w' := by
  refine (at_any ⟨#[195, 182, 195, 159]⟩ 1 w (by decide)).mono ?_
  rintro e w' ⟨rfl, hb⟩
  have h : (runesAt ⟨#[195, 182, 195, 159]⟩ 0)[1]? = some (2, 223) := by kernel_rfl
  exact ⟨atE_some (k := 1) h, hb⟩
theorem turned_aszc (w : World) : Calls Try.prog 11 #[.string ⟨#[97, 195, 159, 99]⟩] w fun e w' => e = .returned (.tuple #[.string ⟨#[99, 195, 159, 97]⟩, .int .i64 0]) ∧ Below w.heap.size w w' := by
  refine (turned_any ⟨#[97, 195, 159, 99]⟩ w (by decide)).mono ?_
  rintro e w' ⟨rfl, hb⟩
  have h : turnedO ⟨#[97, 195, 159, 99]⟩ = (⟨#[99, 195, 159, 97]⟩, 0) := by kernel_rfl
  exact ⟨turnedE_of h, hb⟩
theorem turned_ab1 (w : World) : Calls Try.prog 11 #[.string ⟨#[97, 98, 49]⟩] w fun e w' => e = .returned (.tuple #[.string ⟨#[97, 98, 49]⟩, .int .i64 0]) ∧ Below w.heap.size w w' := by
  refine (turned_any ⟨#[97, 98, 49]⟩ w (by decide)).mono ?_
  rintro e w' ⟨rfl, hb⟩
  have h : turnedO ⟨#[97, 98, 49]⟩ = (⟨#[97, 98, 49]⟩, 0) := by kernel_rfl
  exact ⟨turnedE_of h, hb⟩
theorem below_on {B : Nat} {w w' w'' : World} (h : Below B w w') (k : Below w'.heap.size w' w'') (hB : B ≤ w'.heap.size) : Below B w w'' := h.trans (k.mono hB)
theorem below_on' {w w' w'' : World} (h : Below w.heap.size w w') (k : Below w'.heap.size w' w'') : Below w.heap.size w w'' := h.trans (k.mono h.size)

set_option maxHeartbeats 1600000 in
set_option maxRecDepth 1000000 in
theorem law_known (w : World) : Calls Try.prog 3 #[] w fun e w' => e = .returned (.bool true) ∧ Below w.heap.size w w' := by
  have hab : nameB ⟨#[97, 32, 98]⟩ = false := by kernel_rfl
  have he : nameB ⟨#[]⟩ = false := by kernel_rfl
  have HAB := Lib.hid hab; have HE := Lib.hid he
  clear hab he
  go_enter Try.func3, Try.ntmps3
  go_wp2_with fail
  refine (words_a7 w).mono ?_
  rintro e w1 ⟨v, rfl, hb1⟩
  have HB := Lib.hid hb1; clear hb1
  go_wp2_with fail
  refine (at_oess _).mono ?_
  rintro e w2 ⟨rfl, hb⟩
  have HB := Lib.hid (below_on' HB.out hb); clear hb
  go_wp2_with fail
  refine (turned_aszc _).mono ?_
  rintro e w3 ⟨rfl, hb⟩
  have HB := Lib.hid (below_on' HB.out hb); clear hb
  go_wp2_with fail
  refine (turned_ab1 _).mono ?_
  rintro e w4 ⟨rfl, hb⟩
  have HB := Lib.hid (below_on' HB.out hb); clear hb
  go_wp2_with fail
  refine (works_any _).mono ?_
  rintro e w5 ⟨rfl, hb⟩
  have HB := Lib.hid (below_on' HB.out hb); clear hb
  go_wp2_with fail
  refine (name_false HAB.out _).mono ?_
  rintro e w6 ⟨rfl, hb⟩
  have HB := Lib.hid (below_on' HB.out hb); clear hb
  go_wp2_with fail
  refine (name_false HE.out _).mono ?_
  rintro e w7 ⟨rfl, hb⟩
  have HB := Lib.hid (below_on' HB.out hb); clear hb
  go_wp2_with fail
  go_ret
  exact ⟨rfl, HB.out⟩
end Go.Proofs.Ytmhdjmfkndgboaa
