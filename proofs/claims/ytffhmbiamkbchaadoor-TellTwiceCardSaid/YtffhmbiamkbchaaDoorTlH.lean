/- TellKnown returns true in whatever world in which the library's table stands. -/
import Derived.Test.YtffhmbiamkbchaaDoorTlG
import Derived.Test.YtffhmbiamkbchaaDoorTlT
namespace Go.Proofs.YtffhmbiamkbchaaDoor.exp
set_option linter.unusedSimpArgs false
set_option linter.unusedVariables false
open Go.RowKit nam lex

def kTree : Ex := .mk 18 0 [.mk 6 0 [.mk 12 0 [.mk 3 0 [], nm 3]], .mk 5 0 [nm 1], .mk 4 0 []]
theorem parse_k : parseO ⟨#[105, 102, 32, 33, 32, 40, 118, 97, 108, 32, 60, 32, 51, 41, 32, 116, 104, 101, 110, 32, 45, 49, 32, 101, 108, 115, 101, 32, 97, 99, 99]⟩ = (kTree, 0, 0) := by kernel_rfl
theorem line_k : lineS kTree = ⟨#[40, 105, 102, 32, 40, 33, 40, 118, 97, 108, 32, 60, 32, 51, 41, 41, 32, 116, 104, 101, 110, 32, 40, 45, 49, 41, 32, 101, 108, 115, 101, 32, 97, 99, 99, 41]⟩ := by kernel_rfl
def sumT (x y : Ex) : Ex := .mk 7 0 [x, y]
theorem parse_a1 : parseO ⟨#[49, 32, 43, 32, 50, 32, 43, 32, 51]⟩ = (sumT (sumT (nm 1) (nm 2)) (nm 3), 0, 0) := by kernel_rfl
theorem parse_b1 : parseO ⟨#[40, 49, 32, 43, 32, 50, 41, 32, 43, 32, 51]⟩ = (sumT (sumT (nm 1) (nm 2)) (nm 3), 0, 0) := by kernel_rfl
theorem parse_a2 : parseO ⟨#[49, 32, 43, 32, 50]⟩ = (sumT (nm 1) (nm 2), 0, 0) := by kernel_rfl
theorem parse_b2 : parseO ⟨#[50, 32, 43, 32, 49]⟩ = (sumT (nm 2) (nm 1), 0, 0) := by kernel_rfl
theorem one1 : AreOne ⟨#[49, 32, 43, 32, 50, 32, 43, 32, 51]⟩ ⟨#[40, 49, 32, 43, 32, 50, 41, 32, 43, 32, 51]⟩ := by unfold AreOne; rw [parse_a1, parse_b1]; exact ⟨rfl, rfl, rfl⟩
theorem one2 : ¬ AreOne ⟨#[49, 32, 43, 32, 50]⟩ ⟨#[50, 32, 43, 32, 49]⟩ := by
  unfold AreOne; rw [parse_a2, parse_b2]
  rintro ⟨_, _, h⟩
  have := congrArg (fun x : Ex => (x.args.headD Ex.zero).n) h
  exact absurd this (by decide)
theorem code_3 : (parseO ⟨#[]⟩).2.2 = 80 := by kernel_rfl
theorem one3 : ¬ AreOne ⟨#[]⟩ ⟨#[]⟩ := by
  unfold AreOne; rw [code_3]
  rintro ⟨h, _⟩
  cases h
theorem same_yes {a b : ByteArray} (h : AreOne a b) (w : World) : Calls Tryd.prog 10 #[.string a, .string b] w fun e w' => e = .returned (.bool true) ∧ Below w.heap.size w w' :=
  (tsame_any a b w).mono fun e w' ⟨r, h1, h2, h3⟩ => ⟨by rw [h1, h2.2 h], h3⟩
theorem same_no {a b : ByteArray} (h : ¬ AreOne a b) (w : World) : Calls Tryd.prog 10 #[.string a, .string b] w fun e w' => e = .returned (.bool false) ∧ Below w.heap.size w w' :=
  (tsame_any a b w).mono fun e w' ⟨r, h1, h2, h3⟩ => ⟨by
    rw [h1]
    cases r with
    | true => exact absurd (h2.1 rfl) h
    | false => rfl, h3⟩
set_option maxHeartbeats 1600000 in
set_option maxRecDepth 1000000 in
theorem law_known {w : World} (htab : Tab w.heap.size w) : Calls Tryd.prog 3 #[] w fun e w' => e = .returned (.bool true) ∧ Below w.heap.size w w' := by
  have HT := Lib.hid htab
  clear htab
  go_enter Tryd.func3, Tryd.ntmps3
  go_wp2_with fail
  refine (works_any HT.out).mono ?_
  rintro e w1 ⟨rfl, hb1⟩
  have HB1 := Lib.hid hb1; clear hb1
  go_wp2_with fail
  refine (tells_any parse_k line_k (tab_on HT.out HB1.out)).mono ?_
  rintro e w2 ⟨rfl, hb2⟩
  have HB2 := Lib.hid (HB1.out.trans (hb2.mono HB1.out.size)); clear hb2
  go_wp2_with fail
  refine (same_yes one1 _).mono ?_
  rintro e w3 ⟨rfl, hb3⟩
  have HB3 := Lib.hid (HB2.out.trans (hb3.mono HB2.out.size)); clear hb3
  go_wp2_with fail
  refine (same_no one2 _).mono ?_
  rintro e w4 ⟨rfl, hb4⟩
  have HB4 := Lib.hid (HB3.out.trans (hb4.mono HB3.out.size)); clear hb4
  go_wp2_with fail
  refine (same_no one3 _).mono ?_
  rintro e w5 ⟨rfl, hb5⟩
  have HB5 := Lib.hid (HB4.out.trans (hb5.mono HB4.out.size)); clear hb5
  go_wp2_with fail
  go_ret
  exact ⟨rfl, HB5.out⟩
end Go.Proofs.YtffhmbiamkbchaaDoor.exp
