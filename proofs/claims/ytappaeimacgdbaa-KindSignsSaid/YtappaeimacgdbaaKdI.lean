/- What is and works answer; the document's examples. -/
import Derived.Test.YtappaeimacgdbaaKdH
import Derived.Test.YtappaeimacgdbaaExZf
namespace Go.Proofs.Ytappaeimacgdbaa.exp
set_option linter.unusedSimpArgs false
set_option linter.unusedVariables false
open Go.RowKit nam lex

theorem parse_of {s : ByteArray} {x : Ex} {p : Nat} {c : Int} (h : parseO s = (x, p, c)) (w : World) : Calls Try.prog 16 #[.string s] w fun e w' =>
    ∃ (a : Option Addr) (k : Nat), e = .returned (.tuple #[.agg #[.int .u8 (x.op : Int), .int .i64 x.n, .slice a x.args.length k], .int .i64 (p : Int), .int .i64 c]) ∧ Lies w' (From w) (.slice a x.args.length k) x.args ∧ Below w.heap.size w w' := by
  have := parse_any s w
  rw [h] at this
  exact this
/-- The type that a text's expression has. -/
theorem is_ok {s : ByteArray} {x : Ex} (h : parseO s = (x, 0, 0)) (hs : x.size ≤ 1000000) (acc : Bool) {r : Nat × Int} (hr : kindO x acc = r) (w : World) :
    Calls Try.prog 8 #[.string s, .bool acc] w fun e w' => e = .returned (.tuple #[.int .u8 (r.1 : Int), .int .i64 r.2]) ∧ Below w.heap.size w w' := by
  have HP := Lib.hid (parse_of h w)
  have HR := Lib.hid hr
  clear h hr
  go_enter Try.func8, Try.ntmps8
  go_wp2_with fail
  refine HP.out.mono ?_
  rintro e w1 ⟨a, k, rfl, hl, hb1⟩
  obtain ⟨N, hN⟩ : ∃ N, w1.heap.size = N := ⟨_, rfl⟩
  obtain ⟨W, hW⟩ : ∃ W, w1.alloc (.cells #[.int .u8 (x.op : Int), .int .i64 x.n, .slice a x.args.length k] 28) = W := ⟨_, rfl⟩
  obtain ⟨c0, c1, c2⟩ := box_cells hW
  rw [hN] at c0 c1 c2
  have hwb : Below w1.heap.size w1 W := by rw [← hW]; exact (Below.refl _ _).alloc (Nat.le_refl _) _
  have HB := Lib.hid (hb1.trans (hwb.mono hb1.size))
  have HK := Lib.hid (kind_any (hl.under hwb) hs acc)
  unfold exV at HK
  rw [HR.out] at HK
  clear hl hb1 hwb
  go_wp2_with fail
  refine HK.out.mono ?_
  rintro e w2 ⟨rfl, hb2⟩
  have HX := Lib.hid (HB.out.trans (hb2.mono HB.out.size)); clear hb2
  go_wp2_with fail
  go_ret2
  exact ⟨rfl, HX.out⟩
def nm (n : Int) : Ex := .mk 1 n []
def vr (o : Nat) : Ex := .mk o 0 []
def x1 : Ex := .mk 7 0 [vr 2, nm 1]
def x2 : Ex := .mk 12 0 [vr 2, nm 1]
def x3 : Ex := .mk 6 0 [.mk 14 0 [nm 1, nm 2]]
def x4 : Ex := .mk 7 0 [nm 1, .mk 12 0 [nm 1, nm 2]]
def x5 : Ex := vr 4
def x6 : Ex := .mk 18 0 [nm 1, nm 2, nm 3]
theorem p1 : parseO ⟨#[107, 101, 121, 32, 43, 32, 49]⟩ = (x1, 0, 0) := by kernel_rfl
theorem p2 : parseO ⟨#[107, 101, 121, 32, 60, 32, 49]⟩ = (x2, 0, 0) := by kernel_rfl
theorem p3 : parseO ⟨#[33, 40, 49, 32, 61, 32, 50, 41]⟩ = (x3, 0, 0) := by kernel_rfl
theorem p4 : parseO ⟨#[49, 32, 43, 32, 40, 49, 32, 60, 32, 50, 41]⟩ = (x4, 0, 0) := by kernel_rfl
theorem p5 : parseO ⟨#[97, 99, 99]⟩ = (x5, 0, 0) := by kernel_rfl
theorem p6 : parseO ⟨#[105, 102, 32, 49, 32, 116, 104, 101, 110, 32, 50, 32, 101, 108, 115, 101, 32, 51]⟩ = (x6, 0, 0) := by kernel_rfl
theorem k1 : kindO x1 false = (1, 0) := by kernel_rfl
theorem k2 : kindO x2 false = (2, 0) := by kernel_rfl
theorem k3 : kindO x3 false = (2, 0) := by kernel_rfl
theorem k4 : kindO x4 false = (0, 91) := by kernel_rfl
theorem k5 : kindO x5 false = (0, 90) := by kernel_rfl
theorem k5' : kindO x5 true = (1, 0) := by kernel_rfl
theorem k6 : kindO x6 false = (0, 91) := by kernel_rfl
theorem z1 : x1.size ≤ 1000000 ∧ x2.size ≤ 1000000 ∧ x3.size ≤ 1000000 ∧ x4.size ≤ 1000000 ∧ x5.size ≤ 1000000 ∧ x6.size ≤ 1000000 := by
  have e1 : x1.size = 3 := by kernel_rfl
  have e2 : x2.size = 3 := by kernel_rfl
  have e3 : x3.size = 4 := by kernel_rfl
  have e4 : x4.size = 5 := by kernel_rfl
  have e5 : x5.size = 1 := by kernel_rfl
  have e6 : x6.size = 4 := by kernel_rfl
  omega
set_option maxRecDepth 1000000 in
theorem works_any (w : World) : Calls Try.prog 9 #[] w fun e w' => e = .returned (.bool true) ∧ Below w.heap.size w w' := by
  go_enter Try.func9, Try.ntmps9
  go_wp2_with fail
  refine (is_ok p1 z1.1 false k1 _).mono ?_
  rintro e w1 ⟨rfl, hb1⟩
  have HB1 := Lib.hid hb1; clear hb1
  go_wp2_with fail
  refine (is_ok p2 z1.2.1 false k2 _).mono ?_
  rintro e w2 ⟨rfl, hb2⟩
  have HB2 := Lib.hid (HB1.out.trans (hb2.mono HB1.out.size)); clear hb2
  go_wp2_with fail
  go_ret
  exact ⟨rfl, HB2.out⟩
set_option maxRecDepth 1000000 in
theorem law_known (w : World) : Calls Try.prog 3 #[] w fun e w' => e = .returned (.bool true) ∧ Below w.heap.size w w' := by
  go_enter Try.func3, Try.ntmps3
  go_wp2_with fail
  refine (is_ok p3 z1.2.2.1 false k3 _).mono ?_
  rintro e w1 ⟨rfl, hb1⟩
  have HB1 := Lib.hid hb1; clear hb1
  go_wp2_with fail
  refine (is_ok p4 z1.2.2.2.1 false k4 _).mono ?_
  rintro e w2 ⟨rfl, hb2⟩
  have HB2 := Lib.hid (HB1.out.trans (hb2.mono HB1.out.size)); clear hb2
  go_wp2_with fail
  refine (is_ok p5 z1.2.2.2.2.1 false k5 _).mono ?_
  rintro e w3 ⟨rfl, hb3⟩
  have HB3 := Lib.hid (HB2.out.trans (hb3.mono HB2.out.size)); clear hb3
  go_wp2_with fail
  refine (is_ok p6 z1.2.2.2.2.2 false k6 _).mono ?_
  rintro e w4 ⟨rfl, hb4⟩
  have HB4 := Lib.hid (HB3.out.trans (hb4.mono HB3.out.size)); clear hb4
  go_wp2_with fail
  refine (is_ok p5 z1.2.2.2.2.1 true k5' _).mono ?_
  rintro e w5 ⟨rfl, hb5⟩
  have HB5 := Lib.hid (HB4.out.trans (hb5.mono HB4.out.size)); clear hb5
  go_wp2_with fail
  refine (works_any _).mono ?_
  rintro e w6 ⟨rfl, hb6⟩
  have HB6 := Lib.hid (HB5.out.trans (hb6.mono HB5.out.size)); clear hb6
  go_wp2_with fail
  go_ret
  exact ⟨rfl, HB6.out⟩
end Go.Proofs.Ytappaeimacgdbaa.exp
