/- What of, num and works answer; the document's examples. -/
import Derived.Test.YteicfdgadloheaaEvGH
import Derived.Test.YteicfdgadloheaaExZf
namespace Go.Proofs.Yteicfdgadloheaa.exp
set_option linter.unusedSimpArgs false
set_option linter.unusedVariables false
open Go.RowKit nam lex

theorem parse_of {s : ByteArray} {x : Ex} {p : Nat} {c : Int} (h : parseO s = (x, p, c)) (w : World) : Calls Try.prog 8 #[.string s] w fun e w' =>
    ∃ (a : Option Addr) (k : Nat), e = .returned (.tuple #[.agg #[.int .u8 (x.op : Int), .int .i64 x.n, .slice a x.args.length k], .int .i64 (p : Int), .int .i64 c]) ∧ Lies w' (From w) (.slice a x.args.length k) x.args ∧ Below w.heap.size w w' := by
  have := parse_any s w
  rw [h] at this
  exact this
/-- The three cells of a value. -/
def vL (t n : Int) (b : Bool) : Value := .agg #[.int .u8 t, .int .i64 n, .bool b]
set_option maxRecDepth 1000000 in
theorem eqv (t n : Int) (b : Bool) (w : World) : (Op.equalIn 10000 30 (.agg #[.int .u8 t, .int .i64 n, .bool b]) (.agg #[.int .u8 t, .int .i64 n, .bool b])).run Try.prog w = .ok true w := by
  have u2 := Try.underlying2
  have a2 := Try.isAgg2
  have z2 := Try.sizeOf2
  have u4 := Try.underlying4
  have a4 := Try.isAgg4
  have z4 := Try.sizeOf4
  have u5 := Try.underlying5
  have a5 := Try.isAgg5
  have z5 := Try.sizeOf5
  have hS : Try.prog.underlying 30 = some (.struct (Try.prog.fieldsOf 30)) := by kernel_rfl
  have hp : Try.prog.stoodInHeld 30 = false := by kernel_rfl
  rw [show (10000 : Nat) = 9999 + 1 from rfl, run_equalIn_agg w 9999 30 _ _ hS hp]
  simp only [Program.fieldsOf, Try.underlying30]
  go_simp
theorem guard30 : Try.prog.eqGuardType Try.prog.depth 30 = false := by kernel_rfl
set_option maxRecDepth 1000000 in
theorem num_any (n : Int) (w : World) : Calls Try.prog 11 #[.int .i64 n] w fun e w' => e = .returned (.agg #[.int .u8 1, .int .i64 n, .bool false]) ∧ Below w.heap.size w w' := by
  obtain ⟨N, hN⟩ : ∃ N, w.heap.size = N := ⟨_, rfl⟩
  obtain ⟨W, hW⟩ : ∃ W, w.alloc (.cells #[.int .u8 0, .int .i64 0, .bool false] 30) = W := ⟨_, rfl⟩
  have hb : Below w.heap.size w W := by rw [← hW]; exact (Below.refl _ _).alloc (Nat.le_refl _) _
  have hv : Bv W N 0 0 false := by unfold Bv; rw [← hW]; exact heap_last hN.symm
  obtain ⟨d0, d1, d2, d3, d4, d5⟩ := hv.cells
  obtain ⟨g0, g1, g2, _⟩ := (hv.set 1 n false).cells
  have HX : Hid (Below w.heap.size w (setV W N 1 n false)) := Lib.hid (below_setV hb (by omega))
  clear hb hv
  generalize hW3 : setV W N 1 n false = W3 at g0 g1 g2 HX
  unfold setV at hW3
  have HW3 := Lib.hid hW3; clear hW3
  go_enter Try.func11, Try.ntmps11
  go_wp2_with fail
  rw [HW3.out]
  refine bodyPost_ret (v := .agg #[.int .u8 1, .int .i64 n, .bool false]) (by simp [results, Try.f11, go_sem, g0, g1, g2]) rfl ⟨rfl, HX.out⟩
def env0 : En := ⟨7, 2, 0⟩
def envZ : En := ⟨0, 0, 0⟩
/-- What a text comes to. -/
theorem of_ok {s : ByteArray} {x : Ex} {p : Nat} {c : Int} (h : parseO s = (x, p, c)) (hs : x.size ≤ 1000000) {t n : Int} {b : Bool} (hr : doV env0 x = .agg #[.int .u8 t, .int .i64 n, .bool b]) (w : World) :
    Calls Try.prog 10 #[.string s] w fun e w' => e = .returned (.agg #[.int .u8 t, .int .i64 n, .bool b]) ∧ Below w.heap.size w w' := by
  obtain ⟨N, hN⟩ : ∃ N, w.heap.size = N := ⟨_, rfl⟩
  obtain ⟨W, hW⟩ : ∃ W, w.alloc (.cells #[.int .u8 0, .int .i64 0, .bool false] 30) = W := ⟨_, rfl⟩
  have hb : Below w.heap.size w W := by rw [← hW]; exact (Below.refl _ _).alloc (Nat.le_refl _) _
  have hv : Bv W N 0 0 false := by unfold Bv; rw [← hW]; exact heap_last hN.symm
  have HP := Lib.hid (parse_of h W)
  have HR := Lib.hid hr
  have HB := Lib.hid hb; have HV := Lib.hid hv; have HN := Lib.hid hN
  clear h hr hb hv
  go_enter Try.func10, Try.ntmps10
  go_wp2_with fail
  refine HP.out.mono ?_
  rintro e w1 ⟨a, k, rfl, hl, hb1⟩
  obtain ⟨M, hM⟩ : ∃ M, w1.heap.size = M := ⟨_, rfl⟩
  obtain ⟨W2, hW2⟩ : ∃ W2, w1.alloc (.cells #[.int .u8 (x.op : Int), .int .i64 x.n, .slice a x.args.length k] 24) = W2 := ⟨_, rfl⟩
  obtain ⟨c0, c1, c2⟩ := box_cells hW2
  rw [hM] at c0 c1 c2
  have hwb : Below w1.heap.size w1 W2 := by rw [← hW2]; exact (Below.refl _ _).alloc (Nat.le_refl _) _
  have hB1 := HB.out.trans (hb1.mono HB.out.size)
  have hB2 := hB1.trans (hwb.mono hB1.size)
  have hv2 := (HV.out.under hb1).under hwb
  have HD := Lib.hid (do_any env0 (hl.under hwb) hs)
  unfold exV enV at HD
  rw [HR.out] at HD
  have HB2 := Lib.hid hB2; have HV2 := Lib.hid hv2
  clear hl hb1 hwb hB1 hB2 hv2
  simp only [env0] at HD
  go_wp2_with fail
  refine HD.out.mono ?_
  rintro e w3 ⟨rfl, hb3⟩
  obtain ⟨L, hL⟩ : ∃ L, w3.heap.size = L := ⟨_, rfl⟩
  obtain ⟨W4, hW4⟩ : ∃ W4, w3.alloc (.cells #[.int .u8 t, .int .i64 n, .bool b] 30) = W4 := ⟨_, rfl⟩
  have hwb4 : Below w3.heap.size w3 W4 := by rw [← hW4]; exact (Below.refl _ _).alloc (Nat.le_refl _) _
  have hv4 : Bv W4 L t n b := by unfold Bv; rw [← hW4]; exact heap_last hL.symm
  have hvN := (HV2.out.under hb3).under hwb4
  have hB3 := HB2.out.trans (hb3.mono HB2.out.size)
  have hB4 := hB3.trans (hwb4.mono hB3.size)
  obtain ⟨e0, e1, e2, e3, e4, e5⟩ := hv4.cells
  obtain ⟨d0, d1, d2, d3, d4, d5⟩ := hvN.cells
  obtain ⟨g0, g1, g2, _⟩ := (hvN.set t n b).cells
  have HX : Hid (Below w.heap.size w (setV W4 N t n b)) := Lib.hid (below_setV hB4 (by have := HN.out; omega))
  clear hb3 hwb4 hv4 hvN hB3 hB4
  generalize hW5 : setV W4 N t n b = W5 at g0 g1 g2 HX
  unfold setV at hW5
  have HW5 := Lib.hid hW5; clear hW5
  go_wp2_with fail
  rw [HW5.out]
  refine bodyPost_ret (v := .agg #[.int .u8 t, .int .i64 n, .bool b]) (by simp [results, Try.f10, go_sem, g0, g1, g2]) rfl ⟨rfl, HX.out⟩
def nm (n : Int) : Ex := .mk 1 n []
def vr (o : Nat) : Ex := .mk o 0 []
def x1 : Ex := Ex.mk 10 0 [vr 2, vr 3]
theorem p1 : parseO ⟨#[107, 101, 121, 32, 47, 32, 118, 97, 108]⟩ = (x1, 0, 0) := by kernel_rfl
theorem z1 : x1.size ≤ 1000000 := by
  have : x1.size = 3 := by kernel_rfl
  omega
theorem v1 : doV env0 x1 = .agg #[.int .u8 1, .int .i64 3, .bool false] := by kernel_rfl
def x2 : Ex := Ex.mk 11 0 [vr 2, nm 0]
theorem p2 : parseO ⟨#[107, 101, 121, 32, 37, 32, 48]⟩ = (x2, 0, 0) := by kernel_rfl
theorem z2 : x2.size ≤ 1000000 := by
  have : x2.size = 3 := by kernel_rfl
  omega
theorem v2 : doV env0 x2 = .agg #[.int .u8 1, .int .i64 0, .bool false] := by kernel_rfl
def x3 : Ex := Ex.mk 5 0 [vr 2]
theorem p3 : parseO ⟨#[45, 107, 101, 121]⟩ = (x3, 0, 0) := by kernel_rfl
theorem z3 : x3.size ≤ 1000000 := by
  have : x3.size = 2 := by kernel_rfl
  omega
theorem v3 : doV env0 x3 = .agg #[.int .u8 1, .int .i64 (-7), .bool false] := by kernel_rfl
def x4 : Ex := Ex.mk 12 0 [vr 2, vr 3]
theorem p4 : parseO ⟨#[107, 101, 121, 32, 60, 32, 118, 97, 108]⟩ = (x4, 0, 0) := by kernel_rfl
theorem z4 : x4.size ≤ 1000000 := by
  have : x4.size = 3 := by kernel_rfl
  omega
theorem v4 : doV env0 x4 = .agg #[.int .u8 2, .int .i64 0, .bool false] := by kernel_rfl
def x5 : Ex := Ex.mk 18 0 [Ex.mk 12 0 [vr 2, vr 3], nm 1, nm 2]
theorem p5 : parseO ⟨#[105, 102, 32, 107, 101, 121, 32, 60, 32, 118, 97, 108, 32, 116, 104, 101, 110, 32, 49, 32, 101, 108, 115, 101, 32, 50]⟩ = (x5, 0, 0) := by kernel_rfl
theorem z5 : x5.size ≤ 1000000 := by
  have : x5.size = 6 := by kernel_rfl
  omega
theorem v5 : doV env0 x5 = .agg #[.int .u8 1, .int .i64 2, .bool false] := by kernel_rfl
def x6 : Ex := Ex.mk 12 0 [nm 1, nm 2]
theorem p6 : parseO ⟨#[49, 32, 60, 32, 50]⟩ = (x6, 0, 0) := by kernel_rfl
theorem z6 : x6.size ≤ 1000000 := by
  have : x6.size = 3 := by kernel_rfl
  omega
def x7 : Ex := nm 1
theorem p7 : parseO ⟨#[49]⟩ = (x7, 0, 0) := by kernel_rfl
theorem z7 : x7.size ≤ 1000000 := by
  have : x7.size = 1 := by kernel_rfl
  omega
theorem i6 : intO x6 envZ = 0 := by kernel_rfl
theorem b6 : boolO x6 envZ = true := by kernel_rfl
theorem b7 : boolO x7 envZ = false := by kernel_rfl
set_option maxRecDepth 1000000 in
theorem works_any (w : World) : Calls Try.prog 9 #[] w fun e w' => e = .returned (.bool true) ∧ Below w.heap.size w w' := by
  have hq := fun w0 => eqv 1 3 false w0
  have hgd := guard30
  go_enter Try.func9, Try.ntmps9
  go_wp2_with fail
  refine (of_ok p1 z1 v1 _).mono ?_
  rintro e w1 ⟨rfl, hb1⟩
  have HB1 := Lib.hid hb1; clear hb1
  go_wp2_with fail
  refine (num_any 3 _).mono ?_
  rintro e w2 ⟨rfl, hb2⟩
  have HB2 := Lib.hid (HB1.out.trans (hb2.mono HB1.out.size)); clear hb2
  go_wp2_with fail
  go_ret
  exact ⟨rfl, HB2.out⟩
end Go.Proofs.Yteicfdgadloheaa.exp
