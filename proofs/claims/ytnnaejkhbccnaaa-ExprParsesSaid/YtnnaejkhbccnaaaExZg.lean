/- What num, of, reads and works answer. -/
import Derived.Test.YtnnaejkhbccnaaaExZf
import Derived.Test.YtnnaejkhbccnaaaExS
namespace Go.Proofs.Ytnnaejkhbccnaaa.exp
set_option linter.unusedSimpArgs false
set_option linter.unusedVariables false
open Go.RowKit nam lex

theorem num_any (n : Int) (w : World) : Calls Try.prog 13 #[.int .i64 n] w fun e w' => e = .returned (.agg #[.int .u8 1, .int .i64 n, .slice none 0 0]) ∧ Below w.heap.size w w' := by
  obtain ⟨W, hW⟩ : ∃ W, w.alloc (.cells #[.int .u8 0, .int .i64 0, .slice none 0 0] 24) = W := ⟨_, rfl⟩
  obtain ⟨N0, hN0⟩ : ∃ N, w.heap.size = N := ⟨_, rfl⟩
  have hb0 : Bx W N0 0 0 none 0 0 := by rw [← hW]; exact heap_last hN0.symm
  obtain ⟨a1, a2, a3, a4, a5, a6⟩ := hb0.cells
  have HB : Hid (Below w.heap.size w (set3 W N0 1 n none 0 0)) := Lib.hid (only_none (set3_only (F := fun _ => False) (Only.of_below (by rw [← hW]; exact (Below.refl _ _).alloc (Nat.le_refl _) _)) (by omega)) (fun k h => h))
  clear hb0
  go_enter Try.func13, Try.ntmps13
  go_wp2_with fail
  refine bodyPost_ret (v := .agg #[.int .u8 1, .int .i64 n, .slice none 0 0]) (by simp [results, Try.f13, go_sem, a1, a2, a3]) rfl ⟨rfl, HB.out⟩
theorem of_any (o : Int) (p : Option Addr) (n c : Nat) (w : World) : Calls Try.prog 12 #[.int .u8 o, .slice p n c] w fun e w' => e = .returned (.agg #[.int .u8 o, .int .i64 0, .slice p n c]) ∧ Below w.heap.size w w' := by
  obtain ⟨W, hW⟩ : ∃ W, w.alloc (.cells #[.int .u8 0, .int .i64 0, .slice none 0 0] 24) = W := ⟨_, rfl⟩
  obtain ⟨N0, hN0⟩ : ∃ N, w.heap.size = N := ⟨_, rfl⟩
  have hb0 : Bx W N0 0 0 none 0 0 := by rw [← hW]; exact heap_last hN0.symm
  obtain ⟨a1, a2, a3, a4, a5, a6⟩ := hb0.cells
  have HB : Hid (Below w.heap.size w (set3 W N0 o 0 p n c)) := Lib.hid (only_none (set3_only (F := fun _ => False) (Only.of_below (by rw [← hW]; exact (Below.refl _ _).alloc (Nat.le_refl _) _)) (by omega)) (fun k h => h))
  clear hb0
  go_enter Try.func12, Try.ntmps12
  go_wp2_with fail
  refine bodyPost_ret (v := .agg #[.int .u8 o, .int .i64 0, .slice p n c]) (by simp [results, Try.f12, go_sem, a1, a2, a3]) rfl ⟨rfl, HB.out⟩
theorem parse_of {s : ByteArray} {x : Ex} {p : Nat} {c : Int} (h : parseO s = (x, p, c)) (w : World) : Calls Try.prog 9 #[.string s] w fun e w' =>
    ∃ (a : Option Addr) (k : Nat), e = .returned (.tuple #[.agg #[.int .u8 (x.op : Int), .int .i64 x.n, .slice a x.args.length k], .int .i64 (p : Int), .int .i64 c]) ∧ Lies w' (From w) (.slice a x.args.length k) x.args ∧ Below w.heap.size w w' := by
  have := parse_any s w
  rw [h] at this
  exact this
set_option maxRecDepth 1000000 in
theorem reads_yes {s : ByteArray} {y : Ex} (h : parseO s = (y, 0, 0)) (hs : y.size ≤ 1000) {F : Nat → Prop} {a : Option Addr} {k : Nat} {w : World} (hy : Lies w F (.slice a y.args.length k) y.args) :
    Calls Try.prog 11 #[.string s, .agg #[.int .u8 (y.op : Int), .int .i64 y.n, .slice a y.args.length k]] w fun e w' => e = .returned (.bool true) ∧ Below w.heap.size w w' := by
  obtain ⟨W, hW⟩ : ∃ W, w.alloc (.cells #[.int .u8 (y.op : Int), .int .i64 y.n, .slice a y.args.length k] 24) = W := ⟨_, rfl⟩
  obtain ⟨N0, hN0⟩ : ∃ N, w.heap.size = N := ⟨_, rfl⟩
  have hb : Below w.heap.size w W := by rw [← hW]; exact (Below.refl _ _).alloc (Nat.le_refl _) _
  have hbx : Bx W N0 (y.op : Int) y.n a y.args.length k := by rw [← hW]; exact heap_last hN0.symm
  have HP := Lib.hid (parse_of h W)
  have HB := Lib.hid hb; have HBX := Lib.hid hbx; have HY := Lib.hid (hy.under hb)
  clear hb hbx hy h
  go_enter Try.func11, Try.ntmps11
  go_wp2_with fail
  refine HP.out.mono ?_
  rintro e w1 ⟨a1, k1, rfl, hl1, hb1⟩
  obtain ⟨w2, hw2⟩ : ∃ w2, w1.alloc (.cells #[.int .u8 (y.op : Int), .int .i64 y.n, .slice a1 y.args.length k1] 24) = w2 := ⟨_, rfl⟩
  obtain ⟨N1, hN1⟩ : ∃ N1, w1.heap.size = N1 := ⟨_, rfl⟩
  have h12 : Below w1.heap.size w1 w2 := by rw [← hw2]; exact (Below.refl _ _).alloc (Nat.le_refl _) _
  have hW2 : Below W.heap.size W w2 := hb1.trans (h12.mono hb1.size)
  have hb2 : Bx w2 N1 (y.op : Int) y.n a1 y.args.length k1 := by rw [← hw2]; exact heap_last hN1.symm
  obtain ⟨d1, d2, d3, _⟩ := hb2.cells
  obtain ⟨f1, f2, f3, _⟩ := (HBX.out.under hW2).cells
  have HSM := Lib.hid (rsame_any y.size (by omega) y (Nat.le_refl _) y _ _ _ _ w2 (hl1.under h12) (HY.out.under hW2))
  unfold exV at HSM
  have HB2 := Lib.hid (HB.out.trans (hW2.mono HB.out.size))
  clear hl1 hb1 h12 hW2 hb2
  go_wp2_with fail
  refine HSM.out.mono ?_
  rintro e w3 ⟨r, rfl, hr, hb3⟩
  have hrt : r = true := hr.2 rfl
  subst hrt
  have HB3 := Lib.hid (HB2.out.trans (hb3.mono HB2.out.size)); clear hr hb3
  go_wp2_with fail
  go_ret
  exact ⟨rfl, HB3.out⟩
def nm (n : Int) : Ex := .mk 1 n []
def wTree : Ex := .mk 7 0 [nm 1, .mk 9 0 [nm 2, .mk 2 0 []]]
theorem parse_works : parseO ⟨#[49, 32, 43, 32, 50, 32, 42, 32, 107, 101, 121]⟩ = (wTree, 0, 0) := by kernel_rfl
theorem lies_any {w : World} {b : Nat} {p1 p2 : Option Addr} {n1 c1 n2 c2 : Nat} {x y : Ex} (hb : w.heap[b]? = some (.cells #[.int .u8 (x.op : Int), .int .i64 x.n, .slice p1 n1 c1, .int .u8 (y.op : Int), .int .i64 y.n, .slice p2 n2 c2] 24 (0, 0)))
    (h1 : Lies w Any (.slice p1 n1 c1) x.args) (h2 : Lies w Any (.slice p2 n2 c2) y.args) : Lies w Any (.slice (some ⟨b, 0, none⟩) 2 2) [x, y] := lies_two trivial hb h1 h2
set_option maxRecDepth 1000000 in
theorem works_any (w : World) : Calls Try.prog 10 #[] w fun e w' => e = .returned (.bool true) ∧ Below w.heap.size w w' := by
  go_enter Try.func10, Try.ntmps10
  go_wp2_with fail
  refine (num_any 1 _).mono ?_
  rintro e w1 ⟨rfl, hb1⟩
  have HB1 := Lib.hid hb1; clear hb1
  go_wp2_with fail
  refine (num_any 2 _).mono ?_
  rintro e w2 ⟨rfl, hb2⟩
  have HB2 := Lib.hid (HB1.out.trans (hb2.mono HB1.out.size)); clear hb2
  go_wp2_with fail
  refine (of_any 2 _ _ _ _).mono ?_
  rintro e w3 ⟨rfl, hb3⟩
  have HB3 := Lib.hid (HB2.out.trans (hb3.mono HB2.out.size)); clear hb3
  obtain ⟨N3, hN3⟩ : ∃ N3, w3.heap.size = N3 := ⟨_, rfl⟩
  obtain ⟨w4, hw4⟩ : ∃ w4, w3.alloc (.cells #[.int .u8 1, .int .i64 2, .slice none 0 0, .int .u8 2, .int .i64 0, .slice none 0 0] 24) = w4 := ⟨_, rfl⟩
  have HL4 : Hid (Lies w4 Any (.slice (some ⟨N3, 0, none⟩) 2 2) [nm 2, .mk 2 0 []] ∧ Below w.heap.size w w4) := Lib.hid (by
    have h34 : Below w3.heap.size w3 w4 := by rw [← hw4]; exact (Below.refl _ _).alloc (Nat.le_refl _) _
    exact ⟨lies_any (x := nm 2) (y := .mk 2 0 []) (by rw [← hw4]; exact heap_last hN3.symm) .nil .nil, HB3.out.trans (h34.mono HB3.out.size)⟩)
  go_wp2_with fail
  refine (of_any 9 _ _ _ _).mono ?_
  rintro e w5 ⟨rfl, hb5⟩
  have HL5 := Lib.hid (And.intro (HL4.out.1.under hb5) (HL4.out.2.trans (hb5.mono HL4.out.2.size))); clear hb5
  obtain ⟨N5, hN5⟩ : ∃ N5, w5.heap.size = N5 := ⟨_, rfl⟩
  obtain ⟨w6, hw6⟩ : ∃ w6, w5.alloc (.cells #[.int .u8 1, .int .i64 1, .slice none 0 0, .int .u8 9, .int .i64 0, .slice (some ⟨N3, 0, none⟩) 2 2] 24) = w6 := ⟨_, rfl⟩
  have HL6 : Hid (Lies w6 Any (.slice (some ⟨N5, 0, none⟩) 2 2) [nm 1, .mk 9 0 [nm 2, .mk 2 0 []]] ∧ Below w.heap.size w w6) := Lib.hid (by
    have h56 : Below w5.heap.size w5 w6 := by rw [← hw6]; exact (Below.refl _ _).alloc (Nat.le_refl _) _
    exact ⟨lies_any (x := nm 1) (y := .mk 9 0 [nm 2, .mk 2 0 []]) (by rw [← hw6]; exact heap_last hN5.symm) .nil (HL5.out.1.under h56), HL5.out.2.trans (h56.mono HL5.out.2.size)⟩)
  go_wp2_with fail
  refine (of_any 7 _ _ _ _).mono ?_
  rintro e w7 ⟨rfl, hb7⟩
  have HL7 := Lib.hid (And.intro (HL6.out.1.under hb7) (HL6.out.2.trans (hb7.mono HL6.out.2.size))); clear hb7
  go_wp2_with fail
  refine (reads_yes parse_works (by decide) HL7.out.1).mono ?_
  rintro e w8 ⟨rfl, hb8⟩
  have HB8 := Lib.hid (HL7.out.2.trans (hb8.mono HL7.out.2.size)); clear hb8
  go_wp2_with fail
  go_ret
  exact ⟨rfl, HB8.out⟩
end Go.Proofs.Ytnnaejkhbccnaaa.exp
