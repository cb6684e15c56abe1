/- ExprKnown returns true in whatever world, and turns nothing that was there. -/
import Derived.Test.YtnnaejkhbccnaaaExZg
namespace Go.Proofs.Ytnnaejkhbccnaaa.exp
set_option linter.unusedSimpArgs false
set_option linter.unusedVariables false
open Go.RowKit nam lex

theorem parse_less : parseO ⟨#[49, 32, 60, 32, 50, 32, 60, 32, 51]⟩ = (Ex.zero, 6, 80) := by kernel_rfl
theorem parse_keyval : parseO ⟨#[107, 101, 121, 32, 118, 97, 108]⟩ = (Ex.zero, 4, 80) := by kernel_rfl
theorem parse_open : parseO ⟨#[40, 49]⟩ = (Ex.zero, 2, 80) := by kernel_rfl
def sTree : Ex := .mk 8 0 [.mk 8 0 [nm 1, nm 2], nm 3]
def iTree : Ex := .mk 18 0 [.mk 12 0 [.mk 3 0 [], nm 3], .mk 5 0 [nm 1], .mk 4 0 []]
theorem parse_sub : parseO ⟨#[49, 32, 45, 32, 50, 32, 45, 32, 51]⟩ = (sTree, 0, 0) := by kernel_rfl
theorem parse_if : parseO ⟨#[105, 102, 32, 118, 97, 108, 32, 60, 32, 51, 32, 116, 104, 101, 110, 32, 45, 32, 49, 32, 101, 108, 115, 101, 32, 40, 97, 99, 99, 41]⟩ = (iTree, 0, 0) := by kernel_rfl
theorem lies_three {w : World} {b : Nat} {p1 p2 p3 : Option Addr} {n1 c1 n2 c2 n3 c3 : Nat} {x y z : Ex} (hb : w.heap[b]? = some (.cells #[.int .u8 (x.op : Int), .int .i64 x.n, .slice p1 n1 c1, .int .u8 (y.op : Int), .int .i64 y.n, .slice p2 n2 c2, .int .u8 (z.op : Int), .int .i64 z.n, .slice p3 n3 c3] 24 (0, 0)))
    (h1 : Lies w Any (.slice p1 n1 c1) x.args) (h2 : Lies w Any (.slice p2 n2 c2) y.args) (h3 : Lies w Any (.slice p3 n3 c3) z.args) : Lies w Any (.slice (some ⟨b, 0, none⟩) 3 3) [x, y, z] := by
  refine .row b 3 3 _ [x, y, z] (fun i => if i = 0 then .slice p1 n1 c1 else if i = 1 then .slice p2 n2 c2 else .slice p3 n3 c3) trivial hb rfl ?_ ?_
  · intro i hi
    match i, hi with
    | 0, _ => exact ⟨rfl, rfl, rfl⟩
    | 1, _ => exact ⟨rfl, rfl, rfl⟩
    | 2, _ => exact ⟨rfl, rfl, rfl⟩
  · intro i hi
    match i, hi with
    | 0, _ => exact h1
    | 1, _ => exact h2
    | 2, _ => exact h3
theorem lies_1 {w : World} {b : Nat} {p1 : Option Addr} {n1 c1 : Nat} {x : Ex} (hb : w.heap[b]? = some (.cells #[.int .u8 (x.op : Int), .int .i64 x.n, .slice p1 n1 c1] 24 (0, 0))) (h1 : Lies w Any (.slice p1 n1 c1) x.args) : Lies w Any (.slice (some ⟨b, 0, none⟩) 1 1) [x] := lies_one trivial hb h1

set_option maxHeartbeats 1600000 in
set_option maxRecDepth 1000000 in
theorem law_known (w : World) : Calls Try.prog 3 #[] w fun e w' => e = .returned (.bool true) ∧ Below w.heap.size w w' := by
  go_enter Try.func3, Try.ntmps3
  go_wp2_with fail
  refine (parse_of parse_less _).mono ?_
  rintro e w1 ⟨ax1, kx1, rfl, _, hb⟩
  have HB' := Lib.hid (hb)
  clear hb
  have HB := HB'; clear HB'
  go_wp2_with fail
  refine (parse_of parse_keyval _).mono ?_
  rintro e w2 ⟨ax2, kx2, rfl, _, hb⟩
  have HB' := Lib.hid (((HB.out.alloc HB.out.size _).trans (hb.mono (HB.out.alloc HB.out.size _).size)))
  clear hb HB
  have HB := HB'; clear HB'
  go_wp2_with fail
  refine (parse_of parse_open _).mono ?_
  rintro e w3 ⟨ax3, kx3, rfl, _, hb⟩
  have HB' := Lib.hid (((HB.out.alloc HB.out.size _).trans (hb.mono (HB.out.alloc HB.out.size _).size)))
  clear hb HB
  have HB := HB'; clear HB'
  go_wp2_with fail
  refine (works_any _).mono ?_
  rintro e w4 ⟨rfl, hb⟩
  have HB' := Lib.hid (((HB.out.alloc HB.out.size _).trans (hb.mono (HB.out.alloc HB.out.size _).size)))
  clear hb HB
  have HB := HB'; clear HB'
  go_wp2_with fail
  refine (num_any 1 _).mono ?_
  rintro e w5 ⟨rfl, hb⟩
  have HB' := Lib.hid ((HB.out.trans (hb.mono HB.out.size)))
  clear hb HB
  have HB := HB'; clear HB'
  go_wp2_with fail
  refine (num_any 2 _).mono ?_
  rintro e w6 ⟨rfl, hb⟩
  have HB' := Lib.hid ((HB.out.trans (hb.mono HB.out.size)))
  clear hb HB
  have HB := HB'; clear HB'
  obtain ⟨N7, hN7⟩ : ∃ N7, w6.heap.size = N7 := ⟨_, rfl⟩
  obtain ⟨w7, hw7⟩ : ∃ w7, w6.alloc (.cells #[.int .u8 1, .int .i64 1, .slice none 0 0, .int .u8 1, .int .i64 2, .slice none 0 0] 24) = w7 := ⟨_, rfl⟩
  have hb : Below w6.heap.size w6 w7 := by rw [← hw7]; exact (Below.refl _ _).alloc (Nat.le_refl _) _
  have HL7 : Hid (Lies w7 Any (.slice (some ⟨N7, 0, none⟩) 2 2) [nm 1, nm 2]) := Lib.hid (lies_any (x := nm 1) (y := nm 2) (by rw [← hw7]; exact heap_last hN7.symm) .nil .nil)
  have HB' := Lib.hid (HB.out.trans (hb.mono HB.out.size))
  clear hb HB
  have HB := HB'; clear HB'
  go_wp2_with fail
  refine (of_any 8 _ _ _ _).mono ?_
  rintro e w8 ⟨rfl, hb⟩
  have HB' := Lib.hid ((HB.out.trans (hb.mono HB.out.size)))
  have HL7' := Lib.hid (HL7.out.under hb)
  clear hb HL7 HB
  have HB := HB'; clear HB'
  have HL7 := HL7'; clear HL7'
  go_wp2_with fail
  refine (num_any 3 _).mono ?_
  rintro e w9 ⟨rfl, hb⟩
  have HB' := Lib.hid ((HB.out.trans (hb.mono HB.out.size)))
  have HL7' := Lib.hid (HL7.out.under hb)
  clear hb HL7 HB
  have HB := HB'; clear HB'
  have HL7 := HL7'; clear HL7'
  obtain ⟨N10, hN10⟩ : ∃ N10, w9.heap.size = N10 := ⟨_, rfl⟩
  obtain ⟨w10, hw10⟩ : ∃ w10, w9.alloc (.cells #[.int .u8 8, .int .i64 0, .slice (some ⟨N7, 0, none⟩) 2 2, .int .u8 1, .int .i64 3, .slice none 0 0] 24) = w10 := ⟨_, rfl⟩
  have hb : Below w9.heap.size w9 w10 := by rw [← hw10]; exact (Below.refl _ _).alloc (Nat.le_refl _) _
  have HL10 : Hid (Lies w10 Any (.slice (some ⟨N10, 0, none⟩) 2 2) [.mk 8 0 [nm 1, nm 2], nm 3]) := Lib.hid (lies_any (x := .mk 8 0 [nm 1, nm 2]) (y := nm 3) (by rw [← hw10]; exact heap_last hN10.symm) (HL7.out.under hb) .nil)
  have HB' := Lib.hid (HB.out.trans (hb.mono HB.out.size))
  clear hb HB HL7
  have HB := HB'; clear HB'
  go_wp2_with fail
  refine (of_any 8 _ _ _ _).mono ?_
  rintro e w11 ⟨rfl, hb⟩
  have HB' := Lib.hid ((HB.out.trans (hb.mono HB.out.size)))
  have HL10' := Lib.hid (HL10.out.under hb)
  clear hb HL10 HB
  have HB := HB'; clear HB'
  have HL10 := HL10'; clear HL10'
  go_wp2_with fail
  refine (reads_yes parse_sub (by decide) HL10.out).mono ?_
  rintro e w12 ⟨rfl, hb⟩
  have HB' := Lib.hid ((HB.out.trans (hb.mono HB.out.size)))
  have HL10' := Lib.hid (HL10.out.under hb)
  clear hb HL10 HB
  have HB := HB'; clear HB'
  have HL10 := HL10'; clear HL10'
  go_wp2_with fail
  refine (of_any 3 _ _ _ _).mono ?_
  rintro e w13 ⟨rfl, hb⟩
  have HB' := Lib.hid ((HB.out.trans (hb.mono HB.out.size)))
  clear hb HB
  have HB := HB'; clear HB'
  go_wp2_with fail
  refine (num_any 3 _).mono ?_
  rintro e w14 ⟨rfl, hb⟩
  have HB' := Lib.hid ((HB.out.trans (hb.mono HB.out.size)))
  clear hb HB
  have HB := HB'; clear HB'
  obtain ⟨N15, hN15⟩ : ∃ N15, w14.heap.size = N15 := ⟨_, rfl⟩
  obtain ⟨w15, hw15⟩ : ∃ w15, w14.alloc (.cells #[.int .u8 3, .int .i64 0, .slice none 0 0, .int .u8 1, .int .i64 3, .slice none 0 0] 24) = w15 := ⟨_, rfl⟩
  have hb : Below w14.heap.size w14 w15 := by rw [← hw15]; exact (Below.refl _ _).alloc (Nat.le_refl _) _
  have HL15 : Hid (Lies w15 Any (.slice (some ⟨N15, 0, none⟩) 2 2) [.mk 3 0 [], nm 3]) := Lib.hid (lies_any (x := .mk 3 0 []) (y := nm 3) (by rw [← hw15]; exact heap_last hN15.symm) .nil .nil)
  have HB' := Lib.hid (HB.out.trans (hb.mono HB.out.size))
  clear hb HB
  have HB := HB'; clear HB'
  go_wp2_with fail
  refine (of_any 12 _ _ _ _).mono ?_
  rintro e w16 ⟨rfl, hb⟩
  have HB' := Lib.hid ((HB.out.trans (hb.mono HB.out.size)))
  have HL15' := Lib.hid (HL15.out.under hb)
  clear hb HL15 HB
  have HB := HB'; clear HB'
  have HL15 := HL15'; clear HL15'
  go_wp2_with fail
  refine (num_any 1 _).mono ?_
  rintro e w17 ⟨rfl, hb⟩
  have HB' := Lib.hid ((HB.out.trans (hb.mono HB.out.size)))
  have HL15' := Lib.hid (HL15.out.under hb)
  clear hb HL15 HB
  have HB := HB'; clear HB'
  have HL15 := HL15'; clear HL15'
  obtain ⟨N18, hN18⟩ : ∃ N18, w17.heap.size = N18 := ⟨_, rfl⟩
  obtain ⟨w18, hw18⟩ : ∃ w18, w17.alloc (.cells #[.int .u8 1, .int .i64 1, .slice none 0 0] 24) = w18 := ⟨_, rfl⟩
  have hb : Below w17.heap.size w17 w18 := by rw [← hw18]; exact (Below.refl _ _).alloc (Nat.le_refl _) _
  have HL18 : Hid (Lies w18 Any (.slice (some ⟨N18, 0, none⟩) 1 1) [nm 1]) := Lib.hid (lies_1 (x := nm 1) (by rw [← hw18]; exact heap_last hN18.symm) .nil)
  have HB' := Lib.hid (HB.out.trans (hb.mono HB.out.size))
  have HL15' := Lib.hid (HL15.out.under hb)
  clear hb HB HL15
  have HB := HB'; clear HB'
  have HL15 := HL15'; clear HL15'
  go_wp2_with fail
  refine (of_any 5 _ _ _ _).mono ?_
  rintro e w19 ⟨rfl, hb⟩
  have HB' := Lib.hid ((HB.out.trans (hb.mono HB.out.size)))
  have HL15' := Lib.hid (HL15.out.under hb)
  have HL18' := Lib.hid (HL18.out.under hb)
  clear hb HL15 HL18 HB
  have HB := HB'; clear HB'
  have HL15 := HL15'; clear HL15'
  have HL18 := HL18'; clear HL18'
  go_wp2_with fail
  refine (of_any 4 _ _ _ _).mono ?_
  rintro e w20 ⟨rfl, hb⟩
  have HB' := Lib.hid ((HB.out.trans (hb.mono HB.out.size)))
  have HL15' := Lib.hid (HL15.out.under hb)
  have HL18' := Lib.hid (HL18.out.under hb)
  clear hb HL15 HL18 HB
  have HB := HB'; clear HB'
  have HL15 := HL15'; clear HL15'
  have HL18 := HL18'; clear HL18'
  obtain ⟨N21, hN21⟩ : ∃ N21, w20.heap.size = N21 := ⟨_, rfl⟩
  obtain ⟨w21, hw21⟩ : ∃ w21, w20.alloc (.cells #[.int .u8 12, .int .i64 0, .slice (some ⟨N15, 0, none⟩) 2 2, .int .u8 5, .int .i64 0, .slice (some ⟨N18, 0, none⟩) 1 1, .int .u8 4, .int .i64 0, .slice none 0 0] 24) = w21 := ⟨_, rfl⟩
  have hb : Below w20.heap.size w20 w21 := by rw [← hw21]; exact (Below.refl _ _).alloc (Nat.le_refl _) _
  have HL21 : Hid (Lies w21 Any (.slice (some ⟨N21, 0, none⟩) 3 3) [.mk 12 0 [.mk 3 0 [], nm 3], .mk 5 0 [nm 1], .mk 4 0 []]) := Lib.hid (lies_three (x := .mk 12 0 [.mk 3 0 [], nm 3]) (y := .mk 5 0 [nm 1]) (z := .mk 4 0 []) (by rw [← hw21]; exact heap_last hN21.symm) (HL15.out.under hb) (HL18.out.under hb) .nil)
  have HB' := Lib.hid (HB.out.trans (hb.mono HB.out.size))
  clear hb HB HL15 HL18
  have HB := HB'; clear HB'
  go_wp2_with fail
  refine (of_any 18 _ _ _ _).mono ?_
  rintro e w22 ⟨rfl, hb⟩
  have HB' := Lib.hid ((HB.out.trans (hb.mono HB.out.size)))
  have HL21' := Lib.hid (HL21.out.under hb)
  clear hb HL21 HB
  have HB := HB'; clear HB'
  have HL21 := HL21'; clear HL21'
  go_wp2_with fail
  refine (reads_yes parse_if (by decide) HL21.out).mono ?_
  rintro e w23 ⟨rfl, hb⟩
  have HB' := Lib.hid ((HB.out.trans (hb.mono HB.out.size)))
  have HL21' := Lib.hid (HL21.out.under hb)
  clear hb HL21 HB
  have HB := HB'; clear HB'
  have HL21 := HL21'; clear HL21'
  go_wp2_with fail
  go_ret
  exact ⟨rfl, HB.out⟩
end Go.Proofs.Ytnnaejkhbccnaaa.exp
