/- The document's examples. -/
import Derived.Test.YteicfdgadloheaaEvI
namespace Go.Proofs.Yteicfdgadloheaa.exp
set_option linter.unusedSimpArgs false
set_option linter.unusedVariables false
open Go.RowKit nam lex

set_option maxHeartbeats 4000000 in
set_option maxRecDepth 1000000 in
theorem law_known (w : World) : Calls Try.prog 3 #[] w fun e w' => e = .returned (.bool true) ∧ Below w.heap.size w w' := by
  have HP6 := Lib.hid (parse_of p6 w)
  go_enter Try.func3, Try.ntmps3
  go_wp2_with fail
  refine HP6.out.mono ?_
  rintro e w1 ⟨a6, k6, rfl, hl6, hb1⟩
  obtain ⟨M, hM⟩ : ∃ M, w1.heap.size = M := ⟨_, rfl⟩
  obtain ⟨W2, hW2⟩ : ∃ W2, w1.alloc (.cells #[.int .u8 (x6.op : Int), .int .i64 x6.n, .slice a6 x6.args.length k6] 24) = W2 := ⟨_, rfl⟩
  have hwb2 : Below w1.heap.size w1 W2 := by rw [← hW2]; exact (Below.refl _ _).alloc (Nat.le_refl _) _
  have ha6 : W2.heap[M]? = some (.cells #[.int .u8 (x6.op : Int), .int .i64 x6.n, .slice a6 x6.args.length k6] 24 (0, 0)) := by rw [← hW2]; exact heap_last hM.symm
  have HL6 := Lib.hid (hl6.under hwb2); have HA6 := Lib.hid ha6
  have HB2 := Lib.hid (hb1.trans (hwb2.mono hb1.size))
  have HP7 := Lib.hid (parse_of p7 W2)
  clear hl6 hb1 hwb2 ha6
  go_wp2_with fail
  refine HP7.out.mono ?_
  rintro e w3 ⟨a7, k7, rfl, hl7, hb3⟩
  obtain ⟨M2, hM2⟩ : ∃ M2, w3.heap.size = M2 := ⟨_, rfl⟩
  obtain ⟨W4, hW4⟩ : ∃ W4, w3.alloc (.cells #[.int .u8 (x7.op : Int), .int .i64 x7.n, .slice a7 x7.args.length k7] 24) = W4 := ⟨_, rfl⟩
  have hwb4 : Below w3.heap.size w3 W4 := by rw [← hW4]; exact (Below.refl _ _).alloc (Nat.le_refl _) _
  have ha7 : W4.heap[M2]? = some (.cells #[.int .u8 (x7.op : Int), .int .i64 x7.n, .slice a7 x7.args.length k7] 24 (0, 0)) := by rw [← hW4]; exact heap_last hM2.symm
  have hb24 : Below W2.heap.size W2 W4 := hb3.trans (hwb4.mono hb3.size)
  have HL7 := Lib.hid (hl7.under hwb4)
  have HL6' := Lib.hid (HL6.out.under hb24)
  have ha6' : W4.heap[M]? = some (.cells #[.int .u8 (x6.op : Int), .int .i64 x6.n, .slice a6 x6.args.length k6] 24 (0, 0)) := (hb24.block M (Array.getElem?_eq_some_iff.1 HA6.out).1).trans HA6.out
  have HB4 := Lib.hid (HB2.out.trans (hb24.mono HB2.out.size))
  have HR4 : Hid (Below W4.heap.size W4 W4) := Lib.hid (Below.refl _ _)
  have q6 : W4.cell? ⟨M, 0, none⟩ = some (.int .u8 (x6.op : Int)) ∧ W4.cell? ⟨M, 1, none⟩ = some (.int .i64 x6.n) ∧ W4.cell? ⟨M, 2, none⟩ = some (.slice a6 x6.args.length k6) := ⟨cell_of ha6' rfl, cell_of ha6' rfl, cell_of ha6' rfl⟩
  have q7 : W4.cell? ⟨M2, 0, none⟩ = some (.int .u8 (x7.op : Int)) ∧ W4.cell? ⟨M2, 1, none⟩ = some (.int .i64 x7.n) ∧ W4.cell? ⟨M2, 2, none⟩ = some (.slice a7 x7.args.length k7) := ⟨cell_of ha7 rfl, cell_of ha7 rfl, cell_of ha7 rfl⟩
  have HH : Hid (∀ w', Below W4.heap.size W4 w' → (w'.cell? ⟨M, 0, none⟩ = some (.int .u8 (x6.op : Int)) ∧ w'.cell? ⟨M, 1, none⟩ = some (.int .i64 x6.n) ∧ w'.cell? ⟨M, 2, none⟩ = some (.slice a6 x6.args.length k6)) ∧
      (w'.cell? ⟨M2, 0, none⟩ = some (.int .u8 (x7.op : Int)) ∧ w'.cell? ⟨M2, 1, none⟩ = some (.int .i64 x7.n) ∧ w'.cell? ⟨M2, 2, none⟩ = some (.slice a7 x7.args.length k7))) :=
    Lib.hid fun w' hw => ⟨⟨stay hw q6.1, stay hw q6.2.1, stay hw q6.2.2⟩, ⟨stay hw q7.1, stay hw q7.2.1, stay hw q7.2.2⟩⟩
  have HI : Hid (∀ w', Below W4.heap.size W4 w' → Calls Try.prog 12 #[.agg #[.int .u8 (x6.op : Int), .int .i64 x6.n, .slice a6 x6.args.length k6], .agg #[.int .i64 0, .int .i64 0, .int .i64 0]] w' fun e w'' => e = .returned (.int .i64 0) ∧ Below W4.heap.size W4 w'') :=
    Lib.hid fun w' hw => (int_any envZ (HL6'.out.under hw) z6).mono fun e w'' h => ⟨by rw [h.1, i6], hw.trans (h.2.mono hw.size)⟩
  have HB6 : Hid (∀ w', Below W4.heap.size W4 w' → Calls Try.prog 13 #[.agg #[.int .u8 (x6.op : Int), .int .i64 x6.n, .slice a6 x6.args.length k6], .agg #[.int .i64 0, .int .i64 0, .int .i64 0]] w' fun e w'' => e = .returned (.bool true) ∧ Below W4.heap.size W4 w'') :=
    Lib.hid fun w' hw => (bool_any envZ (HL6'.out.under hw) z6).mono fun e w'' h => ⟨by rw [h.1, b6], hw.trans (h.2.mono hw.size)⟩
  have HB7 : Hid (∀ w', Below W4.heap.size W4 w' → Calls Try.prog 13 #[.agg #[.int .u8 (x7.op : Int), .int .i64 x7.n, .slice a7 x7.args.length k7], .agg #[.int .i64 0, .int .i64 0, .int .i64 0]] w' fun e w'' => e = .returned (.bool false) ∧ Below W4.heap.size W4 w'') :=
    Lib.hid fun w' hw => (bool_any envZ (HL7.out.under hw) z7).mono fun e w'' h => ⟨by rw [h.1, b7], hw.trans (h.2.mono hw.size)⟩
  clear hl7 hb3 hwb4 ha7 hb24 ha6' q6 q7
  have hq0 := fun w0 => eqv 1 0 false w0
  have hq7 := fun w0 => eqv 1 (-7) false w0
  have hqf := fun w0 => eqv 2 0 false w0
  have hq2 := fun w0 => eqv 1 2 false w0
  have hgd := guard30
  go_wp2_with fail
  refine (works_any _).mono ?_
  rintro e w10 ⟨rfl, hb10⟩
  have HB10 := Lib.hid (HR4.out.trans (hb10.mono HR4.out.size)); clear hb10
  go_wp2_with fail
  refine (of_ok p2 z2 v2 _).mono ?_
  rintro e w11 ⟨rfl, hb11⟩
  have HB11 := Lib.hid (HB10.out.trans (hb11.mono HB10.out.size)); clear hb11
  go_wp2_with fail
  refine (num_any 0 _).mono ?_
  rintro e w12 ⟨rfl, hb12⟩
  have HB12 := Lib.hid (HB11.out.trans (hb12.mono HB11.out.size)); clear hb12
  go_wp2_with fail
  refine (of_ok p3 z3 v3 _).mono ?_
  rintro e w13 ⟨rfl, hb13⟩
  have HB13 := Lib.hid (HB12.out.trans (hb13.mono HB12.out.size)); clear hb13
  go_wp2_with fail
  refine (num_any (-7) _).mono ?_
  rintro e w14 ⟨rfl, hb14⟩
  have HB14 := Lib.hid (HB13.out.trans (hb14.mono HB13.out.size)); clear hb14
  go_wp2_with fail
  refine (of_ok p4 z4 v4 _).mono ?_
  rintro e w15 ⟨rfl, hb15⟩
  have HB15 := Lib.hid (HB14.out.trans (hb15.mono HB14.out.size)); clear hb15
  go_wp2_with fail
  refine (of_ok p5 z5 v5 _).mono ?_
  rintro e w16 ⟨rfl, hb16⟩
  have HB16 := Lib.hid (HB15.out.trans (hb16.mono HB15.out.size)); clear hb16
  go_wp2_with fail
  refine (num_any 2 _).mono ?_
  rintro e w17 ⟨rfl, hb17⟩
  have HB17 := Lib.hid (HB16.out.trans (hb17.mono HB16.out.size)); clear hb17
  obtain ⟨⟨n0, n1, n2⟩, ⟨m0, m1, m2⟩⟩ := HH.out _ HB17.out
  go_wp2_with fail
  refine (HI.out _ HB17.out).mono ?_
  rintro e w18 ⟨rfl, hb18⟩
  obtain ⟨⟨n0', n1', n2'⟩, ⟨m0', m1', m2'⟩⟩ := HH.out _ hb18
  have HB18 := Lib.hid hb18; clear hb18
  go_wp2_with fail
  refine (HB6.out _ HB18.out).mono ?_
  rintro e w19 ⟨rfl, hb19⟩
  obtain ⟨⟨n0'', n1'', n2''⟩, ⟨m0'', m1'', m2''⟩⟩ := HH.out _ hb19
  have HB19 := Lib.hid hb19; clear hb19
  go_wp2_with fail
  refine (HB7.out _ HB19.out).mono ?_
  rintro e w20 ⟨rfl, hb20⟩
  have HB20 := Lib.hid (HB4.out.trans (hb20.mono HB4.out.size)); clear hb20
  go_wp2_with fail
  go_ret
  exact ⟨rfl, HB20.out⟩
end Go.Proofs.Yteicfdgadloheaa.exp
