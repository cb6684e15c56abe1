/- Sums and products go either way round: walked. -/
import Derived.Test.YteicfdgadloheaaEvST
namespace Go.Proofs.Yteicfdgadloheaa.exp
set_option linter.unusedSimpArgs false
set_option linter.unusedVariables false
open Go.RowKit nam

theorem min_run (a b c : Int) (w : World) : (Builtin.min_ #[2, 2, 2] 2 #[.int .i64 a, .int .i64 b, .int .i64 c]).run Try.prog w = .ok (.int .i64 (if c < (if b < a then b else a) then c else (if b < a then b else a))) w := by
  simp [Builtin.min_, Builtin.min2]
theorem nu_up {x : Ex} {d : Nat} {k : Int} (h : Nu x d k) : Nu x (d + 1) k := ⟨h.fit, h.ty, by have := h.dep; omega, by have := h.size; have : 2 ^ d ≤ 2 ^ (d + 1) := Nat.pow_le_pow_right (by decide) (by omega); omega, h.val⟩
set_option maxHeartbeats 8000000 in
set_option maxRecDepth 1000000 in
theorem law_sums {a b c : Int} (ra : -9223372036854775808 ≤ a ∧ a ≤ 9223372036854775807) (w : World) : Calls Try.prog 7 #[.int .i64 a, .int .i64 b, .int .i64 c] w fun e w' => e = .returned (.bool true) ∧ Below w.heap.size w w' := by
  obtain ⟨m, hm⟩ : ∃ m, (if c < (if b < a then b else a) then c else (if b < a then b else a)) = m := ⟨_, rfl⟩
  have hmin := fun w0 => min_run a b c w0
  rw [hm] at hmin
  by_cases hneg : m < 0
  · clear hm
    go_enter Try.func7, Try.ntmps7
    go_wp2_with fail
    refine (works_any _).mono ?_
    rintro e w5 ⟨rfl, hb5⟩
    have HB5 := Lib.hid hb5; clear hb5
    go_wp2_with fail
    go_ret
    exact ⟨rfl, HB5.out⟩
  have hABC : 0 ≤ a ∧ 0 ≤ b ∧ 0 ≤ c := by
    subst hm
    split at hneg
    · split at * <;> omega
    · split at * <;> omega
  have HA : Hid (0 ≤ a) := Lib.hid hABC.1
  have HB : Hid (0 ≤ b) := Lib.hid hABC.2.1
  have HC : Hid (0 ≤ c) := Lib.hid hABC.2.2
  have hneg' : 0 ≤ m := by omega
  clear hm hABC hneg
  have HRA := Lib.hid ra.2
  clear ra
  obtain ⟨N, hN⟩ : ∃ N, w.heap.size = N := ⟨_, rfl⟩
  obtain ⟨W, hW⟩ : ∃ W, w.alloc (.cells #[.int .u8 7, .int .u8 9] 5) = W := ⟨_, rfl⟩
  have hb : Below w.heap.size w W := by rw [← hW]; exact (Below.refl _ _).alloc (Nat.le_refl _) _
  have hr : W.heap[N]? = some (.cells #[.int .u8 7, .int .u8 9] 5 (0, 0)) := by rw [← hW]; exact heap_last hN.symm
  have HBW := Lib.hid hb; have HRW := Lib.hid hr
  clear hb hr
  go_enter Try.func7, Try.ntmps7
  go_wp2_with fail
  go_loopg [21] 2 (fun g v21 wr => ∃ k : Nat, k + g = 2 ∧ v21 = .int .i64 (k : Int) ∧ Below W.heap.size W wr)
  case atStart => exact ⟨0, by omega, rfl, Below.refl _ _⟩
  case round =>
    rename World => wr
    obtain ⟨k, hk, rfl, hrel⟩ := hrel
    have HR := Lib.hid hrel; clear hrel
    by_cases hk' : k < 2
    · have hkn : (k : Int) < 2 := by omega
      have hoc : ∃ o : Nat, (o = 7 ∨ o = 9) ∧ wr.cell? ⟨N, k, none⟩ = some (.int .u8 (o : Int)) := by
        have hb := HR.out.block N (Array.getElem?_eq_some_iff.1 HRW.out).1
        rcases (show k = 0 ∨ k = 1 by omega) with rfl | rfl
        · exact ⟨7, .inl rfl, cell_of (hb.trans HRW.out) rfl⟩
        · exact ⟨9, .inr rfl, cell_of (hb.trans HRW.out) rfl⟩
      obtain ⟨o, ho, hcell⟩ := hoc
      obtain ⟨K1, hK1⟩ : ∃ K, opN o a b = K := ⟨_, rfl⟩
      obtain ⟨K2, hK2⟩ : ∃ K, opN o a (opN o b c) = K := ⟨_, rfl⟩
      have HSW := Lib.hid (swap_op ho a b)
      have HAS := Lib.hid (assoc_op ho a b c)
      have HO : Hid (7 ≤ o ∧ o ≤ 11) := Lib.hid (by omega)
      have HK1 := Lib.hid hK1; have HK2 := Lib.hid hK2
      clear hK1 hK2 ho
      go_wp2_with fail
      refine (leaf_any a _).mono ?_
      rintro e u1 ⟨Va1, rfl, hv, hb⟩
      have HVa1 := Lib.hid hv; have HU1 := Lib.hid hb; clear hv hb
      go_wp2_with fail
      refine (leaf_any b _).mono ?_
      rintro e u2 ⟨Vb1, rfl, hv, hb⟩
      have HVb1 := Lib.hid hv; have HU2 := Lib.hid hb; clear hv hb
      go_wp2_with fail
      refine (made_any (z := (o : Int)) rfl (HVa1.out.under HU2.out) HVb1.out).mono ?_
      rintro e u3 ⟨Vc1, rfl, hv, hb⟩
      have HVc1 := Lib.hid hv; have HU3 := Lib.hid hb; clear hv hb
      go_wp2_with fail
      refine (at_any (K := K1) HVc1.out (nu_two (show 7 ≤ o ∧ o ≤ 11 from HO.out) (nu_leaf HA.out) (nu_leaf HB.out)) (by decide) HK1.out).mono ?_
      rintro e u4 ⟨rfl, hb⟩
      have HU4 := Lib.hid hb; clear hb
      go_wp2_with fail
      refine (leaf_any b _).mono ?_
      rintro e u5 ⟨Va2, rfl, hv, hb⟩
      have HVa2 := Lib.hid hv; have HU5 := Lib.hid hb; clear hv hb
      go_wp2_with fail
      refine (leaf_any a _).mono ?_
      rintro e u6 ⟨Vb2, rfl, hv, hb⟩
      have HVb2 := Lib.hid hv; have HU6 := Lib.hid hb; clear hv hb
      go_wp2_with fail
      refine (made_any (z := (o : Int)) rfl (HVa2.out.under HU6.out) HVb2.out).mono ?_
      rintro e u7 ⟨Vc2, rfl, hv, hb⟩
      have HVc2 := Lib.hid hv; have HU7 := Lib.hid hb; clear hv hb
      go_wp2_with fail
      refine (at_any (K := K1) HVc2.out (nu_two (show 7 ≤ o ∧ o ≤ 11 from HO.out) (nu_leaf HB.out) (nu_leaf HA.out)) (by decide) (HSW.out.trans HK1.out)).mono ?_
      rintro e u8 ⟨rfl, hb⟩
      have HU8 := Lib.hid hb; clear hb
      go_wp2_with fail
      refine (leaf_any a _).mono ?_
      rintro e u9 ⟨Va3, rfl, hv, hb⟩
      have HVa3 := Lib.hid hv; have HU9 := Lib.hid hb; clear hv hb
      go_wp2_with fail
      refine (leaf_any b _).mono ?_
      rintro e u10 ⟨Vb3, rfl, hv, hb⟩
      have HVb3 := Lib.hid hv; have HU10 := Lib.hid hb; clear hv hb
      go_wp2_with fail
      refine (leaf_any c _).mono ?_
      rintro e u11 ⟨Vc3, rfl, hv, hb⟩
      have HVc3 := Lib.hid hv; have HU11 := Lib.hid hb; clear hv hb
      go_wp2_with fail
      refine (made_any (z := (o : Int)) rfl (HVb3.out.under HU11.out) HVc3.out).mono ?_
      rintro e u12 ⟨Vd3, rfl, hv, hb⟩
      have HVd3 := Lib.hid hv; have HU12 := Lib.hid hb; clear hv hb
      go_wp2_with fail
      refine (made_any (z := (o : Int)) rfl (HVa3.out.under (bt (bt HU10.out HU11.out) HU12.out)) HVd3.out).mono ?_
      rintro e u13 ⟨Ve3, rfl, hv, hb⟩
      have HVe3 := Lib.hid hv; have HU13 := Lib.hid hb; clear hv hb
      go_wp2_with fail
      refine (at_any (K := K2) HVe3.out (nu_two (show 7 ≤ o ∧ o ≤ 11 from HO.out) (nu_up (nu_leaf HA.out)) (nu_two (show 7 ≤ o ∧ o ≤ 11 from HO.out) (nu_leaf HB.out) (nu_leaf HC.out))) (by decide) HK2.out).mono ?_
      rintro e u14 ⟨rfl, hb⟩
      have HU14 := Lib.hid hb; clear hb
      go_wp2_with fail
      refine (leaf_any a _).mono ?_
      rintro e u15 ⟨Va4, rfl, hv, hb⟩
      have HVa4 := Lib.hid hv; have HU15 := Lib.hid hb; clear hv hb
      go_wp2_with fail
      refine (leaf_any b _).mono ?_
      rintro e u16 ⟨Vb4, rfl, hv, hb⟩
      have HVb4 := Lib.hid hv; have HU16 := Lib.hid hb; clear hv hb
      go_wp2_with fail
      refine (made_any (z := (o : Int)) rfl (HVa4.out.under HU16.out) HVb4.out).mono ?_
      rintro e u17 ⟨Vd4, rfl, hv, hb⟩
      have HVd4 := Lib.hid hv; have HU17 := Lib.hid hb; clear hv hb
      go_wp2_with fail
      refine (leaf_any c _).mono ?_
      rintro e u18 ⟨Vc4, rfl, hv, hb⟩
      have HVc4 := Lib.hid hv; have HU18 := Lib.hid hb; clear hv hb
      go_wp2_with fail
      refine (made_any (z := (o : Int)) rfl (HVd4.out.under HU18.out) HVc4.out).mono ?_
      rintro e u19 ⟨Ve4, rfl, hv, hb⟩
      have HVe4 := Lib.hid hv; have HU19 := Lib.hid hb; clear hv hb
      go_wp2_with fail
      refine (at_any (K := K2) HVe4.out (nu_two (show 7 ≤ o ∧ o ≤ 11 from HO.out) (nu_two (show 7 ≤ o ∧ o ≤ 11 from HO.out) (nu_leaf HA.out) (nu_leaf HB.out)) (nu_up (nu_leaf HC.out))) (by decide) (HAS.out.trans HK2.out)).mono ?_
      rintro e u20 ⟨rfl, hb⟩
      have HU20 := Lib.hid hb; clear hb
      have HEND := Lib.hid (bt HR.out (bt (bt (bt (bt (bt (bt (bt (bt (bt (bt (bt (bt (bt (bt (bt (bt (bt (bt (bt HU1.out HU2.out) HU3.out) HU4.out) HU5.out) HU6.out) HU7.out) HU8.out) HU9.out) HU10.out) HU11.out) HU12.out) HU13.out) HU14.out) HU15.out) HU16.out) HU17.out) HU18.out) HU19.out) HU20.out))
      go_wp2_with fail
      go_roundg (gk - 1)
      case measure => omega
      case rel => exact ⟨k + 1, by omega, by go_num, HEND.out⟩
    · have hkn : (2 : Int) ≤ (k : Int) := by omega
      obtain ⟨w2, hw2⟩ : ∃ w2, wr = w2 := ⟨_, rfl⟩
      subst hw2
      go_wp2_with fail
      refine (leaf_any a _).mono ?_
      rintro e u1 ⟨Va5, rfl, hv, hb⟩
      have HVa5 := Lib.hid hv; have HU1 := Lib.hid hb; clear hv hb
      go_wp2_with fail
      refine (leaf_any b _).mono ?_
      rintro e u2 ⟨Vb5, rfl, hv, hb⟩
      have HVb5 := Lib.hid hv; have HU2 := Lib.hid hb; clear hv hb
      go_wp2_with fail
      refine (made_any (z := 10) (o := 10) rfl (HVa5.out.under HU2.out) HVb5.out).mono ?_
      rintro e u3 ⟨Vc5, rfl, hv, hb⟩
      have HVc5 := Lib.hid hv; have HU3 := Lib.hid hb; clear hv hb
      go_wp2_with fail
      refine (leaf_any b _).mono ?_
      rintro e u4 ⟨Vd5, rfl, hv, hb⟩
      have HVd5 := Lib.hid hv; have HU4 := Lib.hid hb; clear hv hb
      go_wp2_with fail
      refine (made_any (z := 9) (o := 9) rfl (HVc5.out.under HU4.out) HVd5.out).mono ?_
      rintro e u5 ⟨Ve5, rfl, hv, hb⟩
      have HVe5 := Lib.hid hv; have HU5 := Lib.hid hb; clear hv hb
      go_wp2_with fail
      refine (leaf_any a _).mono ?_
      rintro e u6 ⟨Vf5, rfl, hv, hb⟩
      have HVf5 := Lib.hid hv; have HU6 := Lib.hid hb; clear hv hb
      go_wp2_with fail
      refine (leaf_any b _).mono ?_
      rintro e u7 ⟨Vg5, rfl, hv, hb⟩
      have HVg5 := Lib.hid hv; have HU7 := Lib.hid hb; clear hv hb
      go_wp2_with fail
      refine (made_any (z := 11) (o := 11) rfl (HVf5.out.under HU7.out) HVg5.out).mono ?_
      rintro e u8 ⟨Vh5, rfl, hv, hb⟩
      have HVh5 := Lib.hid hv; have HU8 := Lib.hid hb; clear hv hb
      go_wp2_with fail
      refine (made_any (z := 7) (o := 7) rfl (HVe5.out.under (bt (bt HU6.out HU7.out) HU8.out)) HVh5.out).mono ?_
      rintro e u9 ⟨Vi5, rfl, hv, hb⟩
      have HVi5 := Lib.hid hv; have HU9 := Lib.hid hb; clear hv hb
      obtain ⟨X5, hX5⟩ : ∃ X5, Ex.mk 7 0 [Ex.mk 9 0 [Ex.mk 10 0 [nm a, nm b], nm b], Ex.mk 11 0 [nm a, nm b]] = X5 := ⟨_, rfl⟩
      have HNU : Hid (Nu X5 _ _) := Lib.hid (hX5 ▸ (nu_two (by decide) (nu_two (by decide) (nu_two (by decide) (nu_leaf HA.out) (nu_leaf HB.out)) (nu_up (nu_leaf HB.out))) (nu_up (nu_two (by decide) (nu_leaf HA.out) (nu_leaf HB.out)))))
      rw [hX5] at HVi5
      clear hX5
      obtain ⟨pa, pc, hVe, hli⟩ := HVi5.out
      subst hVe
      obtain ⟨M, hM⟩ : ∃ M, u9.heap.size = M := ⟨_, rfl⟩
      obtain ⟨W5, hW5⟩ : ∃ W5, u9.alloc (.cells #[.int .u8 (X5.op : Int), .int .i64 X5.n, .slice pa X5.args.length pc] 24) = W5 := ⟨_, rfl⟩
      obtain ⟨c0, c1, c2⟩ := box_cells hW5
      rw [hM] at c0 c1 c2
      have hb5 : Below u9.heap.size u9 W5 := by rw [← hW5]; exact (Below.refl _ _).alloc (Nat.le_refl _) _
      have HXB : Hid (Xv W5 (.agg #[.int .u8 (X5.op : Int), .int .i64 X5.n, .slice pa X5.args.length pc]) X5) := Lib.hid (HVi5.out.under hb5)
      have HB5 := Lib.hid hb5
      clear hli hb5
      go_wp2_with fail
      refine (leaf_any a _).mono ?_
      rintro e x1 ⟨Va6, rfl, hv, hb⟩
      have HVa6 := Lib.hid hv; have HX1 := Lib.hid hb; clear hv hb
      go_wp2_with fail
      refine (leaf_any a _).mono ?_
      rintro e x2 ⟨Vb6, rfl, hv, hb⟩
      have HVb6 := Lib.hid hv; have HX2 := Lib.hid hb; clear hv hb
      go_wp2_with fail
      refine (made_any (z := 8) (o := 8) rfl (HVa6.out.under HX2.out) HVb6.out).mono ?_
      rintro e x3 ⟨Vc6, rfl, hv, hb⟩
      have HVc6 := Lib.hid hv; have HX3 := Lib.hid hb; clear hv hb
      go_wp2_with fail
      refine (at_any (K := 0) HVc6.out (nu_two (by decide) (nu_leaf HA.out) (nu_leaf HA.out)) (by decide) (less_self a)).mono ?_
      rintro e x4 ⟨rfl, hb⟩
      have HX4 := Lib.hid hb; clear hb
      have HHX : Hid (Below W5.heap.size W5 x4) := Lib.hid (bt (bt (bt HX1.out HX2.out) HX3.out) HX4.out)
      have n0 := stay HHX.out c0
      have n1 := stay HHX.out c1
      have n2 := stay HHX.out c2
      have HALL := Lib.hid (bt HBW.out (bt HR.out (bt (bt (bt (bt (bt (bt (bt (bt (bt (bt HU1.out HU2.out) HU3.out) HU4.out) HU5.out) HU6.out) HU7.out) HU8.out) HU9.out) HB5.out) HHX.out)))
      by_cases hb0 : b = 0
      · have hbb : (b == 0) = true := by simpa using hb0
        clear hb0
        go_wp2_with fail
        refine (works_any _).mono ?_
        rintro e y1 ⟨rfl, hy1⟩
        have HY := Lib.hid hy1; clear hy1
        go_wp2_with fail
        go_ret
        exact ⟨rfl, bt HALL.out HY.out⟩
      · have hbb : (b == 0) = false := by simpa using hb0
        have HBK := Lib.hid (back_op hb0 HA.out HRA.out)
        clear hb0
        go_wp2_with fail
        refine (at_any (K := a) (HXB.out.under HHX.out) HNU.out (by decide) HBK.out).mono ?_
        rintro e y1 ⟨rfl, hy1⟩
        have HY := Lib.hid hy1; clear hy1
        go_wp2_with fail
        refine (works_any _).mono ?_
        rintro e y2 ⟨rfl, hy2⟩
        have HY2 := Lib.hid hy2; clear hy2
        go_wp2_with fail
        go_ret
        exact ⟨rfl, bt HALL.out (bt HY.out HY2.out)⟩
theorem i64_in {a : Int} (h : (Lit.int .i64 a).wf = true) : -9223372036854775808 ≤ a ∧ a ≤ 9223372036854775807 := by
  simp [Lit.wf, IntKind.min, IntKind.max, IntKind.signed, IntKind.bits] at h
  exact ⟨by omega, by omega⟩
end Go.Proofs.Yteicfdgadloheaa.exp
