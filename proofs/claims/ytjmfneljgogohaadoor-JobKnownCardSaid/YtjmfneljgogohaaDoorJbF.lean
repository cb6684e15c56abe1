/- Whether an expression is what a kind asks for; whether a node may be at a place. -/
import Derived.Test.YtjmfneljgogohaaDoorJbE
import Derived.Test.YtjmfneljgogohaaDoorJbB
namespace Go.Proofs.YtjmfneljgogohaaDoor.jb
set_option linter.unusedSimpArgs false
set_option linter.unusedVariables false
open Go.RowKit nam exp

set_option maxHeartbeats 800000 in
set_option maxRecDepth 1000000 in
theorem takesX_any {w : World} {x : Ex} {v : Value} {B : Nat → Prop} (a : Ask) (h : Lies w B v x.args) (hs : x.size ≤ 1000000) :
    Calls Tryd.prog 44 #[askV a, exV x v] w fun e w' => e = .returned (.bool (takesXB a x)) ∧ Below w.heap.size w w' := by
  obtain ⟨few, many, ty, acc, least, most, keeps⟩ := a
  obtain ⟨N, hN⟩ : ∃ N, w.heap.size = N := ⟨_, rfl⟩
  obtain ⟨V, hV⟩ : ∃ V, w.alloc (.cells #[.int .i64 few, .int .i64 many, .int .u8 (ty : Int), .bool acc, .int .i64 least, .int .i64 most, .bool keeps] 54) = V := ⟨_, rfl⟩
  obtain ⟨W, hW⟩ : ∃ W, V.alloc (.cells #[.int .u8 (x.op : Int), .int .i64 x.n, v] 28) = W := ⟨_, rfl⟩
  have hwv : Below w.heap.size w V := by rw [← hV]; exact below_made _ _
  have hvw : Below V.heap.size V W := by rw [← hW]; exact below_made _ _
  have hwb := below_on' hwv hvw
  have sV : V.heap.size = N + 1 := by rw [← hV, World.size_alloc, hN]
  have bx := box7 hV
  have c2 := cell_on bx.2.2.1 hvw
  have c3 := cell_on bx.2.2.2.1 hvw
  rw [hN] at c2 c3
  obtain ⟨e0, e1, e2⟩ := box_cells hW
  rw [sV] at e0 e1 e2
  have HB := Lib.hid hwb
  have HL := Lib.hid (h.under hwb)
  have HV := Lib.hid sV
  have hty : ((ty : Int) == 0) = decide (ty = 0) := by rw [Bool.eq_iff_iff]; simp
  clear h hwv hvw hwb bx
  unfold askV exV
  by_cases h0 : ty = 0
  · have HS := Lib.hid (same_any (y := Ex.zero) (F' := Any) HL.out (.nil) hs)
    have HR : Hid (takesXB ⟨few, many, ty, acc, least, most, keeps⟩ x = isZ x) := Lib.hid (by unfold takesXB; rw [if_pos h0])
    rw [HR.out]
    rw [decide_eq_true h0] at hty
    unfold exV at HS
    clear HR h0
    go_enter Tryd.func44, Tryd.ntmps44
    go_wp2_with fail
    refine HS.out.mono ?_
    rintro e w1 ⟨r, rfl, hr, hb1⟩
    have HX := Lib.hid (HB.out.trans (hb1.mono HB.out.size)); clear hb1
    have HR := Lib.hid hr; clear hr
    go_wp2_with fail
    go_ret
    exact ⟨ret_bool (by rw [Bool.eq_iff_iff, HR.out, isZ_iff]), by first | exact HX.out | exact hN ▸ HX.out⟩
  · have HS := Lib.hid (kind_is HL.out hs acc ty)
    have HR : Hid (takesXB ⟨few, many, ty, acc, least, most, keeps⟩ x = decide (kindO x acc = (ty, 0))) := Lib.hid (by unfold takesXB; rw [if_neg h0])
    rw [HR.out]
    rw [decide_eq_false h0] at hty
    generalize decide (kindO x acc = (ty, 0)) = r at *
    unfold exV at HS
    clear HR h0
    go_enter Tryd.func44, Tryd.ntmps44
    go_wp2_with fail
    refine HS.out.mono ?_
    rintro e w1 ⟨rfl, hb1⟩
    have HX := Lib.hid (HB.out.trans (hb1.mono HB.out.size)); clear hb1
    go_wp2_with fail
    go_ret
    exact ⟨rfl, by first | exact HX.out | exact hN ▸ HX.out⟩
end Go.Proofs.YtjmfneljgogohaaDoor.jb
