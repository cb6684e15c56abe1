/- What Take, Put and Head answer, and what they leave. -/
import Derived.Test.YtknldabnkaecdaaPiB
import Derived.Deep.RegionWith
import Derived.Deep.DeepCutAuto
namespace Go.Proofs.Ytknldabnkaecdaa.pip
set_option linter.unusedSimpArgs false
set_option linter.unusedVariables false
open Go.RowKit
open Go.Conc (rcase scase)
attribute [local go_sem ↓] Go.wp_at_zero Go.wp_at_succ
/-- The same, of messages in a list. -/
theorem head_list (v : Value) (L : List Value) : (v :: L).toArray.getD 0 undef = v := rfl
theorem tail_list (v : Value) (L : List Value) : (v :: L).toArray.extract 1 (v :: L).toArray.size = L.toArray := by
  apply Array.ext'
  simp
theorem push_list (v : Value) (L : List Value) : L.toArray.push v = (L ++ [v]).toArray := by simp
section
variable {P : Program} {ops : Array Oper} {a : Act} {w : World} {i : Nat} {o : Oper} {K : Act → World → Prop} {c cap s r : Nat} {L : List Value} {z v : Value} {tm closed : Bool}
theorem got_list {W : World} (ho : ops[i]? = some o) (hw : Region.wanted o (yielded ops a.tmps) = true) (hr : (execOp a.eval o).run P w = .ok (.comm #[rcase c z] true (.recv false)) w) (hc : w.heap[c]? = some (.chan cap (v :: L).toArray closed s r tm))
    (hW : w.setChan c cap L.toArray closed s (r + 1) tm = W) (hK : K (a.put o.dst v) W) : OpTo P ops i K a w := by
  subst hW
  refine op_recv ho hw hr hc (by simp) ?_
  rw [tail_list, head_list]; exact hK
theorem sel_list (ho : ops[i]? = some o) (hw : Region.wanted o (yielded ops a.tmps) = true) (hr : (execOp a.eval o).run P w = .ok (.comm #[rcase c z] false .select) w) (hc : w.heap[c]? = some (.chan cap (v :: L).toArray closed s r tm))
    (hK : K (a.put o.dst (.tuple #[goInt 0, .bool true, v])) (w.setChan c cap L.toArray closed s (r + 1) tm)) : OpTo P ops i K a w := by
  refine op_sel_got ho hw hr hc (by simp) ?_
  rw [tail_list, head_list]; exact hK
end
set_option maxRecDepth 1000000 in
theorem take_nil (w : World) : Calls Try.prog 10 #[.pointer none] w fun e w' => e = .returned (.tuple #[zeroV, .int .i64 1]) ∧ Below w.heap.size w w' := by
  obtain ⟨N, hN⟩ : ∃ n, w.heap.size = n := ⟨_, rfl⟩
  have hb0 := below_made w (.cells #[.int .i64 0, .int .i64 0, .slice none 0 0] 29)
  have hx0 := Bx.new w 0 0 (.slice none 0 0)
  obtain ⟨W0, hW0⟩ : ∃ W, w.alloc (.cells #[.int .i64 0, .int .i64 0, .slice none 0 0] 29) = W := ⟨_, rfl⟩
  rw [hW0] at hb0 hx0
  rw [hN] at hb0 hx0 ⊢
  have hx1 := hx0.set 0 0 (.slice none 0 0)
  have HB : Hid (Below N w (setM W0 N 0 0 (.slice none 0 0))) := Lib.hid (below_setM hb0 (Nat.le_refl _) _ _ _)
  obtain ⟨⟨c0, c1, c2⟩, f0⟩ := hx0.facts
  obtain ⟨⟨r0, r1, r2⟩, -⟩ := hx1.facts
  clear hb0 hx0 hx1
  go_enter Try.func10, Try.ntmps10
  go_wp2_with fail
  unfold setM at r0 r1 r2
  refine bodyPost_ret (v := .tuple #[zeroV, .int .i64 1]) (by simp [results, Try.f10, go_sem, r0, r1, r2, zeroV]) rfl ?_
  exact ⟨rfl, HB.out⟩
set_option maxRecDepth 1000000 in
theorem take_none {w : World} {p c room : Nat} (h : IsPipe w p c room []) : Calls Try.prog 10 #[.pointer (some ⟨p, 0, none⟩)] w fun e w' => e = .returned (.tuple #[zeroV, .int .i64 4]) ∧ Below w.heap.size w w' := by
  obtain ⟨N, hN⟩ : ∃ n, w.heap.size = n := ⟨_, rfl⟩
  have hb0 := below_made w (.cells #[.int .i64 0, .int .i64 0, .slice none 0 0] 29)
  have hx0 := Bx.new w 0 0 (.slice none 0 0)
  have hp := (h.below hb0).cell
  obtain ⟨s, r, hc⟩ := (h.below hb0).way
  obtain ⟨W0, hW0⟩ : ∃ W, w.alloc (.cells #[.int .i64 0, .int .i64 0, .slice none 0 0] 29) = W := ⟨_, rfl⟩
  rw [hW0] at hb0 hx0 hp hc
  rw [hN] at hb0 hx0 ⊢
  have hx1 := hx0.set 0 0 (.slice none 0 0)
  have HB : Hid (Below N w (setM W0 N 0 0 (.slice none 0 0))) := Lib.hid (below_setM hb0 (Nat.le_refl _) _ _ _)
  obtain ⟨⟨c0, c1, c2⟩, f0⟩ := hx0.facts
  obtain ⟨⟨r0, r1, r2⟩, -⟩ := hx1.facts
  have HC := Lib.hid hc
  clear hb0 hx0 hx1 h hc
  go_enter Try.func10, Try.ntmps10
  go_upto_region 4 with fail
  refine region_to ?_
  change OpsTo _ _ _ [0, 1, 2] _ _
  have hz := zeroMsg W0
  refine .cons (op_sel_none (c := c) (cap := room) (s := s) (r := r) (tm := false) (z := zeroV) rfl rfl (by simp [go_sem, execOp, rcase, Act.eval, hz]) HC.out ?_)
  refine .cons (op_value (v := .int .i64 (-1)) (w' := W0) rfl rfl (by simp [go_sem, execOp, Act.eval, Act.put, goInt]) ?_)
  refine .cons (op_value (v := .bool false) (w' := W0) rfl rfl (by simp [go_sem, execOp, Act.eval, Act.put, goInt]) ?_)
  refine .nil ?_
  clear hz
  simp only [Act.put]
  go_wp2_with fail
  unfold setM at r0 r1 r2
  refine bodyPost_ret (v := .tuple #[zeroV, .int .i64 4]) (by simp [results, Try.f10, go_sem, r0, r1, r2, zeroV]) rfl ?_
  exact ⟨rfl, HB.out⟩
end Go.Proofs.Ytknldabnkaecdaa.pip
