/- The nodes that the statements make. -/
import Derived.Test.YtamdbfkofdjmlaaOpR
namespace Go.Proofs.Ytamdbfkofdjmlaa.opr
set_option linter.unusedSimpArgs false
set_option linter.unusedVariables false
open Go.RowKit
attribute [local go_sem ↓] Go.wp_at_zero Go.wp_at_succ
open Go.Proofs.Ytamdbfkofdjmlaa.tbl (Only lt_of_get)
open Go.Proofs.Ytamdbfkofdjmlaa.grp (below_on' below_made)
open Go.Proofs.Ytamdbfkofdjmlaa.exp (Ex Lies En intO exV enV)
theorem node_none (kd op : Nat) (n : Int) (w : World) : Calls Try.prog 8 #[.int .u8 kd, .int .u8 op, .int .u8 0, .int .u8 0, .int .i64 n] w fun e w' => ∃ a, e = .returned (nodeV ⟨⟨#[110]⟩, kd, a, 1, 1, op, 0, none, 0, 0, n⟩) ∧ Below w.heap.size w w' := by
  have hNB : NBox (((w.alloc (.cells (Nv.cells ⟨⟨#[110]⟩, kd, some ⟨w.heap.size + 1 + 1, 0, none⟩, 1, 1, op, 0, none, 0, 0, n⟩) 29)).alloc (.cells #[.int .u8 op, .int .i64 0, .slice none 0 0] 27)).alloc (.cells #[.int .i64 0] 3)) w.heap.size ⟨⟨#[110]⟩, kd, some ⟨w.heap.size + 1 + 1, 0, none⟩, 1, 1, op, 0, none, 0, 0, n⟩ :=
    ((NBox.new w _).below (below_made _ _)).below (below_made _ _)
  obtain ⟨c0, c1, c2, c3, c4, c5, c6⟩ := hNB.facts
  dsimp only [Nv.cells] at c0 c1 c2 c3 c4 c5 c6
  have HB : Hid (Below w.heap.size w (((w.alloc (.cells (Nv.cells ⟨⟨#[110]⟩, kd, some ⟨w.heap.size + 1 + 1, 0, none⟩, 1, 1, op, 0, none, 0, 0, n⟩) 29)).alloc (.cells #[.int .u8 op, .int .i64 0, .slice none 0 0] 27)).alloc (.cells #[.int .i64 0] 3))) :=
    Lib.hid (below_on' (below_on' (below_made _ _) (below_made _ _)) (below_made _ _))
  clear hNB
  go_enter Try.func8, Try.ntmps8
  go_wp2
  refine bodyPost_ret (v := nodeV ⟨⟨#[110]⟩, kd, some ⟨w.heap.size + 1 + 1, 0, none⟩, 1, 1, op, 0, none, 0, 0, n⟩) (by simp [results, Try.f8, go_sem, c0, c1, c2, c3, c4, c5, c6, nodeV, Nv.cells]) rfl ?_
  exact ⟨_, rfl, HB.out⟩
theorem lies_two (w : World) (bk a b : Nat) (h : w.heap[bk]? = some (.cells #[.int .u8 a, .int .i64 0, .slice none 0 0, .int .u8 b, .int .i64 0, .slice none 0 0] 27 (0, 0))) :
    Lies w (· = bk) (.slice (some ⟨bk, 0, none⟩) 2 2) [.mk a 0 [], .mk b 0 []] := by
  refine .row bk 2 2 _ [.mk a 0 [], .mk b 0 []] (fun _ => .slice none 0 0) rfl h rfl (fun i hi => ?_) (fun i hi => ?_)
  · match i, hi with
    | 0, _ => exact ⟨rfl, rfl, rfl⟩
    | 1, _ => exact ⟨rfl, rfl, rfl⟩
    | i + 2, hi => exact absurd hi (by simp)
  · match i, hi with
    | 0, _ => exact .nil
    | 1, _ => exact .nil
    | i + 2, hi => exact absurd hi (by simp)
/-- The worlds of node's blocks. -/
def nodeW (w : World) (kd op a b : Nat) (n : Int) : World :=
  (((w.alloc (.cells (Nv.cells ⟨⟨#[110]⟩, kd, some ⟨w.heap.size + 1 + 1 + 1, 0, none⟩, 1, 1, op, 0, some ⟨w.heap.size + 1 + 1, 0, none⟩, 2, 2, n⟩) 29)).alloc (.cells #[.int .u8 op, .int .i64 0, .slice (some ⟨w.heap.size + 1 + 1, 0, none⟩) 2 2] 27)).alloc (.cells #[.int .u8 a, .int .i64 0, .slice none 0 0, .int .u8 b, .int .i64 0, .slice none 0 0] 27)).alloc (.cells #[.int .i64 0] 3)
theorem node_two (kd op a b : Nat) (ha : 0 < a) (n : Int) (w : World) : Calls Try.prog 8 #[.int .u8 kd, .int .u8 op, .int .u8 a, .int .u8 b, .int .i64 n] w fun e w' =>
    ∃ ai bk, e = .returned (nodeV ⟨⟨#[110]⟩, kd, ai, 1, 1, op, 0, some ⟨bk, 0, none⟩, 2, 2, n⟩) ∧ Lies w' (· = bk) (.slice (some ⟨bk, 0, none⟩) 2 2) [.mk a 0 [], .mk b 0 []] ∧ Below w.heap.size w w' := by
  have ha' : (0 : Int) < (a : Int) := by omega
  have hNB : NBox (nodeW w kd op a b n) w.heap.size ⟨⟨#[110]⟩, kd, some ⟨w.heap.size + 1 + 1 + 1, 0, none⟩, 1, 1, op, 0, some ⟨w.heap.size + 1 + 1, 0, none⟩, 2, 2, n⟩ :=
    (((NBox.new w _).below (below_made _ _)).below (below_made _ _)).below (below_made _ _)
  have hbk : (nodeW w kd op a b n).heap[w.heap.size + 1 + 1]? = some (.cells #[.int .u8 a, .int .i64 0, .slice none 0 0, .int .u8 b, .int .i64 0, .slice none 0 0] 27 (0, 0)) := by
    unfold nodeW
    rw [Below.heap_alloc _ _ _ (by simp only [World.size_alloc]; omega)]
    have := Go.heap_alloc_new ((w.alloc (.cells (Nv.cells ⟨⟨#[110]⟩, kd, some ⟨w.heap.size + 1 + 1 + 1, 0, none⟩, 1, 1, op, 0, some ⟨w.heap.size + 1 + 1, 0, none⟩, 2, 2, n⟩) 29)).alloc (.cells #[.int .u8 op, .int .i64 0, .slice (some ⟨w.heap.size + 1 + 1, 0, none⟩) 2 2] 27)) (.cells #[.int .u8 a, .int .i64 0, .slice none 0 0, .int .u8 b, .int .i64 0, .slice none 0 0] 27)
    rw [World.size_alloc, World.size_alloc] at this
    exact this
  obtain ⟨c0, c1, c2, c3, c4, c5, c6⟩ := hNB.facts
  have HF : Hid (∃ ai bk, Ending.returned (nodeV ⟨⟨#[110]⟩, kd, some ⟨w.heap.size + 1 + 1 + 1, 0, none⟩, 1, 1, op, 0, some ⟨w.heap.size + 1 + 1, 0, none⟩, 2, 2, n⟩) = .returned (nodeV ⟨⟨#[110]⟩, kd, ai, 1, 1, op, 0, some ⟨bk, 0, none⟩, 2, 2, n⟩) ∧ Lies (nodeW w kd op a b n) (· = bk) (.slice (some ⟨bk, 0, none⟩) 2 2) [.mk a 0 [], .mk b 0 []] ∧ Below w.heap.size w (nodeW w kd op a b n)) :=
    Lib.hid ⟨_, _, rfl, lies_two _ _ a b hbk, below_on' (below_on' (below_on' (below_made _ _) (below_made _ _)) (below_made _ _)) (below_made _ _)⟩
  unfold nodeW at c0 c1 c2 c3 c4 c5 c6 HF
  dsimp only [Nv.cells] at c0 c1 c2 c3 c4 c5 c6 HF
  clear hNB hbk ha
  go_enter Try.func8, Try.ntmps8
  go_wp2
  refine bodyPost_ret (v := nodeV ⟨⟨#[110]⟩, kd, some ⟨w.heap.size + 1 + 1 + 1, 0, none⟩, 1, 1, op, 0, some ⟨w.heap.size + 1 + 1, 0, none⟩, 2, 2, n⟩) (by simp [results, Try.f8, go_sem, c0, c1, c2, c3, c4, c5, c6, nodeV, Nv.cells]) rfl ?_
  exact HF.out
/-- The exchange of the node's own box. -/
theorem own_only {F : Nat → Prop} {w w' : World} {B : Nat} {v : Value} {l : List Rc} (h : Own w B v l) (ho : Only F w w') (hF : ∀ k, F k → k < B) : Own w' B v l := by
  rcases h.2 with ⟨e1, e2⟩ | ⟨g, cap, cur, e1, e2, e3, e4⟩
  · exact ⟨h.1, .inl ⟨e1, e2⟩⟩
  · exact ⟨h.1, .inr ⟨g, cap, cur, e1, e2, (ho.block g (lt_of_get e3) (fun hf => by have := hF g hf; omega)).trans e3, e4⟩⟩
end Go.Proofs.Ytamdbfkofdjmlaa.opr
