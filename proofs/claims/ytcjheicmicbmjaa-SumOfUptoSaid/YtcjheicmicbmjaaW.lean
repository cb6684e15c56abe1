/- sum.Of of one and two parts; the small thing that every statement of the layer asks: 'works' answers true; SumMore, SumJoins return true. -/
import Derived.Test.YtcjheicmicbmjaaC
import Derived.OwnWalk
namespace Go.Proofs.Ytcjheicmicbmjaa
open Go.RowKit

theorem below_on' {w w1 w2 : World} (h : Below w.heap.size w w1) (h' : Below w1.heap.size w1 w2) : Below w.heap.size w w2 := h.trans (h'.mono h.size)
theorem rd_one (w : World) (x : ByteArray) : Rd (w.alloc (.cells #[.string x] 9)) (w.alloc (.cells #[.string x] 9)).heap.size (some ⟨w.heap.size, 0, none⟩) [x] := fun _ =>
  ⟨w.heap.size, 0, rfl, by simp, fun j hj => by
    have hh : (w.alloc (.cells #[.string x] 9)).heap[w.heap.size]? = some (.cells #[.string x] 9 (0, 0)) := heap_alloc_new w _
    rw [cell_of_row _ w.heap.size (0 + j) _ _ _ hh]
    match j, hj with
    | 0, _ => rfl⟩
theorem rd_two (w : World) (x y : ByteArray) : Rd (w.alloc (.cells #[.string x, .string y] 9)) (w.alloc (.cells #[.string x, .string y] 9)).heap.size (some ⟨w.heap.size, 0, none⟩) [x, y] := fun _ =>
  ⟨w.heap.size, 0, rfl, by simp, fun j hj => by
    have hh : (w.alloc (.cells #[.string x, .string y] 9)).heap[w.heap.size]? = some (.cells #[.string x, .string y] 9 (0, 0)) := heap_alloc_new w _
    rw [cell_of_row _ w.heap.size (0 + j) _ _ _ hh]
    match j, hj with
    | 0, _ => rfl
    | 1, _ => rfl⟩
theorem of_one (x : ByteArray) (w : World) (hx : x.size ≤ 9223372036854775807) :
    Calls Try.prog 10 #[.slice (some ⟨w.heap.size, 0, none⟩) 1 1] (w.alloc (.cells #[.string x] 9)) fun e w' => e = .returned (.int .u32 (sm (bl x))) ∧ Below w.heap.size w w' := by
  refine (of_any [x] _ 1 _ (rd_one w x) (fun s hs => ?_) (by simp)).mono ?_
  · simp only [List.mem_singleton] at hs
    subst hs; exact hx
  · rintro e w' ⟨rfl, hb⟩
    refine ⟨?_, ((Below.refl _ w).alloc (Nat.le_refl _) _).trans (hb.mono (by simp))⟩
    rw [fl_cons, fl_nil, List.append_nil]
theorem of_two (x y : ByteArray) (w : World) (hx : x.size ≤ 9223372036854775807) (hy : y.size ≤ 9223372036854775807) :
    Calls Try.prog 10 #[.slice (some ⟨w.heap.size, 0, none⟩) 2 2] (w.alloc (.cells #[.string x, .string y] 9)) fun e w' => e = .returned (.int .u32 (sm (bl x ++ bl y))) ∧ Below w.heap.size w w' := by
  refine (of_any [x, y] _ 2 _ (rd_two w x y) (fun s hs => ?_) (by simp)).mono ?_
  · simp only [List.mem_cons, List.not_mem_nil, or_false] at hs
    rcases hs with rfl | rfl
    · exact hx
    · exact hy
  · rintro e w' ⟨rfl, hb⟩
    refine ⟨?_, ((Below.refl _ w).alloc (Nat.le_refl _) _).trans (hb.mono (by simp))⟩
    rw [fl_cons, fl_cons, fl_nil, List.append_nil]
theorem of_none (w : World) : Calls Try.prog 10 #[.slice none 0 0] w fun e w' => e = .returned (.int .u32 1) ∧ Below w.heap.size w w' :=
  (of_any [] none 0 w (fun h => absurd rfl h) (by simp) (by simp)).mono fun _ _ h => h

theorem sm_works : sm (bl ⟨#[87, 105, 107, 105]⟩ ++ bl ⟨#[112, 101, 100, 105, 97]⟩) = 300286872 := by kernel_rfl
theorem of_works (w : World) : Calls Try.prog 10 #[.slice (some ⟨w.heap.size, 0, none⟩) 2 2] (w.alloc (.cells #[.string ⟨#[87, 105, 107, 105]⟩, .string ⟨#[112, 101, 100, 105, 97]⟩] 9)) fun e w' => e = .returned (.int .u32 300286872) ∧ Below w.heap.size w w' := by
  have := of_two ⟨#[87, 105, 107, 105]⟩ ⟨#[112, 101, 100, 105, 97]⟩ w (by decide) (by decide)
  rwa [sm_works] at this

set_option maxHeartbeats 800000 in
set_option maxRecDepth 1000000 in
theorem works_any (w : World) : Calls Try.prog 9 #[] w fun e w' => e = .returned (.bool true) ∧ Below w.heap.size w w' := by
  go_enter Try.func9, Try.ntmps9
  go_wp2_with fail
  refine (of_works w).mono ?_
  rintro e w1 ⟨rfl, hb⟩
  have HB := Lib.hid hb; clear hb
  go_wp2_with fail
  refine (of_none _).mono ?_
  rintro e w2 ⟨rfl, hb⟩
  have HB := Lib.hid (below_on' HB.out hb); clear hb
  go_wp2_with fail
  go_ret
  exact ⟨rfl, HB.out⟩
end Go.Proofs.Ytcjheicmicbmjaa
