/- The small thing that every statement of the layer asks: 'works' answers true, in whatever world. BytesKnown, BytesTexts return true. -/
import Derived.Test.YtnkpkmfobmbneaaK
namespace Go.Proofs.Ytnkpkmfobmbneaa
open Go.RowKit

/-- What is owned is read as a slice. -/
theorem own_rd {w : World} {B : Nat} {v : Value} {l : List Int} (h : w.ownsRow B 2 1 v l.length (l.map intV)) : ∃ a cap, v = .slice a l.length cap ∧ Rd w w.heap.size a l := by
  rcases own_cases h with ⟨rfl, h0⟩ | ⟨g, cap, rfl, _, _, _, hg, hc⟩
  · rw [h0]
    exact ⟨none, 0, rfl, fun hl => absurd (List.eq_nil_of_length_eq_zero h0) hl⟩
  · refine ⟨_, cap, rfl, fun _ => ⟨g, 0, rfl, hg, fun j hj => ?_⟩⟩
    rw [Nat.zero_add]
    refine hc j _ ?_
    rw [List.getElem?_map, List.getElem?_eq_getElem hj, List.getD_eq_getElem?_getD, List.getElem?_eq_getElem hj]
    rfl
def NumsAt (l : List Int) (c : Int) (w : World) (e : Ending) (w' : World) : Prop :=
  ∃ a cap, e = .returned (.tuple #[.slice a l.length cap, .int .i64 c]) ∧ Rd w' w'.heap.size a l ∧ Below w.heap.size w w'
theorem nums_at {s : ByteArray} {l : List Int} {c : Int} (h : numsO s = (l, c)) {e : Ending} {w w' : World} (hp : NumsPost s w e w') : NumsAt l c w e w' := by
  obtain ⟨v, rfl, ho, hb⟩ := hp
  rw [h] at ho ⊢
  obtain ⟨a, cap, rfl, hr⟩ := own_rd ho
  exact ⟨a, cap, rfl, hr, hb⟩
theorem numbers_at {s : ByteArray} {l : List Int} {c : Int} (h : numsO s = (l, c)) (w : World) (hs : s.size ≤ 1000000) : Calls Try.prog 17 #[.string s] w (NumsAt l c w) :=
  (numbers_any s w hs).mono fun _ _ hp => nums_at h hp
theorem refNumbers_at {s : ByteArray} {l : List Int} {c : Int} (h : numsO s = (l, c)) (w : World) (hs : s.size ≤ 1000000) : Calls Try.prog 18 #[.string s] w (NumsAt l c w) :=
  (refNumbers_any s w hs).mono fun _ _ hp => nums_at h hp
theorem rd_two (w : World) (x y : Int) : Rd (w.alloc (.cells #[.int .i64 x, .int .i64 y] 2)) (w.alloc (.cells #[.int .i64 x, .int .i64 y] 2)).heap.size (some ⟨w.heap.size, 0, none⟩) [x, y] := fun _ =>
  ⟨w.heap.size, 0, rfl, by simp, fun j hj => by
    have hh : (w.alloc (.cells #[.int .i64 x, .int .i64 y] 2)).heap[w.heap.size]? = some (.cells #[.int .i64 x, .int .i64 y] 2 (0, 0)) := heap_alloc_new w _
    rw [cell_of_row _ w.heap.size (0 + j) _ _ _ hh]
    match j, hj with
    | 0, _ => rfl
    | 1, _ => rfl⟩

theorem numsO_works : numsO ⟨#[1, 128, 1]⟩ = ([-1, 64], 0) := by kernel_rfl
theorem flat_works : flat [-1, 64] = [1, 128, 1] := by
  have h1 : sev (tf (-1)) = [1] := by rw [show tf (-1) = 1 from rfl, sev_small (by omega)]; rfl
  have h2 : sev (tf 64) = [128, 1] := by rw [show tf 64 = 128 from rfl, sev_big (by omega), sev_small (by omega)]; rfl
  simp [flat, h1, h2]
theorem put_works (w : World) : Calls Try.prog 14 #[.slice (some ⟨w.heap.size, 0, none⟩) 2 2] (w.alloc (.cells #[.int .i64 (-1), .int .i64 64] 2)) fun e w' => e = .returned (.string ⟨#[1, 128, 1]⟩) ∧ Below w.heap.size w w' := by
  refine (put_any [-1, 64] _ 2 _ (rd_two w (-1) 64) (fun n hn => ?_) (by simp)).mono ?_
  · simp only [List.mem_cons, List.not_mem_nil, or_false] at hn
    rcases hn with rfl | rfl <;> exact ⟨by omega, by omega⟩
  · rintro e w' ⟨rfl, hb⟩
    exact ⟨by rw [flat_works]; rfl, ((Below.refl _ w).alloc (Nat.le_refl _) _).trans (hb.mono (by simp))⟩
theorem equal_works {w : World} {a : Option Addr} {c : Nat} (h : Rd w w.heap.size a [-1, 64]) :
    Calls Try.prog 19 #[.slice a 2 c, .slice (some ⟨w.heap.size, 0, none⟩) 2 2] (w.alloc (.cells #[.int .i64 (-1), .int .i64 64] 2)) fun e w' => e = .returned (.bool true) ∧ Below w.heap.size w w' := by
  refine (equal_any [-1, 64] [-1, 64] a _ c 2 _ (h.on ((Below.refl _ w).alloc (Nat.le_refl _) _)) (rd_two w (-1) 64) (by simp) (by simp)).mono ?_
  rintro e w' ⟨rfl, hb⟩
  exact ⟨by simp, ((Below.refl _ w).alloc (Nat.le_refl _) _).trans (hb.mono (by simp))⟩

set_option maxHeartbeats 800000 in
set_option maxRecDepth 1000000 in
theorem works_any (w : World) : Calls Try.prog 13 #[] w fun e w' => e = .returned (.bool true) ∧ Below w.heap.size w w' := by
  have HN := Lib.hid numsO_works
  go_enter Try.func13, Try.ntmps13
  go_wp2_with fail
  refine (numbers_at HN.out w (by decide)).mono ?_
  rintro e w1 ⟨a, cap, rfl, hr, hb⟩
  have HB := Lib.hid hb; have HR := Lib.hid hr
  clear hb hr
  go_wp2_with fail
  refine (put_works _).mono ?_
  rintro e w2 ⟨rfl, hb⟩
  have HR := Lib.hid (HR.out.on hb)
  have HB := Lib.hid (below_on' HB.out hb); clear hb
  go_wp2_with fail
  refine (equal_works HR.out).mono ?_
  rintro e w3 ⟨rfl, hb⟩
  have HB := Lib.hid (below_on' HB.out hb); clear hb
  go_wp2_with fail
  go_ret
  exact ⟨rfl, HB.out⟩
end Go.Proofs.Ytnkpkmfobmbneaa
