/- What changelingref04.All answers: of every text that is no longer than 1000000 bytes. -/
import Derived.Test.YtcaeigjeoeahpaaD
import Derived.Test.YtcaeigjeoeahpaaQ
namespace Go.Proofs.Ytcaeigjeoeahpaa
open Go.RowKit byt

/-- A frame's two cells. -/
def cells2 (x : Fr) : List Value := [.int .u8 x.1.1, .string x.1.2]
theorem info36 : (Try.prog.info? 36).map (fun i => (i.zero, i.size, i.bytes)) = some (some (.agg #[.int .u8 0, .string ⟨#[]⟩]), 2, 24) := by kernel_rfl
theorem cells2_length (l : List Fr) : (l.flatMap cells2).length = l.length * 2 := by
  induction l with
  | nil => rfl
  | cons x l ih => rw [List.flatMap_cons, List.length_append, ih, List.length_cons]; show 2 + _ = _; omega
theorem cell_two_new (w : World) (x y : Value) (t : TypeId) : ∀ j u, [x, y][j]? = some u → (w.alloc (.cells #[x, y] t)).cell? ((⟨w.heap.size, 0, none⟩ : Addr).add j) = some u := by
  intro j u hj
  have hh : (w.alloc (.cells #[x, y] t)).heap[w.heap.size]? = some (.cells #[x, y] t (0, 0)) := heap_alloc_new w _
  have hadd : (⟨w.heap.size, 0, none⟩ : Addr).add j = ⟨w.heap.size, 0 + j, none⟩ := Go.WideShapes.add_plain _ 0 j
  rw [hadd, cell_of_row _ w.heap.size (0 + j) _ _ _ hh, Nat.zero_add]
  match j, hj with
  | 0, hj => exact hj
  | 1, hj => exact hj
def AllPost (s : ByteArray) (w : World) (e : Ending) (w' : World) : Prop :=
  ∃ v, e = .returned (.tuple #[v, .int .i64 (whl (all s) : Nat)]) ∧ w'.ownsRow w.heap.size 36 2 v (all s).length ((all s).flatMap cells2) ∧ Below w.heap.size w w'
def AllRel (s : ByteArray) (w wr : World) (v4 v5 : Value) (g : Nat) : Prop :=
  ∃ (a : Nat) (acc : List Fr), v5 = .int .i64 a ∧ a ≤ s.size ∧ whl acc = a ∧ all s = acc ++ all (s.extract a s.size) ∧ s.size - a ≤ g ∧ wr.ownsRow w.heap.size 36 2 v4 acc.length (acc.flatMap cells2) ∧ Below w.heap.size w wr
theorem all_done {s : ByteArray} {a : Nat} {acc : List Fr} {v : Value} {w wr : World} {x : Int} (ha : whl acc = a) (he : all s = acc ++ all (s.extract a s.size)) (hc : (takeF (s.extract a s.size)).2.2.2 ≠ 0)
    (ho : wr.ownsRow w.heap.size 36 2 v acc.length (acc.flatMap cells2)) (hb : Below w.heap.size w wr) (hx : x = a) : AllPost s w (.returned (.tuple #[v, .int .i64 x])) wr := by
  rw [all_end hc, List.append_nil] at he
  exact ⟨v, by rw [he, ha, hx], by rw [he]; exact ho, hb⟩
theorem all_more {s p : ByteArray} {a k n g : Nat} {acc : List Fr} {v4 v5 : Value} {w w1 w2 : World} {o : Obj} {r : Option Nat} (ha : whl acc = a) (he : all s = acc ++ all (s.extract a s.size))
    (ht : takeF (s.extract a s.size) = (k, p, n, 0)) (hg : s.size - a ≤ g + 1) (hro : ∀ j, r = some j → w.heap.size ≤ j)
    (h2 : w2.ownsRow w.heap.size 36 2 v4 (acc.length + 1) (acc.flatMap cells2 ++ [.int .u8 k, .string p])) (g2 : (w1.alloc o).grownBy w2 r) (hb : Below w.heap.size w w1) (hv : v5 = .int .i64 (a + n : Nat)) : AllRel s w w2 v4 v5 g := by
  obtain ⟨hx, h1, h3, h4, h5⟩ := all_step ht
  rw [rest_rest] at h1
  rw [rest_size] at h4
  refine ⟨a + n, acc ++ [⟨(k, p), hx⟩], hv, by omega, ?_, ?_, by omega, ?_, (hb.alloc hb.size _).grown g2 (by rw [World.size_alloc]; have := hb.size; omega) hro⟩
  · rw [whl_append, whl, whl, h3, ha]; omega
  · rw [he, h1, List.append_assoc]; rfl
  · rw [List.length_append, List.flatMap_append]; exact h2

set_option maxHeartbeats 1600000 in
set_option maxRecDepth 1000000 in
theorem refAll_any (s : ByteArray) (w : World) (hs : s.size ≤ 1000000) : Calls Try.prog 14 #[.string s] w (AllPost s w) := by
  obtain ⟨i0, hi, hz0, hz1, hz2⟩ := info_parts info36
  go_enter Try.func14, Try.ntmps14
  go_wp2
  go_loopg [4, 5] s.size (fun g v4 v5 wr => AllRel s w wr v4 v5 g)
  case atStart => exact ⟨0, [], rfl, Nat.zero_le _, rfl, by rw [rest_none]; rfl, Nat.sub_le _ _, World.ownsRow_nil _ _ _ _, Below.refl _ _⟩
  case round =>
    obtain ⟨a, acc, rfl, ha, hwa, he, hg, hown, hb⟩ := hrel
    have ha' : (a : Int) ≤ (s.size : Int) := by omega
    have hes : (s.extract a s.size).size ≤ 140737488355328 := by rw [rest_size]; omega
    obtain ⟨k, p, n, c, ht⟩ : ∃ k p n c, takeF (s.extract a s.size) = (k, p, n, c) := ⟨_, _, _, _, rfl⟩
    have hal : acc.length ≤ 1000000 := by have := whl_len acc; omega
    by_cases hc : c = 0
    · subst hc
      obtain ⟨_, _, _, h4, _⟩ := all_step ht
      rw [rest_size] at h4
      have hpos : 6 ≤ n := (all_step ht).2.2.2.2
      obtain ⟨g, rfl⟩ : ∃ g, gk = g + 1 := ⟨gk - 1, by omega⟩
      have HSZ : Hid (∀ w1 o, Below wr.heap.size wr w1 → w.heap.size ≤ (w1.alloc o).heap.size) := Lib.hid (fun w1 o h1 => by rw [World.size_alloc]; have := hb.size; have := h1.size; omega)
      have HL := Lib.hid (fun j hj => (hown.lt j hj).1)
      have HT := Lib.hid ht; have HE := Lib.hid he; have HO := Lib.hid hown; have HB := Lib.hid hb; have HW := Lib.hid hwa
      clear ht he hown hb hwa
      go_wp2_with fail
      with_reducible refine (refTake_at HT.out _ hes).mono ?_
      rintro e w1 ⟨rfl, hb1⟩
      have HO := Lib.hid (own_below HO.out hb1)
      have HB := Lib.hid (below_on HB.out hb1)
      have HB1 := Lib.hid hb1
      clear hb1
      go_wp2_with (at_builtin; refine wpList_append_own _ rfl (.tmp 23) (.tmp 27) 29 rfl w.heap.size 36 i0 (.agg #[.int .u8 0, .string ⟨#[]⟩]) 2 24 Try.underlying29 hi hz0 hz1 hz2 rfl (by decide) _ _ _ rfl (HO.out.alloc _) ⟨_, 0, none⟩ 1 1 [.int .u8 k, .string p] rfl rfl (cell_two_new _ _ _ _) (by simp [Value.oneCell']) (by unfold maxLen; omega) (by omega) (HSZ.out _ _ HB1.out) ?_)
      intro v4 w2 k4 g4 _
      have HR := Lib.hid (fun (v5 : Value) (hv : v5 = .int .i64 (a + n : Nat)) => all_more HW.out HE.out HT.out hg HL.out k4 g4 HB.out hv)
      clear k4 g4
      go_wp2
      go_roundg g
      case measure => omega
      case rel => exact HR.out _ (by go_num)
    · have hc' : (c == 0) = false := by simp [hc]
      have hc2 : (c != 0) = true := by simp [hc]
      have HD := Lib.hid (fun w1 (h1 : Below wr.heap.size wr w1) => all_done hwa he (by rw [ht]; exact hc) (own_below hown h1) (below_on hb h1) rfl)
      have HT := Lib.hid ht
      clear ht he hown hb hwa hc
      go_wp2_with fail
      with_reducible refine (refTake_at HT.out _ hes).mono ?_
      rintro e w1 ⟨rfl, hb1⟩
      have HR := Lib.hid (HD.out _ hb1)
      clear hb1
      go_wp2_with fail
      go_ret2
      exact HR.out
end Go.Proofs.Ytcaeigjeoeahpaa
