/- What bytes.Take answers, as callers meet it; what Numbers is to answer. -/
import Derived.Test.YtknldabnkaecdaaByC
namespace Go.Proofs.Ytknldabnkaecdaa.byt
open Go.RowKit

def intV (n : Int) : Value := .int .i64 n
/-- What Numbers answers: the numbers, the code. -/
def numsO (s : ByteArray) : List Int × Int := nums s.size [] (bl s)
def NumsPost (s : ByteArray) (w : World) (e : Ending) (w' : World) : Prop :=
  ∃ v, e = .returned (.tuple #[v, .int .i64 (numsO s).2]) ∧ w'.ownsRow w.heap.size 2 1 v (numsO s).1.length ((numsO s).1.map intV) ∧ Below w.heap.size w w'
theorem nums_fail {s : ByteArray} {w w' : World} {c : Int} (h : numsO s = ([], c)) (hb : Below w.heap.size w w') : NumsPost s w (.returned (.tuple #[.slice none 0 0, .int .i64 c])) w' :=
  ⟨.slice none 0 0, by rw [h], by rw [h]; exact World.ownsRow_nil _ _ _ _, hb⟩
theorem nums_fine {s : ByteArray} {w w' : World} {v : Value} {l : List Int} (h : numsO s = (l, 0)) (ho : w'.ownsRow w.heap.size 2 1 v l.length (l.map intV)) (hb : Below w.heap.size w w') : NumsPost s w (.returned (.tuple #[v, .int .i64 0])) w' :=
  ⟨v, by rw [h], by rw [h]; exact ho, hb⟩
theorem info2 : (Try.prog.info? 2).map (fun i => (i.zero, i.size, i.bytes)) = some (some (.int .i64 0), 1, 8) := by kernel_rfl

theorem take_of {s : ByteArray} {n : Int} {k : Nat} {c : Int} (h : take (bl s) = (n, k, c)) (w : World) (hs : s.size ≤ 9223372036854775807) :
    Calls Try.prog 36 #[.string s] w fun e w' => e = .returned (.tuple #[.int .i64 n, .int .i64 k, .int .i64 c]) ∧ w = w' := by
  have := take_any s w hs; rwa [takeE_of h] at this

theorem bl_cut (s : ByteArray) (i j : Nat) : bl (s.extract i j) = ((bl s).drop i).take (j - i) := by
  unfold bl
  rw [ByteArray.data_extract, Array.toList_extract, List.extract_eq_take_drop]
theorem bl_extract (s : ByteArray) (k : Nat) : bl (s.extract k s.size) = (bl s).drop k := by
  rw [bl_cut, List.take_of_length_le (by rw [List.length_drop, bl_length]; omega)]
theorem bl_nil {s : ByteArray} : bl s = [] ↔ s.size = 0 := by
  rw [← bl_length]; exact List.length_eq_zero_iff.symm

/-- What holds at each round's head: the bytes that are left, the numbers that are had. -/
def NumsRel (s : ByteArray) (w wr : World) (v0 v4 : Value) (g : Nat) : Prop :=
  ∃ (r : ByteArray) (acc : List Int), v0 = .string r ∧ wr.ownsRow w.heap.size 2 1 v4 acc.length (acc.map intV) ∧ Below w.heap.size w wr ∧ nums g acc (bl r) = numsO s ∧ r.size ≤ g ∧ acc.length + r.size ≤ s.size

theorem nums_more {s r : ByteArray} {w wr w2 : World} {acc : List Int} {n : Int} {k g : Nat} {v4 : Value} {o : Obj} {ro : Option Nat} (hr : 0 < r.size) (hk1 : 1 ≤ k) (hk : k ≤ r.size) (ht : take (bl r) = (n, k, 0))
    (hb : Below w.heap.size w wr) (hn : nums (g + 1) acc (bl r) = numsO s) (hg : r.size ≤ g + 1) (hl : acc.length + r.size ≤ s.size)
    (hro : ∀ j, ro = some j → w.heap.size ≤ j) (k4 : w2.ownsRow w.heap.size 2 1 v4 (acc.length + 1) (acc.map intV ++ [.int .i64 n])) (g4 : (wr.alloc o).grownBy w2 ro) :
    NumsRel s w w2 (.string (r.extract k r.size)) v4 g := by
  have hsz : (r.extract k r.size).size = r.size - k := by rw [← bl_length, bl_extract, List.length_drop]; rfl
  rw [nums_step (by rw [Ne, bl_nil]; omega) (by rw [ht]), ht] at hn
  refine ⟨_, acc ++ [n], rfl, by simpa [intV] using k4, (hb.alloc hb.size _).grown g4 (by rw [World.size_alloc]; have := hb.size; omega) hro, by rw [bl_extract]; exact hn, by omega, by rw [List.length_append, List.length_singleton]; omega⟩

end Go.Proofs.Ytknldabnkaecdaa.byt
