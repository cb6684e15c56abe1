/- Expressions in memory; what fits, May's and Deep's closures answer of one. -/
import Derived.Test.YtjmfneljgogohaaDoorExP
import Derived.Test.YtjmfneljgogohaaDoorExK
import Derived.Test.YtjmfneljgogohaaDoorNmC
import Derived.WalkKit
import Derived.BigQuiet
import Derived.Handy
import Derived.Lib.Hide
import Derived.Lib.OthersKept
import Derived.OwnWalk
import Derived.Deep.OwnRows
import Derived.Deep.MidRow
import Derived.Deep.LoopGhost
import Derived.Deep.QuietTactic
import Derived.Deep.Light
namespace Go.Proofs.YtjmfneljgogohaaDoor.exp
set_option linter.unusedSimpArgs false
set_option linter.unusedVariables false
open Go.RowKit nam

def Any : Nat → Prop := fun _ => True
/-- v is a slice that holds these expressions, on blocks of B. -/
inductive Lies (w : World) (B : Nat → Prop) : Value → List Ex → Prop
  | nil : Lies w B (.slice none 0 0) []
  | row (b n c : Nat) (cur : Array Value) (xs : List Ex) (V : Nat → Value) (hB : B b) (hb : w.heap[b]? = some (.cells cur 28 (0, 0))) (hn : n = xs.length)
      (hc : ∀ i (h : i < xs.length), cur[i * 3]? = some (.int .u8 (xs[i].op : Int)) ∧ cur[i * 3 + 1]? = some (.int .i64 xs[i].n) ∧ cur[i * 3 + 2]? = some (V i))
      (hl : ∀ i (h : i < xs.length), Lies w B (V i) xs[i].args) : Lies w B (.slice (some ⟨b, 0, none⟩) n c) xs
/-- At this place lies this expression. -/
def At (w : World) (B : Nat → Prop) (b o : Nat) (x : Ex) : Prop :=
  ∃ cur v, B b ∧ w.heap[b]? = some (.cells cur 28 (0, 0)) ∧ cur[o]? = some (.int .u8 (x.op : Int)) ∧ cur[o + 1]? = some (.int .i64 x.n) ∧ cur[o + 2]? = some v ∧ Lies w B v x.args
theorem Lies.frame {w w' : World} {B : Nat → Prop} {v : Value} {l : List Ex} (h : Lies w B v l) (hf : ∀ b c, B b → w.heap[b]? = some (.cells c 28 (0, 0)) → w'.heap[b]? = w.heap[b]?) : Lies w' B v l := by
  induction h with
  | nil => exact .nil
  | row b n c cur xs V hB hb hn hc hl ih => exact .row b n c cur xs V hB ((hf b cur hB hb).trans hb) hn hc fun i h => ih i h
theorem Lies.mono {w : World} {B B' : Nat → Prop} {v : Value} {l : List Ex} (h : Lies w B v l) (hB' : ∀ b, B b → B' b) : Lies w B' v l := by
  induction h with
  | nil => exact .nil
  | row b n c cur xs V hB hb hn hc hl ih => exact .row b n c cur xs V (hB' _ hB) hb hn hc fun i h => ih i h
theorem Lies.under {w w' : World} {B : Nat → Prop} {v : Value} {l : List Ex} (h : Lies w B v l) (hb : Below w.heap.size w w') : Lies w' B v l := h.frame fun b _ _ hb' => hb.block b (Array.getElem?_eq_some_iff.1 hb').1
theorem At.frame {w w' : World} {B : Nat → Prop} {b o : Nat} {x : Ex} (h : At w B b o x) (hf : ∀ b c, B b → w.heap[b]? = some (.cells c 28 (0, 0)) → w'.heap[b]? = w.heap[b]?) : At w' B b o x := by
  obtain ⟨cur, v, h1, h2, h3, h4, h5, h6⟩ := h
  exact ⟨cur, v, h1, (hf b cur h1 h2).trans h2, h3, h4, h5, h6.frame hf⟩
theorem At.mono {w : World} {B B' : Nat → Prop} {b o : Nat} {x : Ex} (h : At w B b o x) (hB' : ∀ b, B b → B' b) : At w B' b o x := by
  obtain ⟨cur, v, h1, h2, h3, h4, h5, h6⟩ := h
  exact ⟨cur, v, hB' _ h1, h2, h3, h4, h5, h6.mono hB'⟩
theorem At.below {w w' : World} {B : Nat → Prop} {b o : Nat} {x : Ex} (h : At w B b o x) (hb : Below w.heap.size w w') : At w' B b o x := h.frame fun b _ _ hb' => hb.block b (Array.getElem?_eq_some_iff.1 hb').1
theorem At.under' {w w' : World} {B : Nat → Prop} {b o : Nat} {x : Ex} (h : At w B b o x) (hb : Below w.heap.size w w') : At w' B b o x := h.below hb
theorem At.lt {w : World} {B : Nat → Prop} {b o : Nat} {x : Ex} (h : At w B b o x) : b < w.heap.size := by
  obtain ⟨cur, v, h1, h2, _⟩ := h
  exact (Array.getElem?_eq_some_iff.1 h2).1
theorem At.plain {w : World} {B : Nat → Prop} {b o : Nat} {x : Ex} (h : At w B b o x) : Plain w ⟨b, o, none⟩ := by
  obtain ⟨cur, v, h1, h2, _⟩ := h
  exact ⟨cur, 28, h2⟩
theorem cell_of {w : World} {b o : Nat} {cur : Array Value} {t : TypeId} {fr : Nat × Nat} {v : Value} (hb : w.heap[b]? = some (.cells cur t fr)) (hv : cur[o]? = some v) : w.cell? ⟨b, o, none⟩ = some v := by
  simp [World.cell?, hb, hv]
/-- A slice's form; its elements. -/
theorem Lies.form {w : World} {B : Nat → Prop} {v : Value} {l : List Ex} (h : Lies w B v l) : ∃ a c, v = .slice a l.length c ∧ (0 < l.length → ∃ b, a = some ⟨b, 0, none⟩ ∧ ∀ i (h : i < l.length), At w B b (i * 3) l[i]) := by
  cases h with
  | nil => exact ⟨none, 0, rfl, fun h => by simp at h⟩
  | row b n c cur xs V hB hb hn hc hl => exact ⟨_, c, by rw [hn], fun _ => ⟨b, rfl, fun i hi => ⟨cur, V i, hB, hb, (hc i hi).1, (hc i hi).2.1, (hc i hi).2.2, hl i hi⟩⟩⟩
/-- Its blocks are there. -/
theorem Lies.here {w : World} {B : Nat → Prop} {v : Value} {l : List Ex} (h : Lies w B v l) : Lies w (fun b => B b ∧ b < w.heap.size) v l := by
  induction h with
  | nil => exact .nil
  | row b n c cur xs V hB hb hn hc hl ih => exact .row b n c cur xs V ⟨hB, (Array.getElem?_eq_some_iff.1 hb).1⟩ hb hn hc fun i h => ih i h
/-- The three cells of a place. -/
theorem At.cells {w : World} {B : Nat → Prop} {b o : Nat} {x : Ex} (h : At w B b o x) : ∃ a c, w.cell? ⟨b, o, none⟩ = some (.int .u8 (x.op : Int)) ∧ w.cell? ⟨b, o + 1, none⟩ = some (.int .i64 x.n) ∧ w.cell? ⟨b, o + 2, none⟩ = some (.slice a x.args.length c) ∧
    Lies w B (.slice a x.args.length c) x.args ∧ (0 < x.args.length → ∃ b, a = some ⟨b, 0, none⟩ ∧ ∀ i (h : i < x.args.length), At w B b (i * 3) x.args[i]) := by
  obtain ⟨cur, v, h1, h2, h3, h4, h5, h6⟩ := h
  obtain ⟨a, c, rfl, hf⟩ := h6.form
  exact ⟨a, c, cell_of h2 h3, cell_of h2 h4, cell_of h2 h5, h6, hf⟩
/-- What lies at a place is one expression. -/
theorem Lies.det {w : World} {B : Nat → Prop} {v : Value} {l : List Ex} (h : Lies w B v l) : ∀ {B' : Nat → Prop} {l' : List Ex}, Lies w B' v l' → l = l' := by
  induction h with
  | nil => intro B' l' h'; cases h'; rfl
  | row b n c cur xs V hB hb hn hc hl ih =>
    intro B' l' h'
    cases h' with
    | row _ _ _ cur' _ V' hB' hb' hn' hc' hl' =>
      rw [hb] at hb'
      simp only [Option.some.injEq, Obj.cells.injEq, and_true] at hb'
      subst hb'
      refine List.ext_getElem (by omega) fun i h1 h2 => ?_
      have a1 := hc i h1
      have a2 := hc' i h2
      rw [a1.1, a1.2.1, a1.2.2] at a2
      simp only [Option.some.injEq, Value.int.injEq, true_and] at a2
      exact Ex.ext' (by omega) a2.2.1 (ih i h1 (a2.2.2 ▸ hl' i h2))
theorem At.det {w : World} {B B' : Nat → Prop} {b o : Nat} {x y : Ex} (h : At w B b o x) (h' : At w B' b o y) : x = y := by
  obtain ⟨cur, v, h1, h2, h3, h4, h5, h6⟩ := h
  obtain ⟨cur', v', k1, k2, k3, k4, k5, k6⟩ := h'
  rw [h2] at k2
  simp only [Option.some.injEq, Obj.cells.injEq, and_true] at k2
  subst k2
  rw [h3] at k3; rw [h4] at k4; rw [h5] at k5
  simp only [Option.some.injEq, Value.int.injEq, true_and] at k3 k4 k5
  subst k5
  exact Ex.ext' (by omega) k4 (h6.det k6)

/-! What its own closures answer of a part. -/
theorem fitsB_iff (o : Nat) (n : Int) (m : Nat) : fitsB o n m = true ↔ 0 ≤ n ∧ (0 < n → o = 1) ∧ ((1 ≤ o ∧ o ≤ 4 ∧ m = 0) ∨ ((o = 5 ∨ o = 6) ∧ m = 1) ∨ (o = 18 ∧ m = 3) ∨ (7 ≤ o ∧ o ≤ 17 ∧ m = 2)) := by
  unfold fitsB
  split
  · simp; omega
  split
  · simp; omega
  split
  · simp; omega
  split
  · simp; omega
  · simp; omega
theorem fits_cells {w : World} {b o op m c : Nat} {n : Int} {a : Option Addr} (h0 : w.cell? ⟨b, o, none⟩ = some (.int .u8 (op : Int))) (h1 : w.cell? ⟨b, o + 1, none⟩ = some (.int .i64 n)) (h2 : w.cell? ⟨b, o + 2, none⟩ = some (.slice a m c)) :
    Calls Tryd.prog 57 #[.pointer (some ⟨b, o, none⟩)] w fun e w' => e = .returned (.bool (fitsB op n m)) ∧ w = w' := by
  go_enter Tryd.func57, Tryd.ntmps57
  go_wp2
  all_goals (go_ret; refine ⟨ret_bool ?_, rfl⟩; clear h0 h1 h2; go_light; rw [Bool.eq_iff_iff, fitsB_iff]; simp only [beq_iff_eq, bne_iff_ne, beq_eq_false_iff_ne, bne_eq_false_iff_eq, ne_eq, Bool.false_eq_true, iff_false, false_iff] at *; omega)
theorem fits_at {w : World} {B : Nat → Prop} {b o : Nat} {x : Ex} (h : At w B b o x) : Calls Tryd.prog 57 #[.pointer (some ⟨b, o, none⟩)] w fun e w' => e = .returned (.bool (fitsB x.op x.n x.args.length)) ∧ w = w' := by
  obtain ⟨a, c, h0, h1, h2, _⟩ := h.cells
  exact fits_cells h0 h1 h2
theorem may1_at {w : World} {B : Nat → Prop} {b o d : Nat} {x : Ex} (h : At w B b o x) : Calls Tryd.prog 56 #[.pointer (some ⟨b, o, none⟩), .int .i64 d] w fun e w' => e = .returned (.bool (FM x.op x.n x.args.length d)) ∧ w = w' := by
  have HF := Lib.hid (fits_at h)
  by_cases hd : d ≤ 16
  · have hd' : (d : Int) ≤ 16 := by omega
    go_enter Tryd.func56, Tryd.ntmps56
    go_wp2_with fail
    refine HF.out.mono ?_
    rintro e w' ⟨rfl, rfl⟩
    go_wp2_with fail
    go_ret
    exact ⟨ret_bool (by unfold FM; simp [hd]), rfl⟩
  · have hd' : ¬ (d : Int) ≤ 16 := by omega
    go_enter Tryd.func56, Tryd.ntmps56
    go_wp2_with fail
    go_ret
    exact ⟨ret_bool (by unfold FM; simp [hd]), rfl⟩
/-- How deep it went, as Deep keeps it. -/
def Dp (_ : World) (_ : Nat) (_ : Nat) : Prop := False
end Go.Proofs.YtjmfneljgogohaaDoor.exp
