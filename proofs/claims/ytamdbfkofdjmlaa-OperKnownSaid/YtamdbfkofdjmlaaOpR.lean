/- A row of one record; what x comes to; a node. -/
import Derived.Test.YtamdbfkofdjmlaaOpQ
import Derived.Test.YtamdbfkofdjmlaaEvGH
namespace Go.Proofs.Ytamdbfkofdjmlaa.opr
set_option linter.unusedSimpArgs false
set_option linter.unusedVariables false
open Go.RowKit
attribute [local go_sem ↓] Go.wp_at_zero Go.wp_at_succ
open Go.Proofs.Ytamdbfkofdjmlaa.tbl (Only lt_of_get)
open Go.Proofs.Ytamdbfkofdjmlaa.grp (below_on' below_made)
open Go.Proofs.Ytamdbfkofdjmlaa.exp (Ex Lies En intO exV enV)
theorem own_one (w : World) (r : Rc) : Own (w.alloc (.cells #[.int .i64 r.1, .int .i64 r.2.1, .int .i64 r.2.2] 32)) w.heap.size (.slice (some ⟨w.heap.size, 0, none⟩) 1 1) [r] :=
  ⟨rfl, .inr ⟨w.heap.size, 1, _, rfl, Nat.le_refl _, Go.heap_alloc_new w _, Nat.le_refl _, by decide, rfl, rfl⟩⟩
theorem one_any (p k v : Int) (w : World) : Calls Try.prog 36 #[.int .i64 p, .int .i64 k, .int .i64 v] w fun e w' => ∃ v', e = .returned v' ∧ Own w' w.heap.size v' [(p, k, v)] ∧ Below w.heap.size w w' := by
  have HF : Hid (∃ v', Ending.returned (.slice (some ⟨w.heap.size, 0, none⟩) 1 1) = .returned v' ∧ Own (w.alloc (.cells #[.int .i64 p, .int .i64 k, .int .i64 v] 32)) w.heap.size v' [(p, k, v)] ∧ Below w.heap.size w (w.alloc (.cells #[.int .i64 p, .int .i64 k, .int .i64 v] 32))) :=
    Lib.hid ⟨_, rfl, own_one w (p, k, v), below_made _ _⟩
  go_enter Try.func36, Try.ntmps36
  go_wp2
  go_ret
  exact HF.out
/-- A node's seven cells. -/
structure Nv where
  s : ByteArray
  kd : Nat
  ia : Option Addr
  il : Nat
  ic : Nat
  op : Nat
  xn : Int
  xa : Option Addr
  xl : Nat
  xc : Nat
  nn : Int
def Nv.cells (n : Nv) : Array Value := #[.string n.s, .int .u8 (n.kd : Int), .slice n.ia n.il n.ic, .int .u8 (n.op : Int), .int .i64 n.xn, .slice n.xa n.xl n.xc, .int .i64 n.nn]
def nodeV (n : Nv) : Value := .agg n.cells
def NBox (w : World) (b : Nat) (n : Nv) : Prop := w.heap[b]? = some (.cells n.cells 29 (0, 0))
theorem NBox.below {w w' : World} {b : Nat} {n : Nv} (h : NBox w b n) (hb : Below w.heap.size w w') : NBox w' b n := (hb.block b (lt_of_get h)).trans h
theorem NBox.facts {w : World} {b : Nat} {n : Nv} (h : NBox w b n) : w.cell? ⟨b, 0, none⟩ = some (.string n.s) ∧ w.cell? ⟨b, 1, none⟩ = some (.int .u8 (n.kd : Int)) ∧ w.cell? ⟨b, 2, none⟩ = some (.slice n.ia n.il n.ic) ∧ w.cell? ⟨b, 3, none⟩ = some (.int .u8 (n.op : Int)) ∧ w.cell? ⟨b, 4, none⟩ = some (.int .i64 n.xn) ∧ w.cell? ⟨b, 5, none⟩ = some (.slice n.xa n.xl n.xc) ∧ w.cell? ⟨b, 6, none⟩ = some (.int .i64 n.nn) := by
  refine ⟨?_, ?_, ?_, ?_, ?_, ?_, ?_⟩ <;> (rw [cell_of_row _ _ _ _ _ _ h]; rfl)
theorem NBox.new (w : World) (n : Nv) : NBox (w.alloc (.cells n.cells 29)) w.heap.size n := Go.heap_alloc_new w _
/-- x: the node's expression with a record's key and number. -/
theorem x_any {w : World} {b : Nat} {n : Nv} (h : NBox w b n) {args : List Ex} {B : Nat → Prop} (hl : Lies w B (.slice n.xa n.xl n.xc) args) (hs : (Ex.mk n.op n.xn args).size ≤ 1000000) (r : Rc) (acc : Int) :
    Calls Try.prog 33 #[rcA r, .int .i64 acc, .pointer (some ⟨b, 0, none⟩)] w fun e w' => e = .returned (.int .i64 (intO (Ex.mk n.op n.xn args) ⟨r.2.1, r.2.2, acc⟩)) ∧ Below w.heap.size w w' := by
  have hb0 := below_made w (.cells #[.int .i64 r.1, .int .i64 r.2.1, .int .i64 r.2.2] 32)
  have HI := Lib.hid (exp.int_any ⟨r.2.1, r.2.2, acc⟩ (x := .mk n.op n.xn args) (hl.under hb0) hs)
  obtain ⟨-, -, -, p3, p4, p5, -⟩ := (h.below hb0).facts
  have HB0 := Lib.hid hb0
  obtain ⟨r1, r2, r3⟩ := r
  unfold rcA
  dsimp only at HI HB0 p3 p4 p5 ⊢
  unfold exV enV at HI
  change Hid (Calls Try.prog 34 #[.agg #[.int .u8 (n.op : Int), .int .i64 n.xn, .slice n.xa n.xl n.xc], .agg #[.int .i64 r2, .int .i64 r3, .int .i64 acc]] _ _) at HI
  obtain ⟨z, hz⟩ : ∃ z, intO (Ex.mk n.op n.xn args) ⟨r2, r3, acc⟩ = z := ⟨_, rfl⟩
  rw [hz] at HI ⊢
  have q1 : (w.alloc (.cells #[.int .i64 r1, .int .i64 r2, .int .i64 r3] 32)).cell? ⟨w.heap.size, 1, none⟩ = some (.int .i64 r2) := by rw [cell_of_row _ _ _ _ _ _ (Go.heap_alloc_new w _)]; rfl
  have q2 : (w.alloc (.cells #[.int .i64 r1, .int .i64 r2, .int .i64 r3] 32)).cell? ⟨w.heap.size, 2, none⟩ = some (.int .i64 r3) := by rw [cell_of_row _ _ _ _ _ _ (Go.heap_alloc_new w _)]; rfl
  clear h hl hs hb0 hz
  go_enter Try.func33, Try.ntmps33
  go_wp2_with fail
  (with_reducible refine HI.out.mono ?_)
  rintro e w1 ⟨rfl, hb1⟩
  have HF : Hid (Below w.heap.size w w1) := Lib.hid (HB0.out.trans (hb1.mono HB0.out.size))
  clear hb1
  go_wp2
  go_ret
  exact ⟨rfl, HF.out⟩
end Go.Proofs.Ytamdbfkofdjmlaa.opr
