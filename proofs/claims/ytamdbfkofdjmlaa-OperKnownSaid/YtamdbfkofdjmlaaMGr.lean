/- Plain facts on keys, groups and places: no program in this text. What group.Of, Part, Place and the reference's answer: of every key. What group.Owns, and the reference's, answer: a row of their own of the groups that the place has. Slices of whole numbers: slices.Equal, slices.Index, slices.Contains of them. -/
import Derived.RowKit
import Derived.Laws.BitsLemmas
import Derived.Test.YtamdbfkofdjmlaaRows
import Derived.WalkKit
import Derived.BigQuiet
import Derived.Handy
import Derived.Lib.Hide
import Derived.Deep.LoopGhost
import Derived.Deep.QuietTactic
import Derived.Lib.OthersKept
import Derived.OwnWalk
import Derived.Below
section
namespace Go.Proofs.Ytamdbfkofdjmlaa.grp
open Go.RowKit

def fits (n : Int) : Prop := -9223372036854775808 ≤ n ∧ n ≤ 9223372036854775807
/-- A key's group. -/
def gof (k : Int) : Int := k % 8
theorem gof_in (k : Int) : 0 ≤ gof k ∧ gof k < 8 := by unfold gof; omega
theorem rem_in (k : Int) : -8 < k.tmod 8 ∧ k.tmod 8 < 8 ∧ ∃ q : Int, k.tmod 8 = k + 8 * q := by
  have h := Int.tmod_eq_emod (a := k) (b := 8)
  rw [h]
  split
  · exact ⟨by omega, by omega, -(k / 8), by omega⟩
  · rename_i hk
    have h1 : ¬ k % 8 = 0 := fun e => hk (.inr (Int.dvd_of_emod_eq_zero e))
    exact ⟨by simp; omega, by simp; omega, -(k / 8) - 1, by simp; omega⟩
theorem rem_twice (k : Int) : (k.tmod 8 + 8).tmod 8 = gof k := by
  obtain ⟨h1, h2, q, h3⟩ := rem_in k
  rw [Int.tmod_eq_emod_of_nonneg (by omega)]
  unfold gof
  omega
/-- Its part. -/
def pof (k : Int) : Int := gof k / 4
theorem pof_in (k : Int) : 0 ≤ pof k ∧ pof k < 2 := by have := gof_in k; unfold pof; omega
/-- A group's place among par. -/
def plO (g par : Int) : Int := g * par / 8
/-- Whether so many may share. -/
def mayB (par : Int) : Bool := decide (1 ≤ par) && decide (par ≤ 4)
theorem may_four {par : Int} (h : mayB par = true) : par = 1 ∨ par = 2 ∨ par = 3 ∨ par = 4 := by
  simp [mayB] at h; omega
theorem may_no {par : Int} (h : mayB par = false) : par < 1 ∨ (1 ≤ par ∧ 4 < par) := by
  simp [mayB] at h; omega
theorem plO_in {g par : Int} (h0 : 0 ≤ g) (h1 : g < 8) (h : mayB par = true) : 0 ≤ plO g par ∧ plO g par < par := by
  unfold plO
  rcases may_four h with rfl | rfl | rfl | rfl <;> omega
/-- A key's place. -/
def plc (k par : Int) : Int := if mayB par = true then plO (gof k) par else -1
theorem plc_yes {k par : Int} (h : mayB par = true) : plc k par = plO (gof k) par := by unfold plc; rw [if_pos h]
theorem plc_no {k par : Int} (h : mayB par = false) : plc k par = -1 := by unfold plc; rw [h]; rfl
/-- Whether the place has the group. -/
def hasB (z par g : Int) : Bool := mayB par && decide (plO g par = z)
/-- Those of the first n groups that the place has. -/
def ownL (z par : Int) (n : Nat) : List Int := ((List.range n).filter (fun (g : Nat) => hasB z par (g : Int))).map (fun (g : Nat) => (g : Int))
def owns (z par : Int) : List Int := ownL z par 8
theorem ownL_yes {z par : Int} {n : Nat} (h : hasB z par n = true) : ownL z par (n + 1) = ownL z par n ++ [(n : Int)] := by
  unfold ownL
  rw [List.range_succ, List.filter_append, List.map_append]
  simp [h]
theorem ownL_not {z par : Int} {n : Nat} (h : hasB z par n = false) : ownL z par (n + 1) = ownL z par n := by
  unfold ownL
  rw [List.range_succ, List.filter_append, List.map_append]
  simp [h]
theorem ownL_len (z par : Int) (n : Nat) : (ownL z par n).length ≤ n := by
  unfold ownL
  rw [List.length_map]
  exact Nat.le_trans (List.length_filter_le _ _) (by simp)
theorem owns_len (z par : Int) : (owns z par).length ≤ 8 := ownL_len z par 8
theorem mem_owns {z par g : Int} : g ∈ owns z par ↔ (0 ≤ g ∧ g < 8 ∧ hasB z par g = true) := by
  unfold owns ownL
  rw [List.mem_map]
  constructor
  · rintro ⟨n, hn, rfl⟩
    rw [List.mem_filter, List.mem_range] at hn
    exact ⟨by omega, by omega, hn.2⟩
  · rintro ⟨h0, h1, h2⟩
    refine ⟨g.toNat, ?_, by omega⟩
    rw [List.mem_filter, List.mem_range]
    exact ⟨by omega, by rw [Int.toNat_of_nonneg h0]; exact h2⟩
theorem owns_no {z par : Int} (h : mayB par = false) : owns z par = [] := by
  rw [List.eq_nil_iff_forall_not_mem]
  intro g hg
  have := (mem_owns.1 hg).2.2
  simp [hasB, h] at this
theorem owns_out {z par : Int} (h : z < 0 ∨ par ≤ z) : owns z par = [] := by
  rw [List.eq_nil_iff_forall_not_mem]
  intro g hg
  obtain ⟨h0, h1, h2⟩ := mem_owns.1 hg
  simp [hasB] at h2
  have := plO_in h0 h1 h2.1
  omega
theorem owns_key {k par : Int} (h : mayB par = true) : gof k ∈ owns (plc k par) par := by
  rw [mem_owns]
  exact ⟨(gof_in k).1, (gof_in k).2, by simp [hasB, h, plc_yes h]⟩
/-- What the first n places own, one behind the other. -/
def allL (par : Int) (n : Nat) : List Int := (List.range n).flatMap (fun (z : Nat) => owns (z : Int) par)
theorem allL_more (par : Int) (n : Nat) : allL par (n + 1) = allL par n ++ owns n par := by
  unfold allL
  rw [List.range_succ, List.flatMap_append]
  simp
theorem allL_len (par : Int) (n : Nat) : (allL par n).length ≤ 8 * n := by
  induction n with
  | zero => simp [allL]
  | succ n ih => rw [allL_more, List.length_append]; have := owns_len n par; omega
theorem all_eight {par : Int} (h : mayB par = true) {n : Nat} (hn : (n : Int) = par) : allL par n = [0, 1, 2, 3, 4, 5, 6, 7] := by
  rcases may_four h with rfl | rfl | rfl | rfl
  · obtain rfl : n = 1 := by omega
    decide
  · obtain rfl : n = 2 := by omega
    decide
  · obtain rfl : n = 3 := by omega
    decide
  · obtain rfl : n = 4 := by omega
    decide
theorem owns_some {z par : Int} (h : mayB par = true) (h0 : 0 ≤ z) (h1 : z < par) : 0 < (owns z par).length := by
  obtain ⟨n, rfl⟩ : ∃ n : Nat, z = n := ⟨z.toNat, by omega⟩
  rcases may_four h with rfl | rfl | rfl | rfl
  · match n, h1 with
    | 0, _ => decide
    | n + 1, h => exact absurd h (by omega)
  · match n, h1 with
    | 0, _ | 1, _ => decide
    | n + 2, h => exact absurd h (by omega)
  · match n, h1 with
    | 0, _ | 1, _ | 2, _ => decide
    | n + 3, h => exact absurd h (by omega)
  · match n, h1 with
    | 0, _ | 1, _ | 2, _ | 3, _ => decide
    | n + 4, h => exact absurd h (by omega)
/-- A key whose bit of eight is turned. -/
theorem wrap_eight (X : Int) : fits (IntKind.i64.wrap X) ∧ IntKind.i64.wrap X % 8 = X % 8 := by
  rw [IntKind.wrap_i64]
  unfold fits
  omega
theorem xor_eight (k : Int) : fits (bits .xor .i64 k 8) ∧ gof (bits .xor .i64 k 8) = gof k := by
  have h8 : (BitVec.ofInt 64 8).toNat = 8 := by decide
  have key : ((BitVec.ofInt 64 k ^^^ BitVec.ofInt 64 8).toNat) % 2 ^ 3 = (k % ((2 ^ 64 : Nat) : Int)).toNat % 2 ^ 3 := by
    rw [BitVec.toNat_xor, BitVec.toNat_ofInt, h8, Nat.xor_mod_two_pow]
    simp
  have e : bits .xor .i64 k 8 = IntKind.i64.wrap ((BitVec.ofInt 64 k ^^^ BitVec.ofInt 64 8).toNat : Nat) := rfl
  obtain ⟨X, hX⟩ : ∃ X, (BitVec.ofInt 64 k ^^^ BitVec.ofInt 64 8).toNat = X := ⟨_, rfl⟩
  rw [hX] at key e
  obtain ⟨h1, h2⟩ := wrap_eight (X : Int)
  rw [e]
  refine ⟨h1, ?_⟩
  unfold gof
  rw [h2]
  clear e h1 h2 hX h8
  have hp : ((2 ^ 64 : Nat) : Int) = 18446744073709551616 := by decide
  rw [hp] at key
  obtain ⟨Y, hY⟩ : ∃ Y, k % 18446744073709551616 = Y := ⟨_, rfl⟩
  have h3 : Y % 8 = k % 8 := by omega
  have h4 : 0 ≤ Y := by omega
  rw [hY] at key
  clear hY
  omega
end Go.Proofs.Ytamdbfkofdjmlaa.grp
end
section
namespace Go.Proofs.Ytamdbfkofdjmlaa.grp
set_option linter.unusedSimpArgs false
set_option linter.unusedVariables false
open Go.RowKit

theorem fits_wf {n : Int} (h : (Lit.int .i64 n).wf = true) : fits n := by
  simp [Lit.wf, IntKind.min, IntKind.max, IntKind.signed, IntKind.bits] at h
  exact ⟨by omega, by omega⟩
theorem ret_int {k : IntKind} {a b : Int} (h : a = b) : Ending.returned (.int k a) = .returned (.int k b) := by rw [h]
theorem of_any (k : Int) (w : World) (hk : fits k) : Calls Try.prog 46 #[.int .i64 k] w fun e w' => e = .returned (.int .i64 (gof k)) ∧ w' = w := by
  obtain ⟨h1, h2⟩ := hk
  have HT : Hid ((k.tmod 8 + 8) % 8 = gof k) := Lib.hid (by rw [← rem_twice, Int.tmod_eq_emod_of_nonneg (a := k.tmod 8 + 8) (by have := rem_in k; omega)])
  obtain ⟨r1, r2, -⟩ := rem_in k
  obtain ⟨r, hr⟩ : ∃ r, k.tmod 8 = r := ⟨_, rfl⟩
  rw [hr] at HT r1 r2
  go_enter Try.func46, Try.ntmps46
  go_wp2_with fail
  go_ret
  exact ⟨ret_int HT.out, rfl⟩
theorem ret_bool {a b : Bool} (h : a = b) : Ending.returned (.bool a) = .returned (.bool b) := by rw [h]
theorem rof_any (k : Int) (w : World) (hk : fits k) : Calls Try.prog 51 #[.int .i64 k] w fun e w' => e = .returned (.int .i64 (gof k)) ∧ w' = w := by
  obtain ⟨h1, h2⟩ := hk
  have HT : Hid ((k.tmod 8 + 8) % 8 = gof k) := Lib.hid (by rw [← rem_twice, Int.tmod_eq_emod_of_nonneg (a := k.tmod 8 + 8) (by have := rem_in k; omega)])
  obtain ⟨r1, r2, -⟩ := rem_in k
  obtain ⟨r, hr⟩ : ∃ r, k.tmod 8 = r := ⟨_, rfl⟩
  rw [hr] at HT r1 r2
  go_enter Try.func51, Try.ntmps51
  go_wp2_with fail
  go_ret
  exact ⟨ret_int HT.out, rfl⟩
end Go.Proofs.Ytamdbfkofdjmlaa.grp
end
section
namespace Go.Proofs.Ytamdbfkofdjmlaa.grp
set_option linter.unusedSimpArgs false
set_option linter.unusedVariables false
open Go.RowKit

def intV (n : Int) : Value := .int .i64 n
theorem infoI : (Try.prog.info? 3).map (fun i => (i.zero, i.size, i.bytes)) = some (some (.int .i64 0), 1, 8) := by kernel_rfl
theorem cell_one_new (w : World) (x : Value) (t : TypeId) : ∀ j u, [x][j]? = some u → (w.alloc (.cells #[x] t)).cell? ((⟨w.heap.size, 0, none⟩ : Addr).add j) = some u := by
  intro j u hj
  match j, hj with
  | 0, hj => simp at hj; subst hj; simp [Addr.add]
  | (j + 1), hj => simp at hj
theorem own_below {W W' : World} {B e size n : Nat} {v : Value} {xs : List Value} (h : W.ownsRow B e size v n xs) (hb : Below W.heap.size W W') : W'.ownsRow B e size v n xs :=
  h.kept (row := none) ⟨hb.os, hb.tape, hb.output, hb.size, fun k hk _ => hb.block k hk⟩ (by cases hv : v.ownBlock <;> simp)
theorem own_cases {w : World} {B e n : Nat} {v : Value} {xs : List Value} (h : w.ownsRow B e 1 v n xs) :
    (v = .slice none 0 0 ∧ n = 0) ∨ ∃ g cap, v = .slice (some ⟨g, 0, none⟩) n cap ∧ n ≤ cap ∧ cap ≤ maxLen ∧ B ≤ g ∧ g < w.heap.size ∧ ∀ j u, xs[j]? = some u → w.cell? ⟨g, j, none⟩ = some u := by
  rcases h.2 with h0 | ⟨g, cap, cur, rfl, hb, hg, h1, h2, h3, h4⟩
  · exact .inl h0
  · refine .inr ⟨g, cap, rfl, h1, h2, hb, (Array.getElem?_eq_some_iff.1 hg).1, fun j u hj => ?_⟩
    have := h.cells (g := g) rfl j u hj
    have hadd : (⟨g, 0, none⟩ : Addr).add j = ⟨g, j, none⟩ := by unfold Addr.add; split <;> simp_all
    rwa [hadd] at this
theorem below_on' {w w' w'' : World} (h : Below w.heap.size w w') (k : Below w'.heap.size w' w'') : Below w.heap.size w w'' := h.trans (k.mono h.size)
theorem below_made (w : World) (o : Obj) : Below w.heap.size w (w.alloc o) := (Below.refl _ _).alloc (Nat.le_refl _) _
theorem below_drewN (w : World) (q : Nat) : Below w.heap.size w (w.drewN q) := ⟨rfl, rfl, rfl, Nat.le_refl _, fun _ _ => rfl⟩

/-- What is had behind the first groups. -/
def OwnRel (z par : Int) (w wr : World) (v5 : Value) (k : Nat) : Prop := wr.ownsRow w.heap.size 3 1 v5 (ownL z par k).length ((ownL z par k).map intV) ∧ Below w.heap.size w wr
def OwnPost (z par : Int) (w : World) (e : Ending) (w' : World) : Prop := ∃ v, e = .returned v ∧ w'.ownsRow w.heap.size 3 1 v (owns z par).length ((owns z par).map intV) ∧ Below w.heap.size w w'
theorem own_more {z par : Int} {w wr w2 : World} {k : Nat} {v4 : Value} {o : Obj} {r : Option Nat} (h : hasB z par k = true) (hb : Below w.heap.size w wr) (hr : ∀ j, r = some j → w.heap.size ≤ j)
    (k4 : w2.ownsRow w.heap.size 3 1 v4 ((ownL z par k).length + 1) ((ownL z par k).map intV ++ [.int .i64 (k : Int)])) (g4 : (wr.alloc o).grownBy w2 r) : OwnRel z par w w2 v4 (k + 1) := by
  refine ⟨?_, (hb.alloc hb.size _).grown g4 (by rw [World.size_alloc]; have := hb.size; omega) hr⟩
  rw [ownL_yes h]
  simpa [intV] using k4
theorem own_same {z par : Int} {w wr : World} {k : Nat} {v5 : Value} (h : hasB z par k = false) (hr : OwnRel z par w wr v5 k) : OwnRel z par w wr v5 (k + 1) := by
  unfold OwnRel; rw [ownL_not h]; exact hr

end Go.Proofs.Ytamdbfkofdjmlaa.grp
end
section
namespace Go.Proofs.Ytamdbfkofdjmlaa.grp
set_option linter.unusedSimpArgs false
set_option linter.unusedVariables false
open Go.RowKit

/-- A slice of whole numbers. -/
def IRow (w : World) (v : Value) (l : List Int) : Prop :=
  ∃ a c, v = .slice a l.length c ∧ (0 < l.length → ∃ b o, a = some ⟨b, o, none⟩ ∧ b < w.heap.size ∧ ∀ i (h : i < l.length), w.cell? ⟨b, o + i, none⟩ = some (.int .i64 l[i]))
theorem IRow.on {w w' : World} {v : Value} {l : List Int} (h : IRow w v l) (hb : Below w.heap.size w w') : IRow w' v l := by
  obtain ⟨a, c, h1, h2⟩ := h
  refine ⟨a, c, h1, fun hl => ?_⟩
  obtain ⟨b, o, h3, h4, h5⟩ := h2 hl
  exact ⟨b, o, h3, by have := hb.size; omega, fun i hi => (hb.cell (p := ⟨b, o + i, none⟩) h4).trans (h5 i hi)⟩
theorem own_irow {w : World} {B n : Nat} {v : Value} {l : List Int} (h : w.ownsRow B 3 1 v n (l.map intV)) : IRow w v l := by
  have hn : n = l.length := by have := h.1; simpa using this.symm
  subst hn
  rcases own_cases h with ⟨rfl, h0⟩ | ⟨g, cap, rfl, _, _, _, hlt, hc⟩
  · exact ⟨none, 0, by rw [h0], fun h1 => by omega⟩
  · exact ⟨_, cap, rfl, fun _ => ⟨g, 0, rfl, hlt, fun i hi => by rw [Nat.zero_add]; exact hc i _ (by simp [hi, intV])⟩⟩
/-- A row that was just made of these numbers. -/
theorem irow_new (w : World) (l : List Int) (n c : Nat) (hn : l.length = n) (t : TypeId) : IRow (w.alloc (.cells (l.map intV).toArray t)) (.slice (some ⟨w.heap.size, 0, none⟩) n c) l := by
  subst hn
  refine ⟨_, c, rfl, fun _ => ⟨_, 0, rfl, by simp, fun i hi => ?_⟩⟩
  have hh : (w.alloc (.cells (l.map intV).toArray t)).heap[w.heap.size]? = some (.cells (l.map intV).toArray t (0, 0)) := heap_alloc_new w _
  rw [cell_of_row _ w.heap.size (0 + i) _ _ _ hh]
  simp [hi, intV]

def EqPost (xs ys : List Int) (w : World) (e : Ending) (w' : World) : Prop := e = .returned (.bool (decide (xs = ys))) ∧ Below w.heap.size w w'
theorem eq_yes {xs ys : List Int} {w w' : World} (h : xs = ys) (hb : Below w.heap.size w w') : EqPost xs ys w (.returned (.bool true)) w' := ⟨by rw [decide_eq_true h], hb⟩
theorem eq_no {xs ys : List Int} {w w' : World} (h : xs ≠ ys) (hb : Below w.heap.size w w') : EqPost xs ys w (.returned (.bool false)) w' := ⟨by rw [decide_eq_false h], hb⟩
def Pre (xs ys : List Int) (k : Nat) : Prop := xs.take k = ys.take k
theorem pre_more {xs ys : List Int} {k : Nat} (h : Pre xs ys k) (hk : k < xs.length) (hk2 : k < ys.length) (he : xs[k] = ys[k]) : Pre xs ys (k + 1) := by
  unfold Pre at h ⊢
  rw [List.take_succ_eq_append_getElem hk, List.take_succ_eq_append_getElem hk2, h, he]
end Go.Proofs.Ytamdbfkofdjmlaa.grp
end
