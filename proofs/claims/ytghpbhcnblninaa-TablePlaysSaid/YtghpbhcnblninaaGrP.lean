/- Plain facts on keys, groups and places: no program in this text. -/
import Derived.RowKit
import Derived.Laws.BitsLemmas
namespace Go.Proofs.Ytghpbhcnblninaa.grp
open Go.RowKit

def fits (n : Int) : Prop := -9223372036854775808 ≤ n ∧ n ≤ 9223372036854775807
/-- A key's group. -/
def gof (k : Int) : Int := k % 8
theorem gof_in (k : Int) : 0 ≤ gof k ∧ gof k < 8 := by unfold gof; omega
theorem rem_in (k : Int) : -8 < k.tmod 8 ∧ k.tmod 8 < 8 ∧ ∃ q : Int, k.tmod 8 = k + 8 * q := by
  have h := Int.tmod_eq_emod (a := k) (b := 8)
  rw [h]
  split
  · exact ⟨by omega, by omega, -(k / 8), by omega⟩
  · rename_i hk
    have h1 : ¬ k % 8 = 0 := fun e => hk (.inr (Int.dvd_of_emod_eq_zero e))
    exact ⟨by simp; omega, by simp; omega, -(k / 8) - 1, by simp; omega⟩
theorem rem_twice (k : Int) : (k.tmod 8 + 8).tmod 8 = gof k := by
  obtain ⟨h1, h2, q, h3⟩ := rem_in k
  rw [Int.tmod_eq_emod_of_nonneg (by omega)]
  unfold gof
  omega
/-- Its part. -/
def pof (k : Int) : Int := gof k / 4
theorem pof_in (k : Int) : 0 ≤ pof k ∧ pof k < 2 := by have := gof_in k; unfold pof; omega
/-- A group's place among par. -/
def plO (g par : Int) : Int := g * par / 8
/-- Whether so many may share. -/
def mayB (par : Int) : Bool := decide (1 ≤ par) && decide (par ≤ 4)
theorem may_four {par : Int} (h : mayB par = true) : par = 1 ∨ par = 2 ∨ par = 3 ∨ par = 4 := by
  simp [mayB] at h; omega
theorem may_no {par : Int} (h : mayB par = false) : par < 1 ∨ (1 ≤ par ∧ 4 < par) := by
  simp [mayB] at h; omega
theorem plO_in {g par : Int} (h0 : 0 ≤ g) (h1 : g < 8) (h : mayB par = true) : 0 ≤ plO g par ∧ plO g par < par := by
  unfold plO
  rcases may_four h with rfl | rfl | rfl | rfl <;> omega
/-- A key's place. -/
def plc (k par : Int) : Int := if mayB par = true then plO (gof k) par else -1
theorem plc_yes {k par : Int} (h : mayB par = true) : plc k par = plO (gof k) par := by unfold plc; rw [if_pos h]
theorem plc_no {k par : Int} (h : mayB par = false) : plc k par = -1 := by unfold plc; rw [h]; rfl
/-- Whether the place has the group. -/
def hasB (z par g : Int) : Bool := mayB par && decide (plO g par = z)
/-- Those of the first n groups that the place has. -/
def ownL (z par : Int) (n : Nat) : List Int := ((List.range n).filter (fun (g : Nat) => hasB z par (g : Int))).map (fun (g : Nat) => (g : Int))
def owns (z par : Int) : List Int := ownL z par 8
theorem ownL_yes {z par : Int} {n : Nat} (h : hasB z par n = true) : ownL z par (n + 1) = ownL z par n ++ [(n : Int)] := by
  unfold ownL
  rw [List.range_succ, List.filter_append, List.map_append]
  simp [h]
theorem ownL_not {z par : Int} {n : Nat} (h : hasB z par n = false) : ownL z par (n + 1) = ownL z par n := by
  unfold ownL
  rw [List.range_succ, List.filter_append, List.map_append]
  simp [h]
theorem ownL_len (z par : Int) (n : Nat) : (ownL z par n).length ≤ n := by
  unfold ownL
  rw [List.length_map]
  exact Nat.le_trans (List.length_filter_le _ _) (by simp)
theorem owns_len (z par : Int) : (owns z par).length ≤ 8 := ownL_len z par 8
theorem mem_owns {z par g : Int} : g ∈ owns z par ↔ (0 ≤ g ∧ g < 8 ∧ hasB z par g = true) := by
  unfold owns ownL
  rw [List.mem_map]
  constructor
  · rintro ⟨n, hn, rfl⟩
    rw [List.mem_filter, List.mem_range] at hn
    exact ⟨by omega, by omega, hn.2⟩
  · rintro ⟨h0, h1, h2⟩
    refine ⟨g.toNat, ?_, by omega⟩
    rw [List.mem_filter, List.mem_range]
    exact ⟨by omega, by rw [Int.toNat_of_nonneg h0]; exact h2⟩
theorem owns_no {z par : Int} (h : mayB par = false) : owns z par = [] := by
  rw [List.eq_nil_iff_forall_not_mem]
  intro g hg
  have := (mem_owns.1 hg).2.2
  simp [hasB, h] at this
theorem owns_out {z par : Int} (h : z < 0 ∨ par ≤ z) : owns z par = [] := by
  rw [List.eq_nil_iff_forall_not_mem]
  intro g hg
  obtain ⟨h0, h1, h2⟩ := mem_owns.1 hg
  simp [hasB] at h2
  have := plO_in h0 h1 h2.1
  omega
theorem owns_key {k par : Int} (h : mayB par = true) : gof k ∈ owns (plc k par) par := by
  rw [mem_owns]
  exact ⟨(gof_in k).1, (gof_in k).2, by simp [hasB, h, plc_yes h]⟩
/-- What the first n places own, one behind the other. -/
def allL (par : Int) (n : Nat) : List Int := (List.range n).flatMap (fun (z : Nat) => owns (z : Int) par)
theorem allL_more (par : Int) (n : Nat) : allL par (n + 1) = allL par n ++ owns n par := by
  unfold allL
  rw [List.range_succ, List.flatMap_append]
  simp
theorem allL_len (par : Int) (n : Nat) : (allL par n).length ≤ 8 * n := by
  induction n with
  | zero => simp [allL]
  | succ n ih => rw [allL_more, List.length_append]; have := owns_len n par; omega
theorem all_eight {par : Int} (h : mayB par = true) {n : Nat} (hn : (n : Int) = par) : allL par n = [0, 1, 2, 3, 4, 5, 6, 7] := by
  rcases may_four h with rfl | rfl | rfl | rfl
  · obtain rfl : n = 1 := by omega
    decide
  · obtain rfl : n = 2 := by omega
    decide
  · obtain rfl : n = 3 := by omega
    decide
  · obtain rfl : n = 4 := by omega
    decide
theorem owns_some {z par : Int} (h : mayB par = true) (h0 : 0 ≤ z) (h1 : z < par) : 0 < (owns z par).length := by
  obtain ⟨n, rfl⟩ : ∃ n : Nat, z = n := ⟨z.toNat, by omega⟩
  rcases may_four h with rfl | rfl | rfl | rfl
  · match n, h1 with
    | 0, _ => decide
    | n + 1, h => exact absurd h (by omega)
  · match n, h1 with
    | 0, _ | 1, _ => decide
    | n + 2, h => exact absurd h (by omega)
  · match n, h1 with
    | 0, _ | 1, _ | 2, _ => decide
    | n + 3, h => exact absurd h (by omega)
  · match n, h1 with
    | 0, _ | 1, _ | 2, _ | 3, _ => decide
    | n + 4, h => exact absurd h (by omega)
/-- A key whose bit of eight is turned. -/
theorem wrap_eight (X : Int) : fits (IntKind.i64.wrap X) ∧ IntKind.i64.wrap X % 8 = X % 8 := by
  rw [IntKind.wrap_i64]
  unfold fits
  omega
theorem xor_eight (k : Int) : fits (bits .xor .i64 k 8) ∧ gof (bits .xor .i64 k 8) = gof k := by
  have h8 : (BitVec.ofInt 64 8).toNat = 8 := by decide
  have key : ((BitVec.ofInt 64 k ^^^ BitVec.ofInt 64 8).toNat) % 2 ^ 3 = (k % ((2 ^ 64 : Nat) : Int)).toNat % 2 ^ 3 := by
    rw [BitVec.toNat_xor, BitVec.toNat_ofInt, h8, Nat.xor_mod_two_pow]
    simp
  have e : bits .xor .i64 k 8 = IntKind.i64.wrap ((BitVec.ofInt 64 k ^^^ BitVec.ofInt 64 8).toNat : Nat) := rfl
  obtain ⟨X, hX⟩ : ∃ X, (BitVec.ofInt 64 k ^^^ BitVec.ofInt 64 8).toNat = X := ⟨_, rfl⟩
  rw [hX] at key e
  obtain ⟨h1, h2⟩ := wrap_eight (X : Int)
  rw [e]
  refine ⟨h1, ?_⟩
  unfold gof
  rw [h2]
  clear e h1 h2 hX h8
  have hp : ((2 ^ 64 : Nat) : Int) = 18446744073709551616 := by decide
  rw [hp] at key
  obtain ⟨Y, hY⟩ : ∃ Y, k % 18446744073709551616 = Y := ⟨_, rfl⟩
  have h3 : Y % 8 = k % 8 := by omega
  have h4 : 0 ≤ Y := by omega
  rw [hY] at key
  clear hY
  omega
end Go.Proofs.Ytghpbhcnblninaa.grp
