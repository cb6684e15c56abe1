/- A row of calls that came in, opened. -/
import Derived.Test.YtdajpaigahhhcaaV
import Derived.Deep.Slices
namespace Go.Proofs.Ytdajpaigahhhcaa.dsk
set_option linter.unusedSimpArgs false
set_option linter.unusedVariables false
open Go.RowKit

/-- What the walk is told of the row of calls that came in. -/
def IsOps (w : World) (a : Option Addr) (len cap : Nat) : Prop :=
  ∃ l : List Opn, len = l.length ∧ l.length ≤ cap ∧ cap ≤ maxLen ∧ Ops w w.heap.size a l ∧ ∀ p ∈ l, p.fit
theorem wf_fit {n : Int} (h : (Lit.int .i64 n).wf = true) : fit n := by
  simp [Lit.wf, IntKind.min, IntKind.max, IntKind.signed, IntKind.bits] at h
  exact ⟨by omega, by omega⟩
theorem one_opn {H : Type} {enc : TypeId × Value → H} {w : World} {spare : Nat → Bool} {held : Bool} {n : Nat} {cs : List Value} {x : DataW H × List MemPlace} (h : DataW.trod enc Try.prog w 0 spare held n 41 cs = some x) :
    ∃ p : Opn, cs = p.cells ∧ p.fit := by
  obtain ⟨xs, k, _, _, hl, hxl, hf⟩ := DataW.trod_struct Try.underlying41 h
  have c3 : Try.prog.cellsOf 3 = 1 := by kernel_rfl
  have c9 : Try.prog.cellsOf 9 = 1 := by kernel_rfl
  have c41 : Try.prog.cellsOf 41 = 5 := by kernel_rfl
  rw [c41] at hl
  match cs, hl, xs, hxl with
  | [v0, v1, v2, v3, v4], _, [y0, y1, y2, y3, y4], _ =>
    have g0 := hf 0 _ rfl
    have g1 := hf 1 _ rfl
    have g2 := hf 2 _ rfl
    have g3 := hf 3 _ rfl
    have g4 := hf 4 _ rfl
    simp [c3, c9] at g0 g1 g2 g3 g4
    obtain ⟨a0, e0, _, f0⟩ := DataW.trod_int Try.underlying3 g0
    obtain ⟨a1, e1, _, f1⟩ := DataW.trod_int Try.underlying3 g1
    obtain ⟨a2, e2, _, f2⟩ := DataW.trod_int Try.underlying3 g2
    obtain ⟨a3, e3, _, f3⟩ := DataW.trod_int Try.underlying3 g3
    obtain ⟨s, e4, _, f4⟩ := DataW.trod_string Try.underlying9 g4
    simp at e0 e1 e2 e3 e4
    subst e0 e1 e2 e3 e4
    exact ⟨⟨a0, a1, a2, a3, s⟩, rfl, wf_fit f0, wf_fit f1, wf_fit f2, wf_fit f3, f4⟩
theorem ops_in {H : Type} {enc : TypeId × Value → H} {w : World} {spare : Nat → Bool} {held : Bool} {fuel : Nat} {a : Option Addr} {len cap : Nat} {x : DataW H × List MemPlace}
    (h : DataW.trod enc Try.prog w 0 spare held fuel 35 [.slice a len cap] = some x) : IsOps w a len cap := by
  have c41 : Try.prog.cellsOf 41 = 5 := by kernel_rfl
  rcases Go.Deep.open_slice Try.underlying35 h with ⟨hcs, _⟩ | ⟨y, l, c, m, n, D, Pl, hcs, _, hl, hm, hmm, _, hx⟩
  · simp at hcs
    obtain ⟨rfl, rfl, rfl⟩ := hcs
    exact ⟨[], rfl, Nat.le_refl _, by decide, fun h => absurd rfl h, by simp⟩
  · simp at hcs
    obtain ⟨rfl, rfl, rfl⟩ := hcs
    have hlm : len ≤ m := by rw [hmm]; split <;> omega
    rw [c41] at hx
    have each : ∀ i, i < m → ∃ p : Opn, (∀ j v, p.cells[j]? = some v → w.cell? (y.add (i * 5 + j)) = some v) ∧ p.fit := fun i hi => by
      obtain ⟨cs, h1, h2⟩ := hx i hi
      obtain ⟨p, rfl, hp⟩ := one_opn h2
      obtain ⟨_, _, hcell⟩ := World.cells?_some h1
      refine ⟨p, fun j v hj => ?_, hp⟩
      have hj5 : j < 5 := (List.getElem?_eq_some_iff.1 hj).1
      have := hcell j hj5
      rw [Go.Deep.add_add] at this
      rw [this, hj]
    have pick : ∃ q : Nat → Opn, ∀ i, i < m → (∀ j v, (q i).cells[j]? = some v → w.cell? (y.add (i * 5 + j)) = some v) ∧ (q i).fit := by
      refine ⟨fun i => if hi : i < m then Classical.choose (each i hi) else noOp, fun i hi => ?_⟩
      simp only [hi, dite_true]
      exact Classical.choose_spec (each i hi)
    obtain ⟨q, hq⟩ := pick
    refine ⟨(List.range len).map q, by simp, by simpa using hl, hm, fun hne => ?_, fun p hp => ?_⟩
    · have hlen : 0 < len := by
        rcases Nat.eq_zero_or_pos len with h0 | h0
        · rw [h0] at hne; exact absurd rfl hne
        · exact h0
      obtain ⟨b, off, spot⟩ := y
      have hc0 := (hq 0 (by omega)).1 0 _ rfl
      have hspot : spot = none := by simpa [Addr.add] using World.cell?_spot hc0
      subst hspot
      have hadd : ∀ k, (⟨b, off, none⟩ : Addr).add k = ⟨b, off + k, none⟩ := fun k => by unfold Addr.add; split <;> simp_all
      refine ⟨b, off, rfl, ?_, fun j hj k v hk => ?_⟩
      · have := World.block_lt_of_cell? w _ hc0
        rw [hadd] at this
        exact this
      · rw [List.length_map, List.length_range] at hj
        rw [List.getD_eq_getElem?_getD, List.getElem?_map, List.getElem?_range hj] at hk
        have := (hq j (by omega)).1 k v hk
        rw [hadd] at this
        rw [Nat.add_assoc]
        exact this
    · obtain ⟨i, hi, rfl⟩ := List.mem_map.1 hp
      exact (hq i (by have := List.mem_range.1 hi; omega)).2
end Go.Proofs.Ytdajpaigahhhcaa.dsk
