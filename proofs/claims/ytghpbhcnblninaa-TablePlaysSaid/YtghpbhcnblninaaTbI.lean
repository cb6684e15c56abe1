/- A row of calls that came in, opened. -/
import Derived.Test.YtghpbhcnblninaaTbV
namespace Go.Proofs.Ytghpbhcnblninaa.tbl
set_option linter.unusedSimpArgs false
set_option linter.unusedVariables false
open Go.RowKit
open Go.Proofs.Ytghpbhcnblninaa.grp (fits fits_wf)

/-- What the walk is told of the row of calls that came in. -/
def IsOps (w : World) (a : Option Addr) (len cap : Nat) : Prop :=
  ∃ l : List Opn, len = l.length ∧ l.length ≤ cap ∧ cap ≤ maxLen ∧ Ops w w.heap.size a l
theorem nums_in {H : Type} {enc : TypeId × Value → H} {w : World} {spare : Nat → Bool} {held : Bool} {fuel : Nat} {v : Value} {x : DataW H × List MemPlace}
    (h : DataW.trod enc Try.prog w 0 spare held fuel 30 [v] = some x) : ∃ a cap ns, v = .slice a ns.length cap ∧ ns.length ≤ cap ∧ cap ≤ maxLen ∧ Row w w.heap.size a cap ns ∧ ∀ n ∈ ns, grp.fits n := by
  rcases Go.Deep.open_slice1 Try.underlying30 (by kernel_rfl) h with ⟨hcs, _⟩ | ⟨y, l, c, m, n, V, D, Pl, hcs, _, hl, hm, hmm, _, hx⟩
  · simp at hcs
    subst hcs
    exact ⟨none, 0, [], rfl, Nat.le_refl _, by decide, ⟨fun _ => rfl, fun h => by simp at h⟩, by simp⟩
  · simp at hcs
    subst hcs
    have hlm : l ≤ m := by rw [hmm]; split <;> omega
    have each : ∀ i, i < m → ∃ z : Int, w.cell? (y.add i) = some (.int .i64 z) ∧ grp.fits z := fun i hi => by
      obtain ⟨h1, h2⟩ := hx i hi
      obtain ⟨z, e, _, f⟩ := DataW.trod_int Try.underlying2 h2
      simp at e
      exact ⟨z, by rw [h1, e], grp.fits_wf f⟩
    obtain ⟨q, hq⟩ := Go.Deep.choose_lt (α := Int) (p := fun i z => w.cell? (y.add i) = some (.int .i64 z) ∧ grp.fits z) each
    refine ⟨some y, c, (List.range l).map q, by simp, by simpa using hl, hm, ⟨(fun e => by cases e), fun h0 => ?_⟩, fun n hn => ?_⟩
    · have hlen : 0 < l := by simpa using h0
      obtain ⟨b, off, spot⟩ := y
      have hc0 := (hq 0 (by omega)).1
      have hspot : spot = none := by simpa [Addr.add] using World.cell?_spot hc0
      subst hspot
      have hadd : ∀ k, (⟨b, off, none⟩ : Addr).add k = ⟨b, off + k, none⟩ := fun k => by unfold Addr.add; split <;> simp_all
      refine ⟨b, off, rfl, ?_, fun j hj => ?_⟩
      · have := World.block_lt_of_cell? w _ hc0
        rw [hadd] at this
        exact this
      · rw [List.length_map, List.length_range] at hj
        have := (hq j (by omega)).1
        rw [hadd] at this
        rw [this, List.getElem_map, List.getElem_range]
    · obtain ⟨i, hi, rfl⟩ := List.mem_map.1 hn
      exact (hq i (by have := List.mem_range.1 hi; omega)).2
set_option maxRecDepth 100000 in
theorem one_opn {H : Type} {enc : TypeId × Value → H} {w : World} {spare : Nat → Bool} {held : Bool} {n : Nat} {cs : List Value} {x : DataW H × List MemPlace} (h : DataW.trod enc Try.prog w 0 spare held n 47 cs = some x) :
    ∃ p : Opn, cs = p.cells ∧ Row w w.heap.size p.a p.cap p.ns ∧ p.fit := by
  obtain ⟨xs, k, _, _, hl, hxl, hf⟩ := DataW.trod_struct Try.underlying47 h
  have c3 : Try.prog.cellsOf 3 = 1 := by kernel_rfl
  have c2 : Try.prog.cellsOf 2 = 1 := by kernel_rfl
  have c32 : Try.prog.cellsOf 32 = 2 := by kernel_rfl
  have c30 : Try.prog.cellsOf 30 = 1 := by kernel_rfl
  have c47 : Try.prog.cellsOf 47 = 4 := by kernel_rfl
  rw [c47] at hl
  match cs, hl, xs, hxl with
  | [v0, v1, v2, v3], _, [y0, y1, y2], _ =>
    have g0 := hf 0 _ rfl
    have g1 := hf 1 _ rfl
    have g2 := hf 2 _ rfl
    simp [c3, c2, c32] at g0 g1 g2
    obtain ⟨a0, e0, _, f0⟩ := DataW.trod_int Try.underlying3 g0
    obtain ⟨a1, e1, _, f1⟩ := DataW.trod_int Try.underlying2 g1
    obtain ⟨zs, k2, _, _, hl2, hzl, hf2⟩ := DataW.trod_struct Try.underlying32 g2
    match zs, hzl with
    | [z0, z1], _ =>
      have g3 := hf2 0 _ rfl
      have g4 := hf2 1 _ rfl
      simp [c2, c30] at g3 g4
      obtain ⟨a2, e2, _, f2⟩ := DataW.trod_int Try.underlying2 g3
      obtain ⟨a, cap, ns, e3, _, _, hr, hns⟩ := nums_in g4
      simp at e0 e1 e2 e3
      subst e0 e1 e2 e3
      exact ⟨⟨a0, a1, a2, a, ns, cap⟩, rfl, hr, grp.fits_wf f0, grp.fits_wf f1, grp.fits_wf f2, hns⟩
set_option maxRecDepth 100000 in
theorem ops_in {H : Type} {enc : TypeId × Value → H} {w : World} {spare : Nat → Bool} {held : Bool} {fuel : Nat} {a : Option Addr} {len cap : Nat} {x : DataW H × List MemPlace}
    (h : DataW.trod enc Try.prog w 0 spare held fuel 40 [.slice a len cap] = some x) : IsOps w a len cap := by
  have c47 : Try.prog.cellsOf 47 = 4 := by kernel_rfl
  rcases Go.Deep.open_slice Try.underlying40 h with ⟨hcs, _⟩ | ⟨y, l, c, m, n, D, Pl, hcs, _, hl, hm, hmm, _, hx⟩
  · simp at hcs
    obtain ⟨rfl, rfl, rfl⟩ := hcs
    exact ⟨[], rfl, Nat.le_refl _, by decide, fun h => absurd rfl h, by simp⟩
  · simp at hcs
    obtain ⟨rfl, rfl, rfl⟩ := hcs
    have hlm : len ≤ m := by rw [hmm]; split <;> omega
    rw [c47] at hx
    have each : ∀ i, i < m → ∃ p : Opn, (∀ j v, p.cells[j]? = some v → w.cell? (y.add (i * 4 + j)) = some v) ∧ Row w w.heap.size p.a p.cap p.ns ∧ p.fit := fun i hi => by
      obtain ⟨cs, h1, h2⟩ := hx i hi
      obtain ⟨p, rfl, hp⟩ := one_opn h2
      obtain ⟨_, _, hcell⟩ := World.cells?_some h1
      refine ⟨p, fun j v hj => ?_, hp⟩
      have hj4 : j < 4 := (List.getElem?_eq_some_iff.1 hj).1
      have := hcell j hj4
      rw [Go.Deep.add_add] at this
      rw [this, hj]
    obtain ⟨q, hq⟩ := Go.Deep.choose_lt (α := Opn) (p := fun i p => (∀ j v, p.cells[j]? = some v → w.cell? (y.add (i * 4 + j)) = some v) ∧ Row w w.heap.size p.a p.cap p.ns ∧ p.fit) each
    refine ⟨(List.range len).map q, by simp, by simpa using hl, hm, fun hne => ?_, fun p hp => ?_⟩
    · have hlen : 0 < len := by
        rcases Nat.eq_zero_or_pos len with h0 | h0
        · rw [h0] at hne; exact absurd rfl hne
        · exact h0
      obtain ⟨b, off, spot⟩ := y
      have hc0 := (hq 0 (by omega)).1 0 _ rfl
      have hspot : spot = none := by simpa [Addr.add] using World.cell?_spot hc0
      subst hspot
      have hadd : ∀ k, (⟨b, off, none⟩ : Addr).add k = ⟨b, off + k, none⟩ := fun k => by unfold Addr.add; split <;> simp_all
      refine ⟨b, off, rfl, ?_, fun j hj k v hk => ?_⟩
      · have := World.block_lt_of_cell? w _ hc0
        rw [hadd] at this
        exact this
      · rw [List.length_map, List.length_range] at hj
        rw [List.getD_eq_getElem?_getD, List.getElem?_map, List.getElem?_range hj] at hk
        have := (hq j (by omega)).1 k v hk
        rw [hadd] at this
        rw [Nat.add_assoc]
        exact this
    · obtain ⟨i, hi, rfl⟩ := List.mem_map.1 hp
      exact (hq i (by have := List.mem_range.1 hi; omega)).2
end Go.Proofs.Ytghpbhcnblninaa.tbl
