/- A row of records that came in, opened. -/
import Derived.Test.YtbnnbaoimidfnaaI
import Derived.Deep.Slices
namespace Go.Proofs.Ytbnnbaoimidfnaa.lg
set_option linter.unusedSimpArgs false
set_option linter.unusedVariables false
open Go.RowKit byt frm dsk

/-- What came in: a kind, a text, whether to sync, how many to cut off. -/
structure Rc where
  k : Nat
  t : ByteArray
  s : Bool
  c : Int
def Rc.fit (r : Rc) : Prop := r.k < 256 ∧ r.t.size ≤ maxLen ∧ fitI r.c
def Rc.cells (r : Rc) : List Value := [.int .u8 (r.k : Nat), .string r.t, .bool r.s, .int .i64 r.c]
def noRc : Rc := ⟨0, ⟨#[]⟩, false, 0⟩
/-- A slice, nil or not, whose records are l, below block B. -/
def Rcs (w : World) (B : Nat) (a : Option Addr) (l : List Rc) : Prop :=
  l ≠ [] → ∃ b o, a = some ⟨b, o, none⟩ ∧ b < B ∧ ∀ j, j < l.length → w.rangeAt b (o + j * 4) (l.getD j noRc).cells
theorem Rcs.below {w w' : World} {B : Nat} {a : Option Addr} {l : List Rc} (h : Rcs w B a l) (hb : Below B w w') : Rcs w' B a l := fun hl => by
  obtain ⟨b, o, e, hlt, hc⟩ := h hl
  refine ⟨b, o, e, hlt, fun j hj k v hk => ?_⟩
  exact (hb.cell (p := ⟨b, o + j * 4 + k, none⟩) hlt).trans (hc j hj k v hk)
def IsRcs (w : World) (a : Option Addr) (len cap : Nat) : Prop :=
  ∃ l : List Rc, len = l.length ∧ l.length ≤ cap ∧ cap ≤ maxLen ∧ Rcs w w.heap.size a l ∧ ∀ p ∈ l, p.fit
theorem wf_fit {n : Int} (h : (Lit.int .i64 n).wf = true) : fitI n := by
  simp [Lit.wf, IntKind.min, IntKind.max, IntKind.signed, IntKind.bits] at h
  exact ⟨by omega, by omega⟩
theorem wf_u8 {n : Int} (h : (Lit.int .u8 n).wf = true) : ∃ k : Nat, n = k ∧ k < 256 := by
  simp [Lit.wf, IntKind.min, IntKind.max, IntKind.signed, IntKind.bits] at h
  exact ⟨n.toNat, by omega, by omega⟩
theorem one_rc {H : Type} {enc : TypeId × Value → H} {w : World} {spare : Nat → Bool} {held : Bool} {n : Nat} {cs : List Value} {x : DataW H × List MemPlace} (h : DataW.trod enc Try.prog w 0 spare held n 38 cs = some x) :
    ∃ p : Rc, cs = p.cells ∧ p.fit := by
  obtain ⟨xs, k, _, _, hl, hxl, hf⟩ := DataW.trod_struct Try.underlying38 h
  have c3 : Try.prog.cellsOf 3 = 1 := by kernel_rfl
  have c4 : Try.prog.cellsOf 4 = 1 := by kernel_rfl
  have c5 : Try.prog.cellsOf 5 = 1 := by kernel_rfl
  have c9 : Try.prog.cellsOf 9 = 1 := by kernel_rfl
  have c38 : Try.prog.cellsOf 38 = 4 := by kernel_rfl
  rw [c38] at hl
  match cs, hl, xs, hxl with
  | [v0, v1, v2, v3], _, [y0, y1, y2, y3], _ =>
    have g0 := hf 0 _ rfl
    have g1 := hf 1 _ rfl
    have g2 := hf 2 _ rfl
    have g3 := hf 3 _ rfl
    simp [c3, c4, c5, c9] at g0 g1 g2 g3
    obtain ⟨a0, e0, _, f0⟩ := DataW.trod_int Try.underlying5 g0
    obtain ⟨s, e1, _, f1⟩ := DataW.trod_string Try.underlying9 g1
    obtain ⟨b, e2, _⟩ := DataW.trod_bool Try.underlying4 g2
    obtain ⟨a3, e3, _, f3⟩ := DataW.trod_int Try.underlying3 g3
    obtain ⟨k, rfl, hk⟩ := wf_u8 f0
    simp at e0 e1 e2 e3
    subst e0 e1 e2 e3
    exact ⟨⟨k, s, b, a3⟩, rfl, hk, f1, wf_fit f3⟩
theorem rcs_in {H : Type} {enc : TypeId × Value → H} {w : World} {spare : Nat → Bool} {held : Bool} {fuel : Nat} {a : Option Addr} {len cap : Nat} {x : DataW H × List MemPlace}
    (h : DataW.trod enc Try.prog w 0 spare held fuel 36 [.slice a len cap] = some x) : IsRcs w a len cap := by
  have c38 : Try.prog.cellsOf 38 = 4 := by kernel_rfl
  rcases Go.Deep.open_slice Try.underlying36 h with ⟨hcs, _⟩ | ⟨y, l, c, m, n, D, Pl, hcs, _, hl, hm, hmm, _, hx⟩
  · simp at hcs
    obtain ⟨rfl, rfl, rfl⟩ := hcs
    exact ⟨[], rfl, Nat.le_refl _, by decide, fun h => absurd rfl h, by simp⟩
  · simp at hcs
    obtain ⟨rfl, rfl, rfl⟩ := hcs
    have hlm : len ≤ m := by rw [hmm]; split <;> omega
    rw [c38] at hx
    have each : ∀ i, i < m → ∃ p : Rc, (∀ j v, p.cells[j]? = some v → w.cell? (y.add (i * 4 + j)) = some v) ∧ p.fit := fun i hi => by
      obtain ⟨cs, h1, h2⟩ := hx i hi
      obtain ⟨p, rfl, hp⟩ := one_rc h2
      obtain ⟨_, _, hcell⟩ := World.cells?_some h1
      refine ⟨p, fun j v hj => ?_, hp⟩
      have hj4 : j < 4 := (List.getElem?_eq_some_iff.1 hj).1
      have := hcell j hj4
      rw [Go.Deep.add_add] at this
      rw [this, hj]
    have pick : ∃ q : Nat → Rc, ∀ i, i < m → (∀ j v, (q i).cells[j]? = some v → w.cell? (y.add (i * 4 + j)) = some v) ∧ (q i).fit := by
      refine ⟨fun i => if hi : i < m then Classical.choose (each i hi) else noRc, fun i hi => ?_⟩
      simp only [hi, dite_true]
      exact Classical.choose_spec (each i hi)
    obtain ⟨q, hq⟩ := pick
    refine ⟨(List.range len).map q, by simp, by simpa using hl, hm, fun hne => ?_, fun p hp => ?_⟩
    · have hlen : 0 < len := by
        rcases Nat.eq_zero_or_pos len with h0 | h0
        · rw [h0] at hne; exact absurd rfl hne
        · exact h0
      obtain ⟨b, off, spot⟩ := y
      have hc0 := (hq 0 (by omega)).1 0 _ rfl
      have hspot : spot = none := by simpa [Addr.add] using World.cell?_spot hc0
      subst hspot
      have hadd : ∀ k, (⟨b, off, none⟩ : Addr).add k = ⟨b, off + k, none⟩ := fun k => by unfold Addr.add; split <;> simp_all
      refine ⟨b, off, rfl, ?_, fun j hj k v hk => ?_⟩
      · have := World.block_lt_of_cell? w _ hc0
        rw [hadd] at this
        exact this
      · rw [List.length_map, List.length_range] at hj
        rw [List.getD_eq_getElem?_getD, List.getElem?_map, List.getElem?_range hj] at hk
        have := (hq j (by omega)).1 k v hk
        rw [hadd] at this
        rw [Nat.add_assoc]
        exact this
    · obtain ⟨i, hi, rfl⟩ := List.mem_map.1 hp
      exact (hq i (by have := List.mem_range.1 hi; omega)).2
theorem info38r : (Try.prog.info? 38).map (·.size) = some 4 := by kernel_rfl
theorem info38 : ∃ i, Try.prog.info? 38 = some i ∧ i.zero = some (.agg #[.int .u8 0, .string ⟨#[]⟩, .bool false, .int .i64 0]) ∧ i.size = 4 ∧ i.bytes = 40 := by
  have h : (Try.prog.info? 38).map (fun i => (i.zero, i.size, i.bytes)) = some (some (.agg #[.int .u8 0, .string ⟨#[]⟩, .bool false, .int .i64 0]), 4, 40) := by kernel_rfl
  cases hi : Try.prog.info? 38 with
  | none => rw [hi] at h; cases h
  | some i => rw [hi] at h; simp only [Option.map_some, Option.some.injEq, Prod.mk.injEq] at h; exact ⟨i, rfl, h.1, h.2.1, h.2.2⟩
end Go.Proofs.Ytbnnbaoimidfnaa.lg
