/- What came in, opened: rows of records, messages, rows of calls; how long they may be. -/
import Derived.Test.YtknldabnkaecdaaPiN
import Derived.Deep.Slices
import Derived.Deep.MidRow
import Derived.ChangeArms
namespace Go.Proofs.Ytknldabnkaecdaa.pip
set_option linter.unusedSimpArgs false
set_option linter.unusedVariables false
open Go.RowKit
open Go.Proofs.Ytknldabnkaecdaa.byt (fits intV txt flat)
/-- A call: what it is, its message, where its records lie. -/
structure Opn where
  kind : Int
  m : Ms
  a : Option Addr
  cap : Nat
def Opn.cells (o : Opn) : List Value := [.int .i64 o.kind, .int .i64 o.m.1, .int .i64 o.m.2.1, .slice o.a o.m.2.2.length o.cap]
def noOp : Opn := ⟨7, zeroM, none, 0⟩
instance : Inhabited Opn := ⟨noOp⟩
def Opn.Here (w : World) (o : Opn) : Prop := Sr w (.slice o.a o.m.2.2.length o.cap) o.m.2.2
/-- A slice, nil or not, whose calls are l. -/
def Ops (w : World) (a : Option Addr) (l : List Opn) : Prop :=
  (l ≠ [] → ∃ b o, a = some ⟨b, o, none⟩ ∧ b < w.heap.size ∧ ∀ j, j < l.length → w.rangeAt b (o + j * 4) (l.getD j noOp).cells) ∧ ∀ p ∈ l, p.Here w
theorem Ops.below {w w' : World} {a : Option Addr} {l : List Opn} (h : Ops w a l) (hb : Below w.heap.size w w') : Ops w' a l := ⟨fun hl => by
  obtain ⟨b, o, e, hlt, hc⟩ := h.1 hl
  refine ⟨b, o, e, Nat.lt_of_lt_of_le hlt hb.size, fun j hj k v hk => ?_⟩
  exact (hb.cell (p := ⟨b, o + j * 4 + k, none⟩) hlt).trans (hc j hj k v hk), fun p hp => Sr.below (h.2 p hp) hb⟩
theorem op_at {l : List Opn} {k : Nat} (h : k < l.length) : l.getD k noOp = l[k] := by rw [List.getD_eq_getElem?_getD, List.getElem?_eq_getElem h]; rfl
theorem Ops.at {w : World} {a : Option Addr} {l : List Opn} (h : Ops w a l) {k : Nat} (hk : k < l.length) :
    ∃ b o q, a = some ⟨b, o, none⟩ ∧ l[k]? = some q ∧ q.Here w ∧ w.cell? ⟨b, o + k * 4, none⟩ = some (.int .i64 q.kind) ∧ w.cell? ⟨b, o + k * 4 + 1, none⟩ = some (.int .i64 q.m.1) ∧ w.cell? ⟨b, o + k * 4 + 2, none⟩ = some (.int .i64 q.m.2.1) ∧ w.cell? ⟨b, o + k * 4 + 3, none⟩ = some (.slice q.a q.m.2.2.length q.cap) := by
  obtain ⟨b, o, e, hlt, hc⟩ := h.1 (by intro e; rw [e] at hk; simp at hk)
  have hc := hc k hk
  rw [op_at hk] at hc
  exact ⟨b, o, l[k], e, List.getElem?_eq_getElem hk, h.2 _ (List.getElem_mem hk), hc 0 _ rfl, hc 1 _ rfl, hc 2 _ rfl, hc 3 _ rfl⟩
def Slim (l : List Opn) : Prop := ∀ p ∈ l, p.m.2.2.length * 24 ≤ 140737488355328

section
variable {H : Type} {enc : TypeId × Value → H} {w : World} {spare : Nat → Bool} {held : Bool}
theorem c3 : Try.prog.cellsOf 3 = 1 := by kernel_rfl
theorem c2 : Try.prog.cellsOf 2 = 1 := by kernel_rfl
theorem c26 : Try.prog.cellsOf 26 = 3 := by kernel_rfl
theorem c27 : Try.prog.cellsOf 27 = 1 := by kernel_rfl
theorem c29 : Try.prog.cellsOf 29 = 3 := by kernel_rfl
theorem c44 : Try.prog.cellsOf 44 = 4 := by kernel_rfl
theorem fits_wf {a : Int} (h : (Lit.int .i64 a).wf = true) : fits a := by
  simp [Lit.wf, IntKind.min, IntKind.max, IntKind.signed, IntKind.bits] at h
  unfold fits
  omega
set_option maxRecDepth 100000 in
theorem one_rec {n : Nat} {cs : List Value} {x : DataW H × List MemPlace} (h : DataW.trod enc Try.prog w 0 spare held n 26 cs = some x) : ∃ r : Rc, cs = rcC r ∧ fits r.1 ∧ fits r.2.1 ∧ fits r.2.2 := by
  obtain ⟨xs, k, _, _, hl, hxl, hf⟩ := DataW.trod_struct Try.underlying26 h
  rw [c26] at hl
  match cs, hl, xs, hxl with
  | [v0, v1, v2], _, [y0, y1, y2], _ =>
    have g0 := hf 0 _ rfl
    have g1 := hf 1 _ rfl
    have g2 := hf 2 _ rfl
    simp [c2] at g0 g1 g2
    obtain ⟨a0, e0, _, f0⟩ := DataW.trod_int Try.underlying2 g0
    obtain ⟨a1, e1, _, f1⟩ := DataW.trod_int Try.underlying2 g1
    obtain ⟨a2, e2, _, f2⟩ := DataW.trod_int Try.underlying2 g2
    simp at e0 e1 e2
    subst e0 e1 e2
    exact ⟨(a0, a1, a2), rfl, fits_wf f0, fits_wf f1, fits_wf f2⟩
theorem spot_none {y : Addr} {v : Value} (h : w.cell? (y.add 0) = some v) : ∃ g o, y = ⟨g, o, none⟩ ∧ g < w.heap.size := by
  obtain ⟨b, off, spot⟩ := y
  have hspot : spot = none := by simpa [Addr.add] using World.cell?_spot h
  subst hspot
  refine ⟨b, off, rfl, ?_⟩
  have := World.block_lt_of_cell? w _ h
  have hadd : ∀ k, (⟨b, off, none⟩ : Addr).add k = ⟨b, off + k, none⟩ := fun k => by unfold Addr.add; split <;> simp_all
  rw [hadd] at this
  exact this
theorem add_plain (b off k : Nat) : (⟨b, off, none⟩ : Addr).add k = ⟨b, off + k, none⟩ := by unfold Addr.add; split <;> simp_all
/-- What the reading of a row of records tells of its length. -/
def LenD (d : DataW H) (l : List Rc) : Prop := (d = .nil ∧ l = []) ∨ ∃ el sp, d = .slice el sp ∧ el.length = l.length
set_option maxRecDepth 100000 in
theorem sr_in {fuel : Nat} {v : Value} {x : DataW H × List MemPlace} (h : DataW.trod enc Try.prog w 0 spare held fuel 27 [v] = some x) : ∃ l : List Rc, Sr w v l ∧ (∀ r ∈ l, fits r.1 ∧ fits r.2.1 ∧ fits r.2.2) ∧ LenD x.1 l := by
  rcases Go.Deep.open_slice Try.underlying27 h with ⟨hcs, hx0⟩ | ⟨y, len, c, m, n, D, Pl, hcs, _, hl, hm, hmm, hx0, hx⟩
  · simp at hcs
    subst hcs
    exact ⟨[], Sr.nil w, by simp, .inl ⟨by rw [hx0], rfl⟩⟩
  · simp at hcs
    subst hcs
    have hlm : len ≤ m := by rw [hmm]; split <;> omega
    rw [c26] at hx
    have each : ∀ i, i < m → ∃ r : Rc, (∀ j v, (rcC r)[j]? = some v → w.cell? (y.add (i * 3 + j)) = some v) ∧ fits r.1 ∧ fits r.2.1 ∧ fits r.2.2 := fun i hi => by
      obtain ⟨cs, h1, h2⟩ := hx i hi
      obtain ⟨r, rfl, hr⟩ := one_rec h2
      obtain ⟨_, _, hcell⟩ := World.cells?_some h1
      refine ⟨r, fun j v hj => ?_, hr⟩
      have hj3 : j < 3 := (List.getElem?_eq_some_iff.1 hj).1
      have := hcell j hj3
      rw [Go.Deep.add_add] at this
      rw [this, hj]
    obtain ⟨q, hq⟩ := Go.Deep.choose_lt (α := Rc) (p := fun i r => (∀ j v, (rcC r)[j]? = some v → w.cell? (y.add (i * 3 + j)) = some v) ∧ fits r.1 ∧ fits r.2.1 ∧ fits r.2.2) each
    refine ⟨(List.range len).map q, ⟨some y, c, by simp, (fun e => by cases e), by simpa using hl, hm, fun h0 => ?_⟩, fun r hr => ?_, .inr ⟨_, _, by rw [hx0], by simp⟩⟩
    · have hlen : 0 < len := by simpa using h0
      obtain ⟨g, o, rfl, hg⟩ := spot_none ((hq 0 (by omega)).1 0 _ rfl)
      refine ⟨g, o, rfl, hg, fun j u hu => ?_⟩
      have hj : j < ((List.range len).map q).length * 3 := by rw [← cellsR_len]; exact (List.getElem?_eq_some_iff.1 hu).1
      rw [List.length_map, List.length_range] at hj
      have hk : j / 3 < len := by omega
      rw [show j = j / 3 * 3 + j % 3 by omega, cellsR_get (by simpa using hk) (by omega)] at hu
      have := (hq (j / 3) (by omega)).1 (j % 3) u (by simpa using hu)
      rw [add_plain] at this
      rw [show o + j = o + (j / 3 * 3 + j % 3) by omega]
      exact this
    · obtain ⟨i, hi, rfl⟩ := List.mem_map.1 hr
      exact (hq i (by have := List.mem_range.1 hi; omega)).2
set_option maxRecDepth 100000 in
theorem msg_in {fuel : Nat} {cs : List Value} {x : DataW H × List MemPlace} (h : DataW.trod enc Try.prog w 0 spare held fuel 29 cs = some x) :
    ∃ (m : Ms) (a : Option Addr) (k : Nat), cs = [.int .i64 m.1, .int .i64 m.2.1, .slice a m.2.2.length k] ∧ Sr w (.slice a m.2.2.length k) m.2.2 ∧ fitM m ∧ ∃ d0 d1 d2, x.1 = .agg [d0, d1, d2] ∧ LenD d2 m.2.2 := by
  obtain ⟨xs, k, _, hxx, hl, hxl, hf⟩ := DataW.trod_struct Try.underlying29 h
  rw [c29] at hl
  match cs, hl, xs, hxl with
  | [v0, v1, v2], _, [y0, y1, y2], _ =>
    have g0 := hf 0 _ rfl
    have g1 := hf 1 _ rfl
    have g2 := hf 2 _ rfl
    simp [c2, c27] at g0 g1 g2
    obtain ⟨a0, e0, _, f0⟩ := DataW.trod_int Try.underlying2 g0
    obtain ⟨a1, e1, _, f1⟩ := DataW.trod_int Try.underlying2 g1
    obtain ⟨l, hs, hfl, hd⟩ := sr_in g2
    simp at e0 e1
    subst e0 e1
    obtain ⟨a, c, rfl⟩ := hs.len
    exact ⟨(a0, a1, l), a, c, rfl, hs, ⟨fits_wf f0, fits_wf f1, hfl⟩, _, _, _, by rw [hxx]; rfl, hd⟩
/-- What the reading of a row of calls tells of their lengths. -/
def OpsD (d : DataW H) (l : List Opn) : Prop := (d = .nil ∧ l = []) ∨ ∃ el sp, d = .slice el sp ∧ ∀ p ∈ l, ∃ d0 d1 d2 d3, DataW.agg [d0, .agg [d1, d2, d3]] ∈ el ∧ LenD d3 p.m.2.2
set_option maxRecDepth 100000 in
theorem opn_in {fuel : Nat} {cs : List Value} {x : DataW H × List MemPlace} (h : DataW.trod enc Try.prog w 0 spare held fuel 44 cs = some x) :
    ∃ p : Opn, cs = p.cells ∧ p.Here w ∧ ∃ d0 d1 d2 d3, x.1 = .agg [d0, .agg [d1, d2, d3]] ∧ LenD d3 p.m.2.2 := by
  obtain ⟨xs, k, _, hxx, hl, hxl, hf⟩ := DataW.trod_struct Try.underlying44 h
  rw [c44] at hl
  match cs, hl, xs, hxl with
  | [v0, v1, v2, v3], _, [y0, y1], _ =>
    have g0 := hf 0 _ rfl
    have g1 := hf 1 _ rfl
    simp [c3, c29] at g0 g1
    obtain ⟨a0, e0, _, f0⟩ := DataW.trod_int Try.underlying3 g0
    obtain ⟨m, a, c, e1, hs, _, d1, d2, d3, e2, hd⟩ := msg_in g1
    simp at e0 e1
    obtain ⟨rfl, rfl, rfl⟩ := e1
    subst e0
    exact ⟨⟨a0, m, a, c⟩, rfl, hs, y0.1, d1, d2, d3, by rw [hxx]; simp [e2], hd⟩
set_option maxRecDepth 100000 in
theorem ops_in {fuel : Nat} {a : Option Addr} {len cap : Nat} {x : DataW H × List MemPlace} (h : DataW.trod enc Try.prog w 0 spare held fuel 39 [.slice a len cap] = some x) :
    ∃ l : List Opn, len = l.length ∧ l.length ≤ cap ∧ cap ≤ maxLen ∧ Ops w a l ∧ OpsD x.1 l := by
  rcases Go.Deep.open_slice Try.underlying39 h with ⟨hcs, hx0⟩ | ⟨y, l, c, m, n, D, Pl, hcs, _, hl, hm, hmm, hx0, hx⟩
  · simp at hcs
    obtain ⟨rfl, rfl, rfl⟩ := hcs
    exact ⟨[], rfl, Nat.le_refl _, by decide, ⟨fun h => absurd rfl h, by simp⟩, .inl ⟨by rw [hx0], rfl⟩⟩
  · simp at hcs
    obtain ⟨rfl, rfl, rfl⟩ := hcs
    have hlm : len ≤ m := by rw [hmm]; split <;> omega
    rw [c44] at hx
    have each : ∀ i, i < m → ∃ p : Opn, (∀ j v, p.cells[j]? = some v → w.cell? (y.add (i * 4 + j)) = some v) ∧ p.Here w ∧ ∃ d0 d1 d2 d3, D i = .agg [d0, .agg [d1, d2, d3]] ∧ LenD d3 p.m.2.2 := fun i hi => by
      obtain ⟨cs, h1, h2⟩ := hx i hi
      obtain ⟨p, rfl, hp, hd⟩ := opn_in h2
      obtain ⟨_, _, hcell⟩ := World.cells?_some h1
      refine ⟨p, fun j v hj => ?_, hp, hd⟩
      have hj4 : j < 4 := (List.getElem?_eq_some_iff.1 hj).1
      have := hcell j hj4
      rw [Go.Deep.add_add] at this
      rw [this, hj]
    obtain ⟨q, hq⟩ := Go.Deep.choose_lt (α := Opn) (p := fun i p => (∀ j v, p.cells[j]? = some v → w.cell? (y.add (i * 4 + j)) = some v) ∧ p.Here w ∧ ∃ d0 d1 d2 d3, D i = .agg [d0, .agg [d1, d2, d3]] ∧ LenD d3 p.m.2.2) each
    refine ⟨(List.range len).map q, by simp, by simpa using hl, hm, ⟨fun hne => ?_, fun p hp => ?_⟩, .inr ⟨_, _, by rw [hx0], fun p hp => ?_⟩⟩
    · have hlen : 0 < len := by
        rcases Nat.eq_zero_or_pos len with h0 | h0
        · rw [h0] at hne; exact absurd rfl hne
        · exact h0
      obtain ⟨b, o, rfl, hb⟩ := spot_none ((hq 0 (by omega)).1 0 _ rfl)
      refine ⟨b, o, rfl, hb, fun j hj k v hk => ?_⟩
      rw [List.length_map, List.length_range] at hj
      rw [List.getD_eq_getElem?_getD, List.getElem?_map, List.getElem?_range hj] at hk
      have := (hq j (by omega)).1 k v hk
      rw [add_plain] at this
      rw [Nat.add_assoc]
      exact this
    · obtain ⟨i, hi, rfl⟩ := List.mem_map.1 hp
      exact (hq i (by have := List.mem_range.1 hi; omega)).2.1
    · obtain ⟨i, hi, rfl⟩ := List.mem_map.1 hp
      obtain ⟨d0, d1, d2, d3, e, hd⟩ := (hq i (by have := List.mem_range.1 hi; omega)).2.2
      exact ⟨d0, d1, d2, d3, e ▸ List.mem_map.2 ⟨i, hi, rfl⟩, hd⟩
theorem bytes26 : Try.prog.bytesOf 26 = 24 := by kernel_rfl
theorem weights_all {P : Program} {e : TypeId} {d : DataW H} : ∀ {l : List (DataW H)}, d ∈ l → ∀ x ∈ d.weights P e, x ∈ DataW.weightsAll P e l
  | y :: l, h, x, hx => by
    unfold DataW.weightsAll
    rcases List.mem_cons.1 h with rfl | h
    · exact List.mem_append_left _ hx
    · exact List.mem_append_right _ (weights_all h x hx)
theorem len_weight {d : DataW H} {l : List Rc} (h : LenD d l) : l = [] ∨ ∃ n, l.length ≤ n ∧ n * 24 ∈ d.weights Try.prog 27 := by
  rcases h with ⟨_, rfl⟩ | ⟨el, sp, rfl, hl⟩
  · exact .inl rfl
  · refine .inr ⟨el.length + sp.length, by omega, ?_⟩
    unfold DataW.weights
    rw [Try.underlying27]
    simp only
    rw [bytes26]
    exact List.mem_cons_self ..
theorem msg_weight {d0 d1 d2 : DataW H} : ∀ x ∈ d2.weights Try.prog 27, x ∈ (DataW.agg [d0, d1, d2]).weights Try.prog 29 := fun x hx => by
  rw [DataW.weights, Try.underlying29]
  simp only [List.map_cons, List.map_nil, DataW.weightsEach]
  exact List.mem_append_right _ (List.mem_append_right _ (List.mem_append_left _ hx))
theorem opn_weight {d0 d1 : DataW H} : ∀ x ∈ d1.weights Try.prog 29, x ∈ (DataW.agg [d0, d1]).weights Try.prog 44 := fun x hx => by
  rw [DataW.weights, Try.underlying44]
  simp only [List.map_cons, List.map_nil, DataW.weightsEach]
  exact List.mem_append_right _ (List.mem_append_left _ hx)
theorem slim_of {d : DataW H} {l : List Opn} (h : OpsD d l) (hw : ∀ x ∈ d.weights Try.prog 39, x ≤ reachBytes) : Slim l := fun p hp => by
  rcases h with ⟨_, rfl⟩ | ⟨el, sp, rfl, he⟩
  · simp at hp
  · obtain ⟨d0, d1, d2, d3, hm, hd⟩ := he p hp
    rcases len_weight hd with h0 | ⟨n, hn, hx⟩
    · rw [h0]; simp
    · have h1 : n * 24 ∈ (DataW.slice el sp).weights Try.prog 39 := by
        rw [DataW.weights, Try.underlying39]
        exact List.mem_cons_of_mem _ (List.mem_append_left _ (weights_all hm _ (opn_weight _ (msg_weight _ hx))))
      have := hw _ h1
      unfold reachBytes at this
      omega
end
end Go.Proofs.Ytknldabnkaecdaa.pip
