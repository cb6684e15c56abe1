/- Records, messages and pipes in memory. -/
import Derived.Test.YtknldabnkaecdaaByF
import Derived.Test.YtknldabnkaecdaaPiC
import Derived.Laws.OwnMore
import Derived.Deep.DrawnRows
namespace Go.Proofs.Ytknldabnkaecdaa.pip
set_option linter.unusedSimpArgs false
set_option linter.unusedVariables false
open Go.RowKit
open Go.Conc (heap_setChan size_setChan)
open Go.Proofs.Ytknldabnkaecdaa.byt (fits)

/-- A record: its place, its key, its number. -/
abbrev Rc := Int × Int × Int
theorem lt_of_get {w : World} {g : Nat} {o : Obj} (h : w.heap[g]? = some o) : g < w.heap.size := (Array.getElem?_eq_some_iff.1 h).1
/-- Of what was there nothing has turned but these blocks. -/
structure Only (F : Nat → Prop) (w w' : World) : Prop where
  os : w'.os = w.os
  tape : w'.tape = w.tape
  output : w'.output = w.output
  size : w.heap.size ≤ w'.heap.size
  block : ∀ k, k < w.heap.size → ¬ F k → w'.heap[k]? = w.heap[k]?
theorem Only.refl (F : Nat → Prop) (w : World) : Only F w w := ⟨rfl, rfl, rfl, Nat.le_refl _, fun _ _ _ => rfl⟩
theorem Only.mono {F G : Nat → Prop} {w w' : World} (h : Only F w w') (hF : ∀ k, F k → G k) : Only G w w' := ⟨h.os, h.tape, h.output, h.size, fun k hk hn => h.block k hk fun hf => hn (hF k hf)⟩
/-- Then others, of which those that were there at first may turn. -/
theorem Only.trans {F G : Nat → Prop} {a b c : World} (h : Only F a b) (k : Only G b c) (hG : ∀ k, G k → k < a.heap.size → F k) : Only F a c :=
  ⟨k.os.trans h.os, k.tape.trans h.tape, k.output.trans h.output, Nat.le_trans h.size k.size, fun i hi hn => (k.block i (Nat.lt_of_lt_of_le hi h.size) fun hg => hn (hG i hg hi)).trans (h.block i hi hn)⟩
theorem Only.then {F : Nat → Prop} {a b c : World} (h : Only F a b) (k : Only F b c) : Only F a c := h.trans k fun _ h _ => h
theorem Only.of_below {F : Nat → Prop} {w w' : World} (h : Below w.heap.size w w') : Only F w w' := ⟨h.os, h.tape, h.output, h.size, fun k hk _ => h.block k hk⟩
theorem Only.on {F : Nat → Prop} {a b c : World} (h : Only F a b) (k : Below b.heap.size b c) : Only F a c := h.then (.of_below k)
theorem Only.below {F : Nat → Prop} {w w' : World} {B : Nat} (h : Only F w w') (hB : B ≤ w.heap.size) (hF : ∀ k, F k → B ≤ k) : Below B w w' :=
  ⟨h.os, h.tape, h.output, h.size, fun k hk => h.block k (by omega) fun hf => by have := hF k hf; omega⟩
theorem Only.fresh {F : Nat → Prop} {w w' : World} (h : Only F w w') (hF : ∀ k, F k → w.heap.size ≤ k) : Below w.heap.size w w' := h.below (Nat.le_refl _) hF
theorem Only.setCell (w : World) (b o : Nat) (v : Value) : Only (· = b) w (w.setCell ⟨b, o, none⟩ v) :=
  ⟨rfl, rfl, rfl, by simp [World.setCell], fun k _ hk => Below.heap_setCell _ _ _ _ hk⟩
theorem Only.alloc (F : Nat → Prop) (w : World) (o : Obj) : Only F w (w.alloc o) := ⟨rfl, rfl, rfl, by simp, fun k hk _ => Below.heap_alloc w o k hk⟩
theorem Only.of_grown {F : Nat → Prop} {w w' : World} {row : Option Nat} (h : w.grownBy w' row) (hF : ∀ k, row = some k → F k) : Only F w w' :=
  ⟨h.os, h.tape, h.output, h.size, fun k hk hn => h.block k hk fun e => hn (hF k e.symm)⟩

def rcC (r : Rc) : List Value := [.int .i64 r.1, .int .i64 r.2.1, .int .i64 r.2.2]
def cellsR (l : List Rc) : List Value := l.flatMap rcC
theorem cellsR_nil : cellsR [] = [] := rfl
theorem cellsR_cons (r : Rc) (rs : List Rc) : cellsR (r :: rs) = rcC r ++ cellsR rs := rfl
theorem cellsR_append (rs qs : List Rc) : cellsR (rs ++ qs) = cellsR rs ++ cellsR qs := by simp [cellsR]
theorem cellsR_len (rs : List Rc) : (cellsR rs).length = rs.length * 3 := by
  induction rs with
  | nil => rfl
  | cons r rs ih => rw [cellsR_cons, List.length_append, ih]; simp [rcC]; omega
theorem cellsR_get {rs : List Rc} {k j : Nat} (hk : k < rs.length) (hj : j < 3) : (cellsR rs)[k * 3 + j]? = (rcC rs[k])[j]? := by
  induction rs generalizing k with
  | nil => simp at hk
  | cons r rs ih =>
    rw [cellsR_cons]
    cases k with
    | zero => rw [List.getElem?_append_left (by simp [rcC]; omega)]; simp
    | succ k =>
      rw [List.getElem?_append_right (by simp [rcC]; omega)]
      have h3 : (rcC r).length = 3 := rfl
      rw [h3, show (k + 1) * 3 + j - 3 = k * 3 + j by omega, ih (by simpa using hk)]
      rfl
theorem cellsR_one (rs : List Rc) : ∀ u ∈ cellsR rs, u.oneCell' = true := by
  intro u hu
  obtain ⟨r, -, hu⟩ := List.mem_flatMap.1 hu
  simp [rcC] at hu
  rcases hu with rfl | rfl | rfl <;> rfl
theorem cellsR_take (rs : List Rc) (k : Nat) : cellsR (rs.take k) = (cellsR rs).take (k * 3) := by
  induction rs generalizing k with
  | nil => simp [cellsR_nil]
  | cons r rs ih =>
    cases k with
    | zero => simp [cellsR_nil]
    | succ k =>
      have h3 : (rcC r).length = 3 := rfl
      rw [List.take_succ_cons, cellsR_cons, cellsR_cons, ih, List.take_append, h3, List.take_of_length_le (l := rcC r) (by rw [h3]; omega), show (k + 1) * 3 - 3 = k * 3 by omega]
theorem cellsR_drop (rs : List Rc) (k : Nat) : cellsR (rs.drop k) = (cellsR rs).drop (k * 3) := by
  induction rs generalizing k with
  | nil => simp [cellsR_nil]
  | cons r rs ih =>
    cases k with
    | zero => simp
    | succ k =>
      have h3 : (rcC r).length = 3 := rfl
      rw [List.drop_succ_cons, cellsR_cons, ih, List.drop_append, h3, List.drop_of_length_le (l := rcC r) (by rw [h3]; omega), show (k + 1) * 3 - 3 = k * 3 by omega, List.nil_append]
/-- Two rows of the same cells. -/
theorem cellsR_inj {a b : List Rc} (h : cellsR a = cellsR b) : a = b := by
  induction a generalizing b with
  | nil =>
    cases b with
    | nil => rfl
    | cons s b => cases h
  | cons r a ih =>
    cases b with
    | nil => cases h
    | cons s b =>
      obtain ⟨r1, r2, r3⟩ := r
      obtain ⟨s1, s2, s3⟩ := s
      simp only [cellsR_cons, rcC, List.cons_append, List.nil_append, List.cons.injEq, Value.int.injEq, true_and] at h
      obtain ⟨rfl, rfl, rfl, h⟩ := h
      rw [ih h]
/-- A slice that reads records. -/
def Sr (w : World) (v : Value) (rs : List Rc) : Prop :=
  ∃ a c, v = .slice a rs.length c ∧ (a = none → c = 0) ∧ rs.length ≤ c ∧ c ≤ maxLen ∧
    (0 < rs.length → ∃ g o, a = some ⟨g, o, none⟩ ∧ g < w.heap.size ∧ ∀ j u, (cellsR rs)[j]? = some u → w.cell? ⟨g, o + j, none⟩ = some u)
/-- What was there stays. -/
def RowsR (w w' : World) : Prop := w.heap.size ≤ w'.heap.size ∧ ∀ (g : Nat), g < w.heap.size → w'.heap[g]? = w.heap[g]?
theorem RowsR.of_below {w w' : World} (h : Below w.heap.size w w') : RowsR w w' := ⟨h.size, fun g hg => h.block g hg⟩
theorem Sr.keep {w w' : World} {v : Value} {rs : List Rc} (h : Sr w v rs) (hr : RowsR w w') : Sr w' v rs := by
  obtain ⟨a, c, h1, h2, h3, h4, h5⟩ := h
  refine ⟨a, c, h1, h2, h3, h4, fun hl => ?_⟩
  obtain ⟨g, o, e1, e2, e3⟩ := h5 hl
  refine ⟨g, o, e1, Nat.lt_of_lt_of_le e2 hr.1, fun j u hu => ?_⟩
  rw [World.cell?_of_block (w := w) (a := ⟨g, o + j, none⟩) (hr.2 g e2)]
  exact e3 j u hu
theorem Sr.below {w w' : World} {v : Value} {rs : List Rc} (h : Sr w v rs) (hb : Below w.heap.size w w') : Sr w' v rs := h.keep (.of_below hb)
theorem Sr.only {F : Nat → Prop} {w w' : World} {v : Value} {rs : List Rc} (h : Sr w v rs) (ho : Only F w w') (hF : ∀ a n c, v = .slice (some a) n c → ¬ F a.block) : Sr w' v rs := by
  obtain ⟨a, c, h1, h2, h3, h4, h5⟩ := h
  refine ⟨a, c, h1, h2, h3, h4, fun hl => ?_⟩
  obtain ⟨g, o, e1, e2, e3⟩ := h5 hl
  have hg : w'.heap[g]? = w.heap[g]? := ho.block g e2 (by have := hF ⟨g, o, none⟩ rs.length c (by rw [h1, e1]); exact this)
  refine ⟨g, o, e1, Nat.lt_of_lt_of_le e2 ho.size, fun j u hu => ?_⟩
  rw [World.cell?_of_block (w := w) (a := ⟨g, o + j, none⟩) hg]
  exact e3 j u hu
theorem Sr.nil (w : World) : Sr w (.slice none 0 0) [] := ⟨none, 0, rfl, fun _ => rfl, Nat.le_refl _, by decide, fun h => by simp at h⟩
theorem Sr.len {w : World} {v : Value} {rs : List Rc} (h : Sr w v rs) : ∃ a c, v = .slice a rs.length c := by
  obtain ⟨a, c, h1, _⟩ := h; exact ⟨a, c, h1⟩
theorem Sr.at {w : World} {v : Value} {rs : List Rc} (h : Sr w v rs) {k : Nat} {r : Rc} (hk : rs[k]? = some r) :
    ∃ g o c, v = .slice (some ⟨g, o, none⟩) rs.length c ∧ g < w.heap.size ∧ w.cell? ⟨g, o + k * 3, none⟩ = some (.int .i64 r.1) ∧ w.cell? ⟨g, o + k * 3 + 1, none⟩ = some (.int .i64 r.2.1) ∧ w.cell? ⟨g, o + k * 3 + 2, none⟩ = some (.int .i64 r.2.2) := by
  obtain ⟨hk', rfl⟩ := List.getElem?_eq_some_iff.1 hk
  obtain ⟨a, c, h1, h2, h3, h4, h5⟩ := h
  obtain ⟨g, o, rfl, e2, e3⟩ := h5 (by omega)
  refine ⟨g, o, c, h1, e2, ?_, ?_, ?_⟩
  · exact e3 (k * 3) _ (by rw [show k * 3 = k * 3 + 0 by omega, cellsR_get hk' (by omega)]; rfl)
  · have := e3 (k * 3 + 1) _ (by rw [cellsR_get hk' (by omega)]; rfl)
    rwa [← Nat.add_assoc] at this
  · have := e3 (k * 3 + 2) _ (by rw [cellsR_get hk' (by omega)]; rfl)
    rwa [← Nat.add_assoc] at this
theorem Sr.own {w : World} {B n : Nat} {v : Value} {rs : List Rc} (h : w.ownsRow B 26 3 v n (cellsR rs)) : n = rs.length ∧ Sr w v rs := by
  have hn : n = rs.length := by have := h.1; rw [cellsR_len] at this; omega
  subst hn
  refine ⟨rfl, ?_⟩
  rcases h.2 with ⟨rfl, h0⟩ | ⟨g, cap, cur, rfl, hBg, hb, h1, h2, h3, h4⟩
  · exact ⟨none, 0, by rw [h0], fun _ => rfl, by omega, by decide, fun h1 => by omega⟩
  · refine ⟨_, cap, rfl, (fun e => by cases e), by omega, by omega, fun _ => ⟨g, 0, rfl, lt_of_get hb, fun j u hu => ?_⟩⟩
    have hj : j < rs.length * 3 := by rw [← cellsR_len]; exact (List.getElem?_eq_some_iff.1 hu).1
    have h5 : (cur.toList.take (rs.length * 3))[j]? = (cellsR rs)[j]? := by rw [h4]
    rw [List.getElem?_take_of_lt (by omega)] at h5
    rw [cell_of_row w g (0 + j) _ _ _ hb, Nat.zero_add, ← Array.getElem?_toList, h5, hu]
theorem infoR : (Try.prog.info? 26).map (fun i => (i.zero.map (·.cells.size), i.size, i.bytes)) = some (some 3, 3, 24) := by kernel_rfl
theorem srR_new (W : World) (x : Rc) : Sr (W.alloc (.cells #[.int .i64 x.1, .int .i64 x.2.1, .int .i64 x.2.2] 26)) (.slice (some ⟨W.heap.size, 0, none⟩) 1 1) [x] := by
  refine ⟨_, 1, rfl, (fun e => by cases e), Nat.le_refl _, by decide, fun _ => ⟨W.heap.size, 0, rfl, by simp, fun j u hu => ?_⟩⟩
  rw [cell_of_row _ _ _ _ _ _ (Go.heap_alloc_new W _), Nat.zero_add]
  simp only [cellsR, List.flatMap_cons, List.flatMap_nil, List.append_nil, rcC] at hu
  simpa using hu

theorem below_made (w : World) (o : Obj) : Below w.heap.size w (w.alloc o) := (Below.refl _ _).alloc (Nat.le_refl _) _
theorem below_on' {w w' w'' : World} (h : Below w.heap.size w w') (k : Below w'.heap.size w' w'') : Below w.heap.size w w'' := h.trans (k.mono h.size)
theorem below_drewN (w : World) (q : Nat) : Below w.heap.size w (w.drewN q) := ⟨rfl, rfl, rfl, Nat.le_refl _, fun _ _ => rfl⟩
/-- append of records to a slice that is nil: a row of one's own. -/
theorem appN_run {W : World} {u : Value} {qs : List Rc} (h : Sr W u qs) (hl : qs.length * 24 ≤ 140737488355328) (ty : TypeId) :
    ∃ a c w', (Builtin.append_ #[27, 27] ty #[.slice none 0 0, u]).run Try.prog W = .ok (.slice a qs.length c) w' ∧ w'.ownsRow W.heap.size 26 3 (.slice a qs.length c) qs.length (cellsR qs) ∧ Sr w' (.slice a qs.length c) qs ∧ Below W.heap.size W w' := by
  have key : ∃ v' w', (Builtin.append_ #[27, 27] ty #[.slice none 0 0, u]).run Try.prog W = .ok v' w' ∧ w'.ownsRow W.heap.size 26 3 v' qs.length (cellsR qs) ∧ Below W.heap.size W w' := by
    obtain ⟨i0, hi, hz0, hz1, hz2⟩ : ∃ i0, Try.prog.info? 26 = some i0 ∧ (∃ z, i0.zero = some z ∧ z.cells.size = 3) ∧ i0.size = 3 ∧ i0.bytes = 24 := by
      have := infoR
      cases hi : Try.prog.info? 26 with
      | none => rw [hi] at this; cases this
      | some i0 =>
        rw [hi] at this
        simp only [Option.map_some, Option.some.injEq, Prod.mk.injEq, Option.map_eq_some_iff] at this
        exact ⟨i0, rfl, this.1, this.2.1, this.2.2⟩
    obtain ⟨z, hz, hz3⟩ := hz0
    obtain ⟨a, c, rfl, h1, h2, h3, h4⟩ := h
    have ho : W.ownsRow W.heap.size 26 3 (.slice none 0 0) 0 [] := World.ownsRow_nil _ _ _ _
    cases a with
    | none =>
      obtain rfl := h1 rfl
      have h0 : qs = [] := by
        cases qs with
        | nil => rfl
        | cons q qs => simp at h2
      subst h0
      exact ⟨_, W, run_append_owned_none W W.heap.size 27 ty 26 i0 3 Try.underlying27 hi _ 0 _ ho, ho, Below.refl _ _⟩
    | some ad =>
      obtain ⟨v', w', e1, e2, e3, _⟩ := run_append_own (P := Try.prog) W W.heap.size 27 ty 26 i0 z 3 24 Try.underlying27 hi hz hz1 hz2 hz3 (by decide) _ 0 [] ho ad qs.length c (cellsR qs) (cellsR_len qs)
        (fun j u hu => by
          have hj : 0 < qs.length := by
            cases qs with
            | nil => simp [cellsR_nil] at hu
            | cons => simp
          obtain ⟨g, o, h5, h6, h7⟩ := h4 hj
          obtain rfl := Option.some.inj h5
          have hadd : (⟨g, o, none⟩ : Addr).add j = ⟨g, o + j, none⟩ := by unfold Addr.add; split <;> simp_all
          rw [hadd]
          exact h7 j u hu) (cellsR_one qs) (by unfold maxLen; omega) (by omega) (Nat.le_refl _)
      rw [List.nil_append, Nat.zero_add] at e2
      exact ⟨v', w', e1, e2, (Below.refl _ _).grown e3 (Nat.le_refl _) (by simp [Value.ownBlock])⟩
  obtain ⟨v', w', e1, e2, e3⟩ := key
  have hs := (Sr.own e2).2
  obtain ⟨a, c, rfl⟩ := hs.len
  exact ⟨a, c, w', e1, e2, hs, e3⟩

/-- A message: its number, its bar, its records. -/
abbrev Ms := Int × Int × List Rc
def zeroM : Ms := (0, 0, [])
def MV (w : World) (v : Value) (m : Ms) : Prop := ∃ u, v = .agg #[.int .i64 m.1, .int .i64 m.2.1, u] ∧ Sr w u m.2.2
def zeroV : Value := .agg #[.int .i64 0, .int .i64 0, .slice none 0 0]
theorem MV.zero (w : World) : MV w zeroV zeroM := ⟨_, rfl, Sr.nil w⟩
theorem MV.below {w w' : World} {v : Value} {m : Ms} (h : MV w v m) (hb : Below w.heap.size w w') : MV w' v m := by
  obtain ⟨u, h1, h2⟩ := h; exact ⟨u, h1, h2.below hb⟩
theorem MV.parts {w : World} {v : Value} {m : Ms} (h : MV w v m) : ∃ a c, v = .agg #[.int .i64 m.1, .int .i64 m.2.1, .slice a m.2.2.length c] ∧ Sr w (.slice a m.2.2.length c) m.2.2 := by
  obtain ⟨u, h1, h2⟩ := h
  obtain ⟨a, c, rfl⟩ := h2.len
  exact ⟨a, c, h1, h2⟩
/-- A channel's block holds no cells. -/
theorem chan_cell {w : World} {c cap s r : Nat} {buf : Array Value} {cl tm : Bool} (h : w.heap[c]? = some (.chan cap buf cl s r tm)) (o : Nat) : w.cell? ⟨c, o, none⟩ = none := by
  simp [World.cell?, h]
theorem Sr.chan {w w' : World} {v : Value} {rs : List Rc} (h : Sr w v rs) {c cap s r : Nat} {buf : Array Value} {cl tm : Bool} (hc : w.heap[c]? = some (.chan cap buf cl s r tm)) (ho : Only (· = c) w w') : Sr w' v rs := by
  obtain ⟨a, k, h1, h2, h3, h4, h5⟩ := h
  refine ⟨a, k, h1, h2, h3, h4, fun hl => ?_⟩
  obtain ⟨g, o, e1, e2, e3⟩ := h5 hl
  have hne : g ≠ c := by
    rintro rfl
    have := e3 0 (.int .i64 (rs[0]'hl).1) (by have := cellsR_get (rs := rs) (k := 0) (j := 0) hl (by omega); simpa [rcC] using this)
    rw [chan_cell hc] at this
    cases this
  refine ⟨g, o, e1, Nat.lt_of_lt_of_le e2 ho.size, fun j u hu => ?_⟩
  rw [World.cell?_of_block (w := w) (a := ⟨g, o + j, none⟩) (ho.block g e2 hne)]
  exact e3 j u hu
theorem MV.chan {w w' : World} {v : Value} {m : Ms} (h : MV w v m) {c cap s r : Nat} {buf : Array Value} {cl tm : Bool} (hc : w.heap[c]? = some (.chan cap buf cl s r tm)) (ho : Only (· = c) w w') : MV w' v m := by
  obtain ⟨u, h1, h2⟩ := h; exact ⟨u, h1, h2.chan hc ho⟩
theorem Only.setChan (w : World) (c cap : Nat) (buf : Array Value) (cl : Bool) (s r : Nat) (tm : Bool) : Only (· = c) w (w.setChan c cap buf cl s r tm) :=
  ⟨rfl, rfl, rfl, by rw [size_setChan]; exact Nat.le_refl _, fun k _ hk => by simp only [World.setChan]; rw [Array.getElem?_setIfInBounds_ne (fun e => hk e.symm)]⟩

/-- The channel's block. -/
def ChanAt (w : World) (c room : Nat) (L : List Value) : Prop := ∃ s r, w.heap[c]? = some (.chan room L.toArray false s r false)
/-- A pipe at p, its channel at c, with room, and its messages as they lie in the channel. -/
structure IsPipe (w : World) (p c room : Nat) (L : List Value) : Prop where
  obj : w.heap[p]? = some (.cells #[.chan (some c)] 58 (0, 0))
  way : ChanAt w c room L
  len : L.length ≤ room
theorem IsPipe.ne {w : World} {p c room : Nat} {L : List Value} (h : IsPipe w p c room L) : p ≠ c := by
  rintro rfl
  obtain ⟨s, r, hc⟩ := h.way
  rw [h.obj] at hc; cases hc
theorem IsPipe.lt {w : World} {p c room : Nat} {L : List Value} (h : IsPipe w p c room L) : p < w.heap.size ∧ c < w.heap.size := by
  obtain ⟨s, r, hc⟩ := h.way
  exact ⟨lt_of_get h.obj, lt_of_get hc⟩
theorem IsPipe.keep {w w' : World} {p c room : Nat} {L : List Value} (h : IsPipe w p c room L) (hp : w'.heap[p]? = w.heap[p]?) (hc : w'.heap[c]? = w.heap[c]?) : IsPipe w' p c room L := by
  obtain ⟨s, r, h1⟩ := h.way
  exact ⟨hp.trans h.obj, ⟨s, r, hc.trans h1⟩, h.len⟩
theorem IsPipe.below {w w' : World} {p c room : Nat} {L : List Value} (h : IsPipe w p c room L) (hb : Below w.heap.size w w') : IsPipe w' p c room L :=
  h.keep (hb.block p h.lt.1) (hb.block c h.lt.2)
theorem IsPipe.cell {w : World} {p c room : Nat} {L : List Value} (h : IsPipe w p c room L) : w.cell? ⟨p, 0, none⟩ = some (.chan (some c)) := by
  rw [cell_of_row w p 0 _ _ _ h.obj]; rfl
/-- The channel's block is turned. -/
theorem IsPipe.turn {w : World} {p c room : Nat} {L : List Value} (h : IsPipe w p c room L) {L' : List Value} (hl : L'.length ≤ room) (s r : Nat) : IsPipe (w.setChan c room L'.toArray false s r false) p c room L' :=
  ⟨by rw [(Only.setChan w c room L'.toArray false s r false).block p h.lt.1 h.ne]; exact h.obj, ⟨s, r, heap_setChan _ _ _ _ _ _ _ _ h.lt.2⟩, hl⟩
/-- The messages that lie there. -/
def Msgs (w : World) : List Value → List Ms → Prop
  | [], [] => True
  | v :: L, m :: ms => MV w v m ∧ Msgs w L ms
  | _, _ => False
theorem Msgs.mono {w w' : World} (hk : ∀ v m, MV w v m → MV w' v m) : ∀ {L : List Value} {ms : List Ms}, Msgs w L ms → Msgs w' L ms
  | [], [], _ => trivial
  | _ :: _, _ :: _, h => ⟨hk _ _ h.1, h.2.mono hk⟩
  | [], _ :: _, h => h.elim
  | _ :: _, [], h => h.elim
theorem Msgs.below {w w' : World} {L : List Value} {ms : List Ms} (h : Msgs w L ms) (hb : Below w.heap.size w w') : Msgs w' L ms := h.mono fun _ _ h => h.below hb
theorem Msgs.chan {w w' : World} {L : List Value} {ms : List Ms} (h : Msgs w L ms) {c room : Nat} {L' : List Value} (hc : ChanAt w c room L') (ho : Only (· = c) w w') : Msgs w' L ms := by
  obtain ⟨s, r, hc⟩ := hc
  exact h.mono fun _ _ h => h.chan hc ho
theorem Msgs.len {w : World} : ∀ {L : List Value} {ms : List Ms}, Msgs w L ms → L.length = ms.length
  | [], [], _ => rfl
  | _ :: _, _ :: _, h => by simp [h.2.len]
  | [], _ :: _, h => h.elim
  | _ :: _, [], h => h.elim
theorem Msgs.snoc {w : World} {v : Value} {m : Ms} (hv : MV w v m) : ∀ {L : List Value} {ms : List Ms}, Msgs w L ms → Msgs w (L ++ [v]) (ms ++ [m])
  | [], [], _ => ⟨hv, trivial⟩
  | _ :: _, _ :: _, h => ⟨h.1, h.2.snoc hv⟩
  | [], _ :: _, h => h.elim
  | _ :: _, [], h => h.elim
theorem Msgs.cons {w : World} {v : Value} {L : List Value} {ms : List Ms} (h : Msgs w (v :: L) ms) : ∃ m ms', ms = m :: ms' ∧ MV w v m ∧ Msgs w L ms' := by
  cases ms with
  | nil => exact h.elim
  | cons m ms => exact ⟨m, ms, rfl, h.1, h.2⟩
theorem Msgs.nil {w : World} {ms : List Ms} (h : Msgs w [] ms) : ms = [] := by
  cases ms with
  | nil => rfl
  | cons m ms => exact h.elim
end Go.Proofs.Ytknldabnkaecdaa.pip
