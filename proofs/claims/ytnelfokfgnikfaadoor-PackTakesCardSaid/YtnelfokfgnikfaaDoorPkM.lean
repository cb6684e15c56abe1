/- The reader in memory; what its closures answer, and what they leave in it. -/
import Derived.Test.YtnelfokfgnikfaaDoorPkP
import Derived.Test.YtnelfokfgnikfaaDoorMJd
import Derived.Test.YtnelfokfgnikfaaDoorLgW
namespace Go.Proofs.YtnelfokfgnikfaaDoor.pk
set_option linter.unusedSimpArgs false
set_option linter.unusedVariables false
open Go.RowKit nam exp jb

theorem setCell_heap {W : World} {b j : Nat} {z : Value} {cur : Array Value} {t : TypeId} {fr : Nat × Nat} (h : W.heap[b]? = some (.cells cur t fr)) : (W.setCell ⟨b, j, none⟩ z).heap[b]? = some (.cells (cur.setIfInBounds j z) t fr) := by
  unfold World.setCell
  simp only [Array.getElem?_modify, h, if_true, Option.map_some]
  rfl
/-- The reader's boxes: the text's, the place's, the error's, the number closure's; what is made behind it lies from block M on. -/
structure Lay where
  s : Nat
  a : Nat
  f : Nat
  n : Nat
  M : Nat
abbrev ptr (b : Nat) : Value := .pointer (some ⟨b, 0, none⟩)
def numCp (L : Lay) : Array Value := #[ptr L.f, ptr L.s, ptr L.a]
def numV (L : Lay) : Value := .func (.func 35) #[] #[ptr L.f, ptr L.s, ptr L.a]
def withinV (L : Lay) : Value := .func (.func 37) #[] #[ptr L.n, ptr L.f]
def textV (L : Lay) : Value := .func (.func 38) #[] #[ptr L.f, ptr L.s, ptr L.a]
def faultV (L : Lay) : Value := .func (.func 40) #[] #[ptr L.f]
def rdV (L : Lay) : Value := .agg #[numV L, withinV L, textV L, faultV L]
/-- The reader stands, with so much left to read and that error. -/
structure IsR (w : World) (L : Lay) (q : St) : Prop where
  text : ∃ (s : ByteArray) (k : Nat), w.heap[L.s]? = some (.cells #[.string s] 9 (0, 0)) ∧ w.heap[L.a]? = some (.cells #[.int .i64 (k : Int)] 3 (0, 0)) ∧ k ≤ s.size ∧ s.size ≤ 1000000000 ∧ s.extract k s.size = q.rest
  err : w.heap[L.f]? = some (.cells #[.int .i64 q.err] 25 (0, 0))
  num : w.heap[L.n]? = some (.cells #[numV L] 36 (0, 0))
  ls : L.s < L.M
  la : L.a < L.M
  lf : L.f < L.M
  ln : L.n < L.M
  lM : L.M ≤ w.heap.size
/-- What reading leaves as it was: all but the place and the error. -/
structure Leaves (L : Lay) (w w' : World) : Prop where
  os : w'.os = w.os
  tape : w'.tape = w.tape
  output : w'.output = w.output
  size : w.heap.size ≤ w'.heap.size
  block : ∀ k, k < w.heap.size → k ≠ L.a → k ≠ L.f → w'.heap[k]? = w.heap[k]?
section
variable {L : Lay} {w w' w'' : World} {q : St}
theorem Leaves.refl (L : Lay) (w : World) : Leaves L w w := ⟨rfl, rfl, rfl, Nat.le_refl _, fun _ _ _ _ => rfl⟩
theorem Leaves.trans (h : Leaves L w w') (k : Leaves L w' w'') : Leaves L w w'' :=
  ⟨k.os.trans h.os, k.tape.trans h.tape, k.output.trans h.output, Nat.le_trans h.size k.size, fun i h1 h2 h3 => (k.block i (Nat.lt_of_lt_of_le h1 h.size) h2 h3).trans (h.block i h1 h2 h3)⟩
theorem Leaves.of_below (h : Below w.heap.size w w') : Leaves L w w' := ⟨h.os, h.tape, h.output, h.size, fun k hk _ _ => h.block k hk⟩
theorem Leaves.below {B : Nat} (h : Leaves L w w') (ha : B ≤ L.a) (hf : B ≤ L.f) (hB : B ≤ w.heap.size) : Below B w w' :=
  ⟨h.os, h.tape, h.output, h.size, fun k hk => h.block k (by omega) (by omega) (by omega)⟩
theorem IsR.ne (h : IsR w L q) : L.a ≠ L.f ∧ L.a ≠ L.s ∧ L.a ≠ L.n ∧ L.f ≠ L.s ∧ L.f ≠ L.n := by
  obtain ⟨s, k, h1, h2, _⟩ := h.text
  have key : ∀ {b c : Nat} {x y : Array Value} {t u : TypeId}, w.heap[b]? = some (.cells x t (0, 0)) → w.heap[c]? = some (.cells y u (0, 0)) → t ≠ u → b ≠ c := by
    intro b c x y t u hb hc ht e
    subst e
    rw [hb] at hc
    simp only [Option.some.injEq, Obj.cells.injEq] at hc
    exact ht hc.2.1
  exact ⟨key h2 h.err (by decide), key h2 h1 (by decide), key h2 h.num (by decide), key h.err h1 (by decide), key h.err h.num (by decide)⟩
/-- A block of another type stands. -/
theorem Leaves.ty (h : Leaves L w w') (hr : IsR w L q) {b : Nat} {c : Array Value} {t : TypeId} {fr : Nat × Nat} (hb : w.heap[b]? = some (.cells c t fr)) (h3 : t ≠ 3) (hf : t ≠ 25) : w'.heap[b]? = some (.cells c t fr) := by
  obtain ⟨s, k, _, h2, _⟩ := hr.text
  refine (h.block b (Array.getElem?_eq_some_iff.1 hb).1 ?_ ?_).trans hb
  · intro e
    subst e
    rw [hb] at h2
    simp only [Option.some.injEq, Obj.cells.injEq] at h2
    exact h3 h2.2.1
  · intro e
    subst e
    have h4 := hr.err
    rw [hb] at h4
    simp only [Option.some.injEq, Obj.cells.injEq] at h4
    exact hf h4.2.1
/-- A block behind the reader stands. -/
theorem Leaves.far (h : Leaves L w w') (hr : IsR w L q) {b : Nat} (hb : b < w.heap.size) (hM : L.M ≤ b) : w'.heap[b]? = w.heap[b]? :=
  h.block b hb (by have := hr.la; omega) (by have := hr.lf; omega)
theorem Leaves.cell (h : Leaves L w w') (hr : IsR w L q) {b o : Nat} {v : Value} (hM : L.M ≤ b) (hc : w.cell? ⟨b, o, none⟩ = some v) : w'.cell? ⟨b, o, none⟩ = some v :=
  (World.cell?_of_block (w := w) (a := ⟨b, o, none⟩) (h.far hr (lt_of_cell hc) hM)).trans hc
theorem Leaves.lies (h : Leaves L w w') (hr : IsR w L q) {B : Nat → Prop} {v : Value} {l : List Ex} (hl : Lies w B v l) : Lies w' B v l :=
  hl.frame fun b c _ hb => by rw [hb]; exact h.ty hr hb (by decide) (by decide)
theorem Leaves.own (h : Leaves L w w') (hr : IsR w L q) {B : Nat} (hB : L.M ≤ B) {e : TypeId} {size n : Nat} {v : Value} {xs : List Value} (ho : w.ownsRow B e size v n xs) : w'.ownsRow B e size v n xs := by
  obtain ⟨k1, k2 | ⟨g, cap, cur, a0, a1, a2, a3⟩⟩ := ho
  · exact ⟨k1, .inl k2⟩
  · exact ⟨k1, .inr ⟨g, cap, cur, a0, a1, (h.far hr (Array.getElem?_eq_some_iff.1 a2).1 (by omega)).trans a2, a3⟩⟩
theorem Leaves.row (h : Leaves L w w') (hr : IsR w L q) {e : TypeId} {size n : Nat} {v : Value} {xs : List Value} (ho : lg.Row w e size v n xs) (hB : ∀ g, v.ownBlock = some g → L.M ≤ g) : lg.Row w' e size v n xs :=
  ho.frame fun g hg => h.far hr (ho.lt hg) (hB g hg)
theorem Leaves.then (h : Leaves L w w') (hb : Below w.heap.size w' w'') : Leaves L w w'' :=
  ⟨hb.os.trans h.os, hb.tape.trans h.tape, hb.output.trans h.output, Nat.le_trans h.size hb.size, fun i h1 h2 h3 => (hb.block i h1).trans (h.block i h1 h2 h3)⟩
theorem IsR.on (h : IsR w L q) (hb : Below L.M w w') : IsR w' L q := by
  obtain ⟨⟨s, k, h1, h2, h3⟩, h4, h5, l1, l2, l3, l4, l5⟩ := h
  exact ⟨⟨s, k, (hb.block _ l1).trans h1, (hb.block _ l2).trans h2, h3⟩, (hb.block _ l3).trans h4, (hb.block _ l4).trans h5, l1, l2, l3, l4, Nat.le_trans l5 hb.size⟩
theorem IsR.under (h : IsR w L q) (hb : Below w.heap.size w w') : IsR w' L q := h.on (hb.mono h.lM)
theorem extract2 (s : ByteArray) (k n : Nat) : (s.extract k s.size).extract n (s.extract k s.size).size = s.extract (k + n) s.size := by
  apply bl_inj
  rw [byt.bl_extract, byt.bl_extract, byt.bl_extract, List.drop_drop]
/-- So many bytes were read, with that error. -/
theorem IsR.step {s : ByteArray} {k n : Nat} {c : Int} (h : IsR w L q) (h1 : w.heap[L.s]? = some (.cells #[.string s] 9 (0, 0))) (h2 : w.heap[L.a]? = some (.cells #[.int .i64 (k : Int)] 3 (0, 0))) (h3 : s.size ≤ 1000000000) (h4 : s.extract k s.size = q.rest) (hn : k + n ≤ s.size) :
    IsR ((w.setCell ⟨L.a, 0, none⟩ (.int .i64 ((k : Int) + (n : Int)))).setCell ⟨L.f, 0, none⟩ (.int .i64 c)) L ⟨q.rest.extract n q.rest.size, c⟩ ∧ Leaves L w ((w.setCell ⟨L.a, 0, none⟩ (.int .i64 ((k : Int) + (n : Int)))).setCell ⟨L.f, 0, none⟩ (.int .i64 c)) := by
  obtain ⟨n1, n2, n3, n4, n5⟩ := h.ne
  have ea : (w.setCell ⟨L.a, 0, none⟩ (.int .i64 ((k : Int) + (n : Int)))).heap[L.a]? = some (.cells #[.int .i64 ((k : Int) + (n : Int))] 3 (0, 0)) := setCell_heap h2
  have ef : (w.setCell ⟨L.a, 0, none⟩ (.int .i64 ((k : Int) + (n : Int)))).heap[L.f]? = some (.cells #[.int .i64 q.err] 25 (0, 0)) := (Below.heap_setCell _ _ _ _ (fun e => n1 e.symm)).trans h.err
  have ef2 := setCell_heap (j := 0) (z := .int .i64 c) ef
  have oth : ∀ b, b ≠ L.a → b ≠ L.f → ((w.setCell ⟨L.a, 0, none⟩ (.int .i64 ((k : Int) + (n : Int)))).setCell ⟨L.f, 0, none⟩ (.int .i64 c)).heap[b]? = w.heap[b]? := fun b ha hf => (Below.heap_setCell _ _ _ _ hf).trans (Below.heap_setCell _ _ _ _ ha)
  refine ⟨⟨⟨s, k + n, (oth _ (fun e => n2 e.symm) (fun e => n4 e.symm)).trans h1, ?_, hn, h3, ?_⟩, ef2, (oth _ (fun e => n3 e.symm) (fun e => n5 e.symm)).trans h.num, h.ls, h.la, h.lf, h.ln, by simpa using h.lM⟩, ⟨rfl, rfl, rfl, by simp, fun b _ ha hf => oth b ha hf⟩⟩
  · rw [Below.heap_setCell _ _ _ _ n1, ea]
    push_cast
    rfl
  · rw [← h4, extract2]
/-- Another error. -/
theorem IsR.fail (h : IsR w L q) (c : Int) : IsR (w.setCell ⟨L.f, 0, none⟩ (.int .i64 c)) L ⟨q.rest, c⟩ ∧ Leaves L w (w.setCell ⟨L.f, 0, none⟩ (.int .i64 c)) := by
  obtain ⟨n1, n2, n3, n4, n5⟩ := h.ne
  obtain ⟨s, k, h1, h2, h3⟩ := h.text
  have oth : ∀ b, b ≠ L.f → (w.setCell ⟨L.f, 0, none⟩ (.int .i64 c)).heap[b]? = w.heap[b]? := fun b hf => Below.heap_setCell _ _ _ _ hf
  exact ⟨⟨⟨s, k, (oth _ (fun e => n4 e.symm)).trans h1, (oth _ n1).trans h2, h3⟩, setCell_heap h.err, (oth _ (fun e => n5 e.symm)).trans h.num, h.ls, h.la, h.lf, h.ln, by simpa using h.lM⟩, ⟨rfl, rfl, rfl, by simp, fun b _ ha hf => oth b hf⟩⟩
end
/-- What a reading call leaves. -/
def RPost (L : Lay) (w : World) (q : St) (w' : World) : Prop := IsR w' L q ∧ Leaves L w w'
theorem St.same {q : St} : (⟨q.rest, q.err⟩ : St) = q := rfl

set_option maxHeartbeats 800000 in
set_option maxRecDepth 1000000 in
theorem num_any {w : World} {L : Lay} {q : St} (h : IsR w L q) : Calls Tryd.prog 35 #[ptr L.f, ptr L.s, ptr L.a] w fun e w' => e = .returned (.int .i64 (numO q).1) ∧ RPost L w (numO q).2 w' := by
  obtain ⟨s, k, h1, h2, hk, hs, hx⟩ := h.text
  have cs : w.cell? ⟨L.s, 0, none⟩ = some (.string s) := cell_of h1 rfl
  have ca : w.cell? ⟨L.a, 0, none⟩ = some (.int .i64 (k : Int)) := cell_of h2 rfl
  have cf : w.cell? ⟨L.f, 0, none⟩ = some (.int .i64 q.err) := cell_of h.err rfl
  have fa : w.frozen? ⟨L.a, 0, none⟩ = false := by simp [World.frozen?, h2]
  have ff : w.frozen? ⟨L.f, 0, none⟩ = false := by simp [World.frozen?, h.err]
  by_cases he : q.err = 0
  · obtain ⟨n, hn⟩ : ∃ n, (byt.take (byt.bl q.rest)).1 = n := ⟨_, rfl⟩
    obtain ⟨m, hm⟩ : ∃ m, (byt.take (byt.bl q.rest)).2.1 = m := ⟨_, rfl⟩
    obtain ⟨c, hc⟩ : ∃ c, (byt.take (byt.bl q.rest)).2.2 = c := ⟨_, rfl⟩
    have HT := Lib.hid (byt.take_of (s := s.extract k s.size) (n := n) (k := m) (c := c) (by rw [hx, ← hn, ← hm, ← hc]) w (by simp; omega))
    have hkm : k + m ≤ s.size := by
      by_cases h0 : (byt.take (byt.bl q.rest)).2.2 = 0
      · have := (byt.take_size h0).2.2.1
        rw [hm, byt.bl_length, ← hx] at this
        simp at this
        omega
      · rcases byt.take_bad h0 with h5 | h5 <;> (rw [h5] at hm; simp at hm; omega)
    have HS := Lib.hid (h.step (c := c) h1 h2 hs hx hkm)
    have HE : Hid (numO q = (n, ⟨q.rest.extract m q.rest.size, c⟩)) := Lib.hid (by unfold numO; rw [if_neg (by simp [he]), hn, hm, hc])
    have hkm' : (k : Int) + (m : Int) ≤ 1000000000 := by omega
    have hk' : (k : Int) ≤ (s.size : Int) := by omega
    have cf2 : (w.setCell ⟨L.a, 0, none⟩ (.int .i64 ((k : Int) + (m : Int)))).cell? ⟨L.f, 0, none⟩ = some (.int .i64 q.err) := (World.cell?_of_block (w := w) (a := ⟨L.f, 0, none⟩) (Below.heap_setCell _ _ _ _ (fun e => h.ne.1 e.symm))).trans cf
    have ff2 : (w.setCell ⟨L.a, 0, none⟩ (.int .i64 ((k : Int) + (m : Int)))).frozen? ⟨L.f, 0, none⟩ = false := (World.frozen?_of_block (w := w) (a := ⟨L.f, 0, none⟩) (Below.heap_setCell _ _ _ _ (fun e => h.ne.1 e.symm))).trans ff
    have he' : (q.err != 0) = false := by simp [he]
    rw [HE.out]
    clear h h1 h2 hx hn hm hc hkm
    go_enter Tryd.func35, Tryd.ntmps35
    go_wp2_with fail
    refine HT.out.mono ?_
    rintro e w1 ⟨rfl, rfl⟩
    go_wp2_with fail
    go_ret
    exact ⟨rfl, HS.out⟩
  · have he' : (q.err != 0) = true := by simp [he]
    have HE : Hid (numO q = (0, q)) := Lib.hid (by unfold numO; rw [if_pos he])
    rw [HE.out]
    have HH := Lib.hid h
    clear h h1 h2 hx
    go_enter Tryd.func35, Tryd.ntmps35
    go_wp2_with fail
    go_ret
    exact ⟨rfl, HH.out, Leaves.refl _ _⟩
theorem textO_size {r t : ByteArray} {m : Nat} {c : Int} (h : byt.textO r = (t, m, c)) : m ≤ r.size := by
  unfold byt.textO at h
  split at h
  · simp only [Prod.mk.injEq] at h; omega
  split at h
  · simp only [Prod.mk.injEq] at h; omega
  split at h
  · simp only [Prod.mk.injEq] at h; omega
  split at h
  · simp only [Prod.mk.injEq] at h; omega
  · simp only [Prod.mk.injEq] at h; omega
set_option maxHeartbeats 800000 in
set_option maxRecDepth 1000000 in
theorem text_any {w : World} {L : Lay} {q : St} (h : IsR w L q) : Calls Tryd.prog 38 #[ptr L.f, ptr L.s, ptr L.a] w fun e w' => e = .returned (.string (textO q).1) ∧ RPost L w (textO q).2 w' := by
  obtain ⟨s, k, h1, h2, hk, hs, hx⟩ := h.text
  have cs : w.cell? ⟨L.s, 0, none⟩ = some (.string s) := cell_of h1 rfl
  have ca : w.cell? ⟨L.a, 0, none⟩ = some (.int .i64 (k : Int)) := cell_of h2 rfl
  have cf : w.cell? ⟨L.f, 0, none⟩ = some (.int .i64 q.err) := cell_of h.err rfl
  have fa : w.frozen? ⟨L.a, 0, none⟩ = false := by simp [World.frozen?, h2]
  have ff : w.frozen? ⟨L.f, 0, none⟩ = false := by simp [World.frozen?, h.err]
  by_cases he : q.err = 0
  · obtain ⟨t, ht⟩ : ∃ t, (byt.textO q.rest).1 = t := ⟨_, rfl⟩
    obtain ⟨m, hm⟩ : ∃ m, (byt.textO q.rest).2.1 = m := ⟨_, rfl⟩
    obtain ⟨c, hc⟩ : ∃ c, (byt.textO q.rest).2.2 = c := ⟨_, rfl⟩
    have htt : byt.textO q.rest = (t, m, c) := by rw [← ht, ← hm, ← hc]
    have HT := Lib.hid (byt.takeText_at (s := s.extract k s.size) (t := t) (n := m) (c := c) (by rw [hx]; exact htt) w (by simp; omega))
    have hkm : k + m ≤ s.size := by
      have := textO_size htt
      rw [← hx] at this
      simp at this
      omega
    have HS := Lib.hid (h.step (c := c) h1 h2 hs hx hkm)
    have HE : Hid (textO q = (t, ⟨q.rest.extract m q.rest.size, c⟩)) := Lib.hid (by unfold textO; rw [if_neg (by simp [he]), htt])
    have hkm' : (k : Int) + (m : Int) ≤ 1000000000 := by omega
    have hk' : (k : Int) ≤ (s.size : Int) := by omega
    have cf2 : (w.setCell ⟨L.a, 0, none⟩ (.int .i64 ((k : Int) + (m : Int)))).cell? ⟨L.f, 0, none⟩ = some (.int .i64 q.err) := (World.cell?_of_block (w := w) (a := ⟨L.f, 0, none⟩) (Below.heap_setCell _ _ _ _ (fun e => h.ne.1 e.symm))).trans cf
    have ff2 : (w.setCell ⟨L.a, 0, none⟩ (.int .i64 ((k : Int) + (m : Int)))).frozen? ⟨L.f, 0, none⟩ = false := (World.frozen?_of_block (w := w) (a := ⟨L.f, 0, none⟩) (Below.heap_setCell _ _ _ _ (fun e => h.ne.1 e.symm))).trans ff
    have he' : (q.err != 0) = false := by simp [he]
    rw [HE.out]
    clear h h1 h2 hx ht hm hc hkm htt
    go_enter Tryd.func38, Tryd.ntmps38
    go_wp2_with fail
    refine HT.out.mono ?_
    rintro e w1 ⟨rfl, rfl⟩
    go_wp2_with fail
    go_ret
    exact ⟨rfl, HS.out⟩
  · have he' : (q.err != 0) = true := by simp [he]
    have HE : Hid (textO q = (ByteArray.empty, q)) := Lib.hid (by unfold textO; rw [if_pos he])
    rw [HE.out]
    have HH := Lib.hid h
    clear h h1 h2 hx
    go_enter Tryd.func38, Tryd.ntmps38
    go_wp2_with fail
    go_ret
    exact ⟨rfl, HH.out, Leaves.refl _ _⟩
theorem fault_any {w : World} {L : Lay} {q : St} (h : IsR w L q) : Calls Tryd.prog 40 #[ptr L.f] w fun e w' => e = .returned (.int .i64 q.err) ∧ w = w' := by
  have cf : w.cell? ⟨L.f, 0, none⟩ = some (.int .i64 q.err) := cell_of h.err rfl
  clear h
  go_enter Tryd.func40, Tryd.ntmps40
  go_wp2_with fail
  go_ret
  exact ⟨rfl, rfl⟩
theorem enters1 (args : Array Value) (w : World) : (callFunc 35 args).run Tryd.prog w = .ok (.enter 35 args) w := enters_of Tryd.func35 (by kernel_rfl) rfl args w
set_option maxHeartbeats 800000 in
set_option maxRecDepth 1000000 in
theorem within_any {w : World} {L : Lay} {q : St} (most why : Int) (h : IsR w L q) : Calls Tryd.prog 37 #[.int .i64 most, .int .i64 why, ptr L.n, ptr L.f] w fun e w' => e = .returned (.int .i64 (withinO most why q).1) ∧ RPost L w (withinO most why q).2 w' := by
  have cn : w.cell? ⟨L.n, 0, none⟩ = some (.func (.func 35) #[] #[ptr L.f, ptr L.s, ptr L.a]) := cell_of h.num rfl
  have HN := Lib.hid (num_any h)
  have HI : Hid (∀ w1, RPost L w (numO q).2 w1 → w1.cell? ⟨L.f, 0, none⟩ = some (.int .i64 (numO q).2.err) ∧ w1.frozen? ⟨L.f, 0, none⟩ = false ∧ RPost L w ⟨(numO q).2.rest, why⟩ (w1.setCell ⟨L.f, 0, none⟩ (.int .i64 why))) := Lib.hid fun w1 h1 =>
    ⟨cell_of h1.1.err rfl, by simp [World.frozen?, h1.1.err], (h1.1.fail why).1, h1.2.trans (h1.1.fail why).2⟩
  have hen := enters1
  clear h
  obtain ⟨n, hn⟩ : ∃ n, (numO q).1 = n := ⟨_, rfl⟩
  by_cases h0 : n < 0 ∨ most < n
  · have HE : Hid (withinO most why q = (0, ⟨(numO q).2.rest, why⟩)) := Lib.hid (by unfold withinO; rw [hn, if_pos h0])
    rw [HE.out]
    rw [hn] at HN
    by_cases hz : n < 0
    · clear h0 hn
      go_enter Tryd.func37, Tryd.ntmps37
      go_wp2_with fail
      refine HN.out.mono ?_
      rintro e w1 ⟨rfl, hp⟩
      obtain ⟨c1, f1, hp2⟩ := HI.out w1 hp
      have HP := Lib.hid hp2
      clear hp hp2
      go_wp2_with fail
      go_ret
      exact ⟨rfl, HP.out⟩
    · have hm : most < n := by omega
      clear h0 hn
      go_enter Tryd.func37, Tryd.ntmps37
      go_wp2_with fail
      refine HN.out.mono ?_
      rintro e w1 ⟨rfl, hp⟩
      obtain ⟨c1, f1, hp2⟩ := HI.out w1 hp
      have HP := Lib.hid hp2
      clear hp hp2
      go_wp2_with fail
      go_ret
      exact ⟨rfl, HP.out⟩
  · have HE : Hid (withinO most why q = numO q) := Lib.hid (by unfold withinO; rw [hn, if_neg h0])
    rw [HE.out, hn]
    rw [hn] at HN
    have hz : ¬ n < 0 := by omega
    have hm : ¬ most < n := by omega
    clear h0 hn
    go_enter Tryd.func37, Tryd.ntmps37
    go_wp2_with fail
    refine HN.out.mono ?_
    rintro e w1 ⟨rfl, hp⟩
    have HP := Lib.hid hp
    clear hp
    go_wp2_with fail
    go_ret
    exact ⟨rfl, HP.out⟩
end Go.Proofs.YtnelfokfgnikfaaDoor.pk
