/- The text that changelingref14 reads, in memory; what its methods answer. -/
import Derived.Test.YtnelfokfgnikfaaDoorMRj
import Derived.Test.YtnelfokfgnikfaaDoorPkM
import Derived.Test.YtnelfokfgnikfaaDoorMBy
namespace Go.Proofs.YtnelfokfgnikfaaDoor.rf
set_option linter.unusedSimpArgs false
set_option linter.unusedVariables false
open Go.RowKit nam exp jb pk

/-- The text stands, with so much left to read and that error. -/
def TextAt (w : World) (B : Nat) (q : St) : Prop := w.heap[B]? = some (.cells #[.string q.rest, .int .i64 q.err] 62 (0, 0)) ∧ q.rest.size ≤ 1000000000
/-- What reading leaves as it was: all but the text. -/
structure LvT (B : Nat) (w w' : World) : Prop where
  os : w'.os = w.os
  tape : w'.tape = w.tape
  output : w'.output = w.output
  size : w.heap.size ≤ w'.heap.size
  block : ∀ k, k < w.heap.size → k ≠ B → w'.heap[k]? = w.heap[k]?
section
variable {B : Nat} {w w' w'' : World} {q : St}
theorem LvT.refl (B : Nat) (w : World) : LvT B w w := ⟨rfl, rfl, rfl, Nat.le_refl _, fun _ _ _ => rfl⟩
theorem LvT.trans (h : LvT B w w') (k : LvT B w' w'') : LvT B w w'' :=
  ⟨k.os.trans h.os, k.tape.trans h.tape, k.output.trans h.output, Nat.le_trans h.size k.size, fun i h1 h2 => (k.block i (Nat.lt_of_lt_of_le h1 h.size) h2).trans (h.block i h1 h2)⟩
theorem LvT.of_below (h : Below w.heap.size w w') : LvT B w w' := ⟨h.os, h.tape, h.output, h.size, fun k hk _ => h.block k hk⟩
theorem LvT.then (h : LvT B w w') (hb : Below w.heap.size w' w'') : LvT B w w'' :=
  ⟨hb.os.trans h.os, hb.tape.trans h.tape, hb.output.trans h.output, Nat.le_trans h.size hb.size, fun i h1 h2 => (hb.block i h1).trans (h.block i h1 h2)⟩
theorem LvT.below {C : Nat} (h : LvT B w w') (hB : C ≤ B) (hC : C ≤ w.heap.size) : Below C w w' := ⟨h.os, h.tape, h.output, h.size, fun k hk => h.block k (by omega) (by omega)⟩
theorem TextAt.lt (h : TextAt w B q) : B < w.heap.size := (Array.getElem?_eq_some_iff.1 h.1).1
theorem TextAt.under (h : TextAt w B q) (hb : Below w.heap.size w w') : TextAt w' B q := ⟨(hb.block _ h.lt).trans h.1, h.2⟩
/-- A block of another type stands. -/
theorem LvT.ty (h : LvT B w w') (ht : TextAt w B q) {b : Nat} {c : Array Value} {t : TypeId} {fr : Nat × Nat} (hb : w.heap[b]? = some (.cells c t fr)) (hf : t ≠ 62) : w'.heap[b]? = some (.cells c t fr) := by
  refine (h.block b (Array.getElem?_eq_some_iff.1 hb).1 ?_).trans hb
  intro e
  subst e
  have h2 := ht.1
  rw [hb] at h2
  simp only [Option.some.injEq, Obj.cells.injEq] at h2
  exact hf h2.2.1
theorem LvT.lies (h : LvT B w w') (ht : TextAt w B q) {P : Nat → Prop} {v : Value} {l : List Ex} (hl : Lies w P v l) : Lies w' P v l :=
  hl.frame fun b c _ hb => by rw [hb]; exact h.ty ht hb (by decide)
theorem TextAt.fail (h : TextAt w B q) (c : Int) : TextAt (w.setCell ⟨B, 1, none⟩ (.int .i64 c)) B ⟨q.rest, c⟩ ∧ LvT B w (w.setCell ⟨B, 1, none⟩ (.int .i64 c)) :=
  ⟨⟨setCell_heap h.1, h.2⟩, ⟨rfl, rfl, rfl, by simp, fun k _ hk => Below.heap_setCell _ _ _ _ hk⟩⟩
theorem TextAt.step (h : TextAt w B q) (c : Int) {r : ByteArray} (hr : r.size ≤ q.rest.size) : TextAt ((w.setCell ⟨B, 1, none⟩ (.int .i64 c)).setCell ⟨B, 0, none⟩ (.string r)) B ⟨r, c⟩ ∧ LvT B w ((w.setCell ⟨B, 1, none⟩ (.int .i64 c)).setCell ⟨B, 0, none⟩ (.string r)) :=
  ⟨⟨setCell_heap (setCell_heap h.1), Nat.le_trans hr h.2⟩, ⟨rfl, rfl, rfl, by simp, fun k _ hk => (Below.heap_setCell _ _ _ _ hk).trans (Below.heap_setCell _ _ _ _ hk)⟩⟩
theorem TextAt.cells (h : TextAt w B q) : w.cell? ⟨B, 0, none⟩ = some (.string q.rest) ∧ w.cell? ⟨B, 1, none⟩ = some (.int .i64 q.err) ∧ w.frozen? ⟨B, 0, none⟩ = false ∧ w.frozen? ⟨B, 1, none⟩ = false :=
  ⟨cell_of h.1 rfl, cell_of h.1 rfl, by simp [World.frozen?, h.1], by simp [World.frozen?, h.1]⟩
end
/-- What a reading call leaves. -/
def TPost (B : Nat) (w : World) (q : St) (w' : World) : Prop := TextAt w' B q ∧ LvT B w w'
theorem rest_all (s : ByteArray) : s.extract 0 s.size = s := by
  apply bl_inj
  rw [bl_rest, List.drop_zero]
set_option maxHeartbeats 800000 in
set_option maxRecDepth 1000000 in
theorem rnum_any {w : World} {B : Nat} {q : St} (h : TextAt w B q) : Calls Tryd.prog 27 #[pk.ptr B] w fun e w' => e = .returned (.int .i64 (numO q).1) ∧ TPost B w (numO q).2 w' := by
  obtain ⟨c0, c1, f0, f1⟩ := h.cells
  by_cases he : q.err = 0
  · obtain ⟨n, hn⟩ : ∃ n, (byt.take (byt.bl q.rest)).1 = n := ⟨_, rfl⟩
    obtain ⟨m, hm⟩ : ∃ m, (byt.take (byt.bl q.rest)).2.1 = m := ⟨_, rfl⟩
    obtain ⟨c, hc⟩ : ∃ c, (byt.take (byt.bl q.rest)).2.2 = c := ⟨_, rfl⟩
    have hsz := h.2
    have HT := Lib.hid (byt.refTake_of (s := q.rest) (n := n) (k := m) (c := c) (by rw [← hn, ← hm, ← hc]) w (by omega))
    have HE : Hid (numO q = (n, ⟨q.rest.extract m q.rest.size, c⟩)) := Lib.hid (by unfold numO; rw [if_neg (by simp [he]), hn, hm, hc])
    have he' : (q.err != 0) = false := by simp [he]
    rw [HE.out]
    by_cases hc0 : c = 0
    · have hmr : m ≤ q.rest.size := by
        have := (byt.take_size (s := byt.bl q.rest) (by rw [hc]; exact hc0)).2.2.1
        rw [hm, byt.bl_length] at this
        exact this
      have hmi : (m : Int) ≤ (q.rest.size : Int) := by omega
      have HS := Lib.hid (h.step c (r := q.rest.extract m q.rest.size) (by simp))
      obtain ⟨d0, d1, g0, g1⟩ := (h.fail c).1.cells
      subst hc0
      clear h hn hm hc hmr he
      go_enter Tryd.func27, Tryd.ntmps27
      go_wp2_with fail
      refine HT.out.mono ?_
      rintro e w1 ⟨rfl, rfl⟩
      go_wp2_with fail
      go_ret
      exact ⟨rfl, HS.out⟩
    · have hcb : (c != 0) = true := by simp [hc0]
      have hz : n = 0 ∧ m = 0 := by
        rcases byt.take_bad (s := byt.bl q.rest) (by rw [hc]; exact hc0) with h1 | h1 <;> (rw [h1] at hn hm; exact ⟨hn.symm, hm.symm⟩)
      obtain ⟨rfl, rfl⟩ := hz
      have HS : Hid (TPost B w ⟨q.rest.extract 0 q.rest.size, c⟩ (w.setCell ⟨B, 1, none⟩ (.int .i64 c))) := Lib.hid (by rw [rest_all]; exact h.fail c)
      push_cast at HT
      clear h hn hm hc he hc0
      go_enter Tryd.func27, Tryd.ntmps27
      go_wp2_with fail
      refine HT.out.mono ?_
      rintro e w1 ⟨rfl, rfl⟩
      go_wp2_with fail
      go_ret
      exact ⟨rfl, HS.out⟩
  · have he' : (q.err != 0) = true := by simp [he]
    have HE : Hid (numO q = (0, q)) := Lib.hid (by unfold numO; rw [if_pos he])
    rw [HE.out]
    have HH := Lib.hid h
    clear h he
    go_enter Tryd.func27, Tryd.ntmps27
    go_wp2_with fail
    go_ret
    exact ⟨rfl, HH.out, LvT.refl _ _⟩
set_option maxHeartbeats 800000 in
set_option maxRecDepth 1000000 in
theorem rtext_any {w : World} {B : Nat} {q : St} (h : TextAt w B q) : Calls Tryd.prog 29 #[pk.ptr B] w fun e w' => e = .returned (.string (textO q).1) ∧ TPost B w (textO q).2 w' := by
  obtain ⟨c0, c1, f0, f1⟩ := h.cells
  by_cases he : q.err = 0
  · obtain ⟨t, ht⟩ : ∃ t, (byt.textO q.rest).1 = t := ⟨_, rfl⟩
    obtain ⟨m, hm⟩ : ∃ m, (byt.textO q.rest).2.1 = m := ⟨_, rfl⟩
    obtain ⟨c, hc⟩ : ∃ c, (byt.textO q.rest).2.2 = c := ⟨_, rfl⟩
    have htt : byt.textO q.rest = (t, m, c) := by rw [← ht, ← hm, ← hc]
    have hsz := h.2
    have HT := Lib.hid (byt.refTakeText_at (s := q.rest) (t := t) (n := m) (c := c) htt w (by omega))
    have HE : Hid (textO q = (t, ⟨q.rest.extract m q.rest.size, c⟩)) := Lib.hid (by unfold textO; rw [if_neg (by simp [he]), htt])
    have he' : (q.err != 0) = false := by simp [he]
    rw [HE.out]
    have hmr : m ≤ q.rest.size := textO_size htt
    have hmi : (m : Int) ≤ (q.rest.size : Int) := by omega
    have HS := Lib.hid (h.step c (r := q.rest.extract m q.rest.size) (by simp))
    obtain ⟨d0, d1, g0, g1⟩ := (h.fail c).1.cells
    clear h ht hm hc hmr he htt
    go_enter Tryd.func29, Tryd.ntmps29
    go_wp2_with fail
    refine HT.out.mono ?_
    rintro e w1 ⟨rfl, rfl⟩
    go_wp2_with fail
    go_ret
    exact ⟨rfl, HS.out⟩
  · have he' : (q.err != 0) = true := by simp [he]
    have HE : Hid (textO q = (ByteArray.empty, q)) := Lib.hid (by unfold textO; rw [if_pos he])
    rw [HE.out]
    have HH := Lib.hid h
    clear h he
    go_enter Tryd.func29, Tryd.ntmps29
    go_wp2_with fail
    go_ret
    exact ⟨rfl, HH.out, LvT.refl _ _⟩
set_option maxHeartbeats 800000 in
set_option maxRecDepth 1000000 in
theorem rwithin_any {w : World} {B : Nat} {q : St} (most why : Int) (h0 : 0 ≤ most) (h : TextAt w B q) : Calls Tryd.prog 28 #[pk.ptr B, .int .i64 most, .int .i64 why] w fun e w' => e = .returned (.int .i64 (withinO most why q).1) ∧ TPost B w (withinO most why q).2 w' := by
  have HN := Lib.hid (rnum_any h)
  have HZ := Lib.hid (@num_bad q)
  obtain ⟨n, hn⟩ : ∃ n, (numO q).1 = n := ⟨_, rfl⟩
  obtain ⟨q1, hq1⟩ : ∃ q1, (numO q).2 = q1 := ⟨_, rfl⟩
  rw [hn, hq1] at HN HZ
  have HI : Hid (∀ w1, TPost B w q1 w1 → TPost B w ⟨q1.rest, why⟩ (w1.setCell ⟨B, 1, none⟩ (.int .i64 why))) := Lib.hid fun w1 h1 => ⟨(h1.1.fail why).1, h1.2.trans (h1.1.fail why).2⟩
  have HE : Hid (withinO most why q = if n < 0 ∨ most < n then (0, ⟨q1.rest, why⟩) else (n, q1)) := Lib.hid (by
    unfold withinO
    rw [hn, hq1]
    split
    · rfl
    · rw [← hn, ← hq1])
  clear h hn hq1
  rw [HE.out]
  by_cases he : q1.err = 0
  · have he' : (q1.err == 0) = true := by simp [he]
    by_cases hz : n < 0
    · have hd : decide (n < 0) = true := by simp [hz]
      rw [if_pos (.inl hz)]
      clear hz he
      go_enter Tryd.func28, Tryd.ntmps28
      go_wp2_with fail
      refine HN.out.mono ?_
      rintro e w1 ⟨rfl, hp⟩
      have HP := Lib.hid hp
      obtain ⟨c0, c1, f0, f1⟩ := hp.1.cells
      clear hp
      go_wp2_with fail
      go_ret
      exact ⟨rfl, HI.out _ HP.out⟩
    · have hd : decide (n < 0) = false := by simp; omega
      by_cases hm : most < n
      · have hd2 : decide (n > most) = true := by simp [hm]
        rw [if_pos (.inr hm)]
        clear hz he hm
        go_enter Tryd.func28, Tryd.ntmps28
        go_wp2_with fail
        refine HN.out.mono ?_
        rintro e w1 ⟨rfl, hp⟩
        have HP := Lib.hid hp
        obtain ⟨c0, c1, f0, f1⟩ := hp.1.cells
        clear hp
        go_wp2_with fail
        go_ret
        exact ⟨rfl, HI.out _ HP.out⟩
      · have hd2 : decide (n > most) = false := by simp; omega
        rw [if_neg (by omega)]
        clear hz he hm
        go_enter Tryd.func28, Tryd.ntmps28
        go_wp2_with fail
        refine HN.out.mono ?_
        rintro e w1 ⟨rfl, hp⟩
        have HP := Lib.hid hp
        obtain ⟨c0, c1, f0, f1⟩ := hp.1.cells
        clear hp
        go_wp2_with fail
        go_ret
        exact ⟨rfl, HP.out⟩
  · have he' : (q1.err == 0) = false := by simp [he]
    have hn0 : n = 0 := HZ.out he
    rw [if_neg (by omega)]
    clear he hn0
    go_enter Tryd.func28, Tryd.ntmps28
    go_wp2_with fail
    refine HN.out.mono ?_
    rintro e w1 ⟨rfl, hp⟩
    have HP := Lib.hid hp
    obtain ⟨c0, c1, f0, f1⟩ := hp.1.cells
    clear hp
    go_wp2_with fail
    go_ret
    exact ⟨rfl, HP.out⟩
end Go.Proofs.YtnelfokfgnikfaaDoor.rf
