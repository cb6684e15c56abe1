/- DiskKept behind the loop: the crash, what is wanted, and what is there. -/
import Derived.Test.YtdajpaigahhhcaaY
namespace Go.Proofs.Ytdajpaigahhhcaa.dsk
set_option linter.unusedSimpArgs false
set_option linter.unusedVariables false
open Go.RowKit

theorem row_form {w : World} {B : Nat} {v : Value} {xs : List Value} (h : w.ownsRow B 9 1 v 16 xs) : ∃ g c, v = .slice (some ⟨g, 0, none⟩) 16 c := by
  rcases h.2 with ⟨_, h0⟩ | ⟨g, c, cur, rfl, _⟩
  · cases h0
  · exact ⟨g, c, rfl⟩
theorem own_form {w : World} {B e size n : Nat} {v : Value} {xs : List Value} (h : w.ownsRow B e size v n xs) : ∃ a c, v = .slice a n c := by
  rcases h.2 with ⟨rfl, rfl⟩ | ⟨g, cap, cur, rfl, _⟩
  · exact ⟨_, _, rfl⟩
  · exact ⟨_, _, rfl⟩
theorem own_form' {w : World} {B e size n : Nat} {v : Value} {xs : List Value} (h : w.ownsRow B e size v n xs) (hn : 0 < n) : ∃ g c, v = .slice (some ⟨g, 0, none⟩) n c := by
  rcases h.2 with ⟨rfl, rfl⟩ | ⟨g, cap, cur, rfl, _⟩
  · omega
  · exact ⟨_, _, rfl⟩
theorem row_cell {w : World} {B e size n g c : Nat} {xs : List Value} (h : w.ownsRow B e size (.slice (some ⟨g, 0, none⟩) n c) n xs) {j : Nat} {y : Value} (hj : xs[j]? = some y) : w.cell? ⟨g, j, none⟩ = some y := by
  have := h.cells (g := g) rfl j y hj
  have hadd : (⟨g, 0, none⟩ : Addr).add j = ⟨g, j, none⟩ := by unfold Addr.add; split <;> simp_all
  rwa [hadd] at this
theorem firsts_get (f : Files) {i n : Nat} (hi : i < n) : (firsts f n)[i]? = some (f i) := by
  unfold firsts
  rw [List.getElem?_map, List.getElem?_range hi]
  rfl
theorem texts_at {w : World} {B g c : Nat} {f : Files} (h : w.ownsRow B 9 1 (.slice (some ⟨g, 0, none⟩) 16 c) 16 ((firsts f 16).map Value.string)) :
    ∀ j, j < (firsts f 16).length → w.cell? ⟨g, 0 + j, none⟩ = some (.string ((firsts f 16).getD j ByteArray.empty)) := fun j hj => by
  rw [firsts_length] at hj
  rw [Nat.zero_add, List.getD_eq_getElem?_getD, firsts_get f hj]
  refine row_cell h ?_
  rw [List.getElem?_map, firsts_get f hj]
  rfl
theorem firsts_upd (f : Files) (i : Nat) (s : ByteArray) (n : Nat) : firsts (upd f i s) n = (firsts f n).set i s := by
  apply List.ext_getElem?
  intro j
  rw [List.getElem?_set, firsts_length]
  by_cases hj : j < n
  · rw [firsts_get _ hj, firsts_get _ hj]
    by_cases e : i = j
    · subst e
      rw [if_pos rfl, if_pos hj, upd_same]
    · rw [if_neg e, upd_other _ _ (Ne.symm e)]
  · rw [List.getElem?_eq_none (by rw [firsts_length]; omega), List.getElem?_eq_none (by rw [firsts_length]; omega)]
    simp [hj]
    omega
theorem row_store {w : World} {B g c : Nat} {f : Files} (h : w.ownsRow B 9 1 (.slice (some ⟨g, 0, none⟩) 16 c) 16 ((firsts f 16).map Value.string)) {i : Nat} (hi : i < 16) (s : ByteArray) :
    (w.setCell ⟨g, i, none⟩ (.string s)).ownsRow B 9 1 (.slice (some ⟨g, 0, none⟩) 16 c) 16 ((firsts (upd f i s) 16).map Value.string) := by
  rcases h.2 with ⟨h0, _⟩ | ⟨g', cap, cur, e, hb, hg, h1, h2, h3, h4⟩
  · cases h0
  · injection e with e1 _ e3
    injection e1 with e1
    injection e1 with e1
    subst e1 e3
    refine ⟨by rw [List.length_map, firsts_length], .inr ⟨g, c, cur.setIfInBounds i (.string s), rfl, hb, heap_setCell_same w g i cur 9 _ hg, h1, h2, by simpa using h3, ?_⟩⟩
    rw [Array.toList_setIfInBounds, List.take_set, h4, firsts_upd, List.map_set]
theorem row_frozen {w : World} {B e size n g c : Nat} {xs : List Value} (h : w.ownsRow B e size (.slice (some ⟨g, 0, none⟩) n c) n xs) (j : Nat) : w.frozen? ⟨g, j, none⟩ = false := by
  rcases h.2 with ⟨h0, _⟩ | ⟨g', cap, cur, e, hb, hg, _⟩
  · cases h0
  · injection e with e1
    injection e1 with e1
    injection e1 with e1
    subst e1
    simp [World.frozen?, hg]
/-- Two rows of the same texts are equal. -/
theorem equal_rows {w : World} {B B' g c g' c' : Nat} {f : Files} (h1 : w.ownsRow B 9 1 (.slice (some ⟨g, 0, none⟩) 16 c) 16 ((firsts f 16).map Value.string)) (h2 : w.ownsRow B' 9 1 (.slice (some ⟨g', 0, none⟩) 16 c') 16 ((firsts f 16).map Value.string)) :
    Calls Try.prog 29 #[.slice (some ⟨g, 0, none⟩) 16 c, .slice (some ⟨g', 0, none⟩) 16 c'] w fun e w' => e = .returned (.bool true) ∧ Below w.heap.size w w' :=
  (Try.slices_Equal_string g 0 16 c g' 0 16 c' (firsts f 16) (firsts f 16) w (by rw [firsts_length]; exact Nat.le_refl _) (by rw [firsts_length]; exact Nat.le_refl _) (by decide) (by decide) (texts_at h1) (texts_at h2)).mono
    fun e w' ⟨he, q, hq⟩ => ⟨by rw [he]; simp, by rw [hq]; exact ⟨rfl, rfl, rfl, Nat.le_refl _, fun _ _ => rfl⟩⟩
theorem clone_rows {w : World} {B g c : Nat} {f : Files} (h : w.ownsRow B 9 1 (.slice (some ⟨g, 0, none⟩) 16 c) 16 ((firsts f 16).map Value.string)) :
    Calls Try.prog 28 #[.slice (some ⟨g, 0, none⟩) 16 c] w fun e w' => ∃ v', e = .returned v' ∧ w'.ownsRow w.heap.size 9 1 v' 16 ((firsts f 16).map Value.string) ∧ Below w.heap.size w w' :=
  (Try.slices_Clone_string g 0 16 c (firsts f 16) w (by rw [firsts_length]; exact Nat.le_refl _) (by decide) (texts_at h)).mono
    fun e w' ⟨v', he, ho, _, hb⟩ => ⟨v', he, by rwa [List.take_of_length_le (by rw [firsts_length]; exact Nat.le_refl _)] at ho, hb⟩

/-- A call's cells in the row of calls. -/
theorem calls_get (ops : List Opn) {q : Nat} {p : Opn} (h : ops[q]? = some p) {j : Nat} (hj : j < 5) : (ops.flatMap Opn.cells)[q * 5 + j]? = p.cells[j]? := by
  induction ops generalizing q with
  | nil => simp at h
  | cons o ops ih =>
    rw [List.flatMap_cons]
    cases q with
    | zero =>
      simp at h
      subst h
      rw [Nat.zero_mul, Nat.zero_add, List.getElem?_append_left (by simp [Opn.cells]; omega)]
    | succ q =>
      rw [List.getElem?_append_right (by simp [Opn.cells]; omega)]
      have e : (q + 1) * 5 + j - o.cells.length = q * 5 + j := by
        have : o.cells.length = 5 := rfl
        omega
      rw [e]
      exact ih (by simpa using h)
theorem call_at {w : World} {B g c : Nat} {ops : List Opn} (h : w.ownsRow B 41 5 (.slice (some ⟨g, 0, none⟩) ops.length c) ops.length (ops.flatMap Opn.cells)) {q : Nat} {p : Opn} (hp : ops[q]? = some p) :
    w.rangeAt g (q * 5) p.cells := fun j v hj => by
  have hlt : j < 5 := (List.getElem?_eq_some_iff.1 hj).1
  exact row_cell h (by rw [calls_get ops hp hlt]; exact hj)

/-- Behind the crash. -/
structure KCr (w : World) (F : Nat → Prop) (d : Nat) (x : D) (sts : List Files) (vs : List Value) (ops : List Opn) (u v : Value) (wr : World) : Prop where
  disk : IsDisk wr F d x
  lo : ∀ k, F k → w.heap.size ≤ k
  below : Below w.heap.size w wr
  mem : Mem w.heap.size F wr u v vs sts ops
/-- What is wanted stands beside the disk. -/
structure KEnd (w : World) (F : Nat → Prop) (d : Nat) (x : D) (f : Files) (c : Value) (wr : World) : Prop where
  disk : IsDisk wr F d x
  lo : ∀ k, F k → w.heap.size ≤ k
  below : Below w.heap.size w wr
  want : Row16 w.heap.size F wr c f
section
variable {w wr w' : World} {F : Nat → Prop} {d : Nat} {x x2 : D} {vs : List Value} {sts : List Files} {ops : List Opn} {u v c : Value} {f : Files}
theorem KIn.crashed (h : KIn w F d x vs ops u v wr) (hp : Post F d x2 wr w') : KCr w (Grow F wr w') d x2 (states x) vs ops u v w' :=
  ⟨hp.disk, grow_lo h.lo h.below.size, h.below.trans (hp.only.below h.below.size h.lo), h.mem.only hp.only⟩
theorem KCr.on (h : KCr w F d x sts vs ops u v wr) (hb : Below wr.heap.size wr w') : KCr w F d x sts vs ops u v w' :=
  ⟨h.disk.below hb, h.lo, h.below.trans (hb.mono h.below.size), h.mem.below hb⟩
/-- A state's row. -/
theorem KCr.state {g n cap : Nat} (h : KCr w F d x sts vs ops (.slice (some ⟨g, 0, none⟩) n cap) v wr) (hn : n = sts.length) {q : Nat} (hq : sts[q]? = some f) :
    ∃ gy cy, wr.cell? ⟨g, q, none⟩ = some (.slice (some ⟨gy, 0, none⟩) 16 cy) ∧ wr.ownsRow w.heap.size 9 1 (.slice (some ⟨gy, 0, none⟩) 16 cy) 16 ((firsts f 16).map Value.string) := by
  obtain ⟨y, hy, hr⟩ := h.mem.each q f hq
  obtain ⟨gy, cy, rfl⟩ := row_form hr.1
  have hst := h.mem.st
  rw [← hn] at hst
  exact ⟨gy, cy, row_cell hst hy, hr.1⟩
theorem KCr.cloned (h : KCr w F d x sts vs ops u v wr) (hb : Below wr.heap.size wr w') (hr : w'.ownsRow wr.heap.size 9 1 c 16 ((firsts f 16).map Value.string)) : KEnd w F d x f c w' :=
  ⟨h.disk.below hb, h.lo, h.below.trans (hb.mono h.below.size), own_mono hr h.below.size, off_new hr fun k hk => h.disk.lt hk⟩
theorem KEnd.on (h : KEnd w F d x f c wr) (hb : Below wr.heap.size wr w') : KEnd w F d x f c w' :=
  ⟨h.disk.below hb, h.lo, h.below.trans (hb.mono h.below.size), h.want.below hb⟩
theorem KEnd.stored {g cap : Nat} (h : KEnd w F d x f (.slice (some ⟨g, 0, none⟩) 16 cap) wr) {i : Nat} (hi : i < 16) (s : ByteArray) :
    KEnd w F d x (upd f i s) (.slice (some ⟨g, 0, none⟩) 16 cap) (wr.setCell ⟨g, i, none⟩ (.string s)) := by
  have hg := (own_lt h.want.1 (g := g) rfl)
  exact ⟨h.disk.frame (fun k hk => heap_setCell_other wr _ k _ fun e => h.want.2 g rfl (by
      have : k = g := e
      rw [← this]; exact hk)) (by simp), h.lo, h.below.setCell hg.2.1 _, row_store h.want.1 hi s, h.want.2⟩
theorem KEnd.crashed (h : KEnd w F d x f c wr) (hp : Post F d x2 wr w') : KEnd w (Grow F wr w') d x2 f c w' :=
  ⟨hp.disk, grow_lo h.lo h.below.size, h.below.trans (hp.only.below h.below.size h.lo), own_only h.want.1 hp.only h.want.2, off_grow h.want.1 h.want.2⟩
end
theorem KIn.forms {w wr : World} {F : Nat → Prop} {d : Nat} {x : D} {vs : List Value} {ops : List Opn} {u v : Value} (h : KIn w F d x vs ops u v wr) : ∃ gu N cu av cv, u = .slice (some ⟨gu, 0, none⟩) N cu ∧ N = ops.length + 1 ∧ (states x).length = N ∧ v = .slice av ops.length cv := by
  obtain ⟨gu, cu, hu⟩ := own_form' h.mem.st (by rw [states_length]; omega)
  obtain ⟨av, cv, hv⟩ := own_form h.mem.op
  exact ⟨gu, _, cu, av, cv, hu, by rw [states_length, h.mats.1], rfl, hv⟩
theorem crash_loose {w : World} {F : Nat → Prop} {d : Nat} {x : D} {n m : Int} (h : IsDisk w F d (x.crash n m)) : Calls Try.prog 20 #[ptr d 0] w fun e w' => e = .returned (.int .i64 0) ∧ w = w' := loose_at h
theorem crash_on {w : World} {F : Nat → Prop} {d : Nat} {x : D} {n m : Int} (h : IsDisk w F d (x.crash n m)) : Calls Try.prog 19 #[ptr d 0] w fun e w' => e = .returned (.bool true) ∧ w = w' := on_at h
theorem crash_room (x : D) (hx : x.Ok) (q : Nat) (i : Nat) (hi : i < 16) : (run x.sure (x.loose.take q) i).size ≤ 4194304 := by
  have h1 := total_run (okRun_take hx.run q) hx.total
  have h2 := le_total (run x.sure (x.loose.take q)) hi
  have := hx.room2
  omega
/-- The text of an Append that was done is no larger than a disk. -/
theorem mat_size {x : D} (hx : x.Ok) {ops : List Opn} (hm : Mats ops x.loose) {q : Nat} {p : Opn} (hp : ops[q]? = some p) (hk : p.kind = 0) : p.s.size ≤ 4194304 := by
  have hl := hm.1
  have hlt := (List.getElem?_eq_some_iff.1 hp).1
  obtain ⟨c, hc⟩ : ∃ c, x.loose[q]? = some c := ⟨_, List.getElem?_eq_getElem (by omega)⟩
  have h1 := hm.2 _ _ _ hp hc
  have h2 := okRun_get hx.run hc
  have h3 := hx.room2
  cases c with
  | app i s =>
    obtain ⟨_, _, _, rfl⟩ := h1
    have := h2.2
    omega
  | cut i n => exact absurd hk h1
  | mov a b => exact absurd hk h1
end Go.Proofs.Ytdajpaigahhhcaa.dsk
