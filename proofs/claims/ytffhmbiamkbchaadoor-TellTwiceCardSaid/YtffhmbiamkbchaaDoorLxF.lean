/- What lex.Tokens answers: of every text. -/
import Derived.Test.YtffhmbiamkbchaaDoorLxE
namespace Go.Proofs.YtffhmbiamkbchaaDoor.lex
set_option linter.unusedSimpArgs false
set_option linter.unusedVariables false
open Go.RowKit nam

theorem infoTok : (Tryd.prog.info? 75).map (fun i => (i.zero, i.size, i.bytes)) = some (some (.agg #[.int .u8 0, .string ⟨#[]⟩, .int .i64 0, .int .i64 0]), 4, 40) := by kernel_rfl
theorem cell_four_new (w : World) (x y z u : Value) (t : TypeId) : ∀ j v, [x, y, z, u][j]? = some v → (w.alloc (.cells #[x, y, z, u] t)).cell? ((⟨w.heap.size, 0, none⟩ : Addr).add j) = some v := by
  intro j u' hj
  have hh : (w.alloc (.cells #[x, y, z, u] t)).heap[w.heap.size]? = some (.cells #[x, y, z, u] t (0, 0)) := heap_alloc_new w _
  have hadd : (⟨w.heap.size, 0, none⟩ : Addr).add j = ⟨w.heap.size, 0 + j, none⟩ := Go.WideShapes.add_plain _ 0 j
  rw [hadd, cell_of_row _ w.heap.size (0 + j) _ _ _ hh, Nat.zero_add]
  match j, hj with
  | 0, hj => exact hj
  | 1, hj => exact hj
  | 2, hj => exact hj
  | 3, hj => exact hj

/-- The keeper of the token that may go on. -/
def Keeps (w : World) (B : Nat) (v : Value) (done : List Tok) (k : Value) : Option Tok → Prop
  | none => k = .func (.func 51) #[] #[]
  | some t => ∃ b g cap, B ≤ b ∧ v = .slice (some ⟨g, 0, none⟩) (done.length + 1) cap ∧ k = .func (.func (kf t.kind)) #[] #[.pointer (some ⟨b, 0, none⟩)] ∧ Box w b g (4 * done.length)
theorem Keeps.on {w w' : World} {B : Nat} {v k : Value} {done : List Tok} {cur : Option Tok} (h : Keeps w B v done k cur) (hg : w.grownBy w' v.ownBlock) (ht : Toks w B v (done ++ cur.toList)) : Keeps w' B v done k cur := by
  cases cur with
  | none => exact h
  | some t =>
    obtain ⟨b, g, cap, hB, rfl, hk, hx⟩ := h
    refine ⟨b, g, cap, hB, rfl, hk, ?_⟩
    have hne : b ≠ g := by
      rintro rfl
      rcases ht.2 with ⟨h0, _⟩ | ⟨g', cap', cur, hv, _, hgg, _⟩
      · cases h0
      · simp only [Value.slice.injEq, Option.some.injEq, Addr.mk.injEq, and_true, true_and] at hv
        obtain ⟨rfl, _⟩ := hv
        have h1 : w.heap[b]? = some (.cells #[.pointer (some ⟨b, 4 * done.length, none⟩)] 107 (0, 0)) := hx
        rw [hgg] at h1
        simp only [Option.some.injEq, Obj.cells.injEq] at h1
        exact absurd h1.2.1 (by decide)
    show w'.heap[b]? = _
    rw [hg.block b hx.lt (by simp [Value.ownBlock]; exact hne)]
    exact hx
/-- What the keeper's call leaves. -/
def KPost (w : World) (B : Nat) (v : Value) (done : List Tok) (k : Value) (t0 : Nat) : Goes → Ending → World → Prop
  | .yes t, e, w' => e = .returned (.tuple #[.bool true, .int .i64 0]) ∧ Toks w' B v (done ++ [t]) ∧ Keeps w' B v done k (some t) ∧ w.grownBy w' v.ownBlock
  | .no, e, w' => e = .returned (.tuple #[.bool false, .int .i64 0]) ∧ Below w.heap.size w w'
  | .big, e, w' => e = .returned (.tuple #[.bool false, .int .i64 71]) ∧ Below w.heap.size w w'

theorem none_any (r : Nat) (w : World) : Calls Tryd.prog 51 #[.int .i32 r] w fun e w' => e = .returned (.tuple #[.bool false, .int .i64 0]) ∧ Below w.heap.size w w' := by
  go_enter Tryd.func51, Tryd.ntmps51
  go_wp2
  go_ret2
  exact ⟨rfl, Below.refl _ _⟩
theorem kept_post {w : World} {B g cap : Nat} {done : List Tok} {t : Tok} {k : Value} {p r : Nat} (hw : Wf t p) (hr : okR r) (hk : Keeps w B (.slice (some ⟨g, 0, none⟩) (done.length + 1) cap) done k (some t)) (ht : Toks w B (.slice (some ⟨g, 0, none⟩) (done.length + 1) cap) (done ++ [t])) {e : Ending} {w' : World}
    (h : KeptPost w B g cap done (keepOn t r) e w') : KPost w B (.slice (some ⟨g, 0, none⟩) (done.length + 1) cap) done k p (keepOn t r) e w' := by
  cases hg : keepOn t r with
  | yes t' =>
    rw [hg] at h
    obtain ⟨h1, h2, h3⟩ := h
    refine ⟨h1, h2, ?_, h3⟩
    have hkk := (keepOn_wf hw hr hg).2
    have h4 := hk.on h3 ht
    obtain ⟨b, g', cap', hB, hv, hk', hx⟩ := h4
    exact ⟨b, g', cap', hB, hv, by rw [hkk]; exact hk', hx⟩
  | no => rw [hg] at h; exact h
  | big => rw [hg] at h; exact h
/-- The keeper, called. -/
theorem keep_call {w : World} {B : Nat} {v : Value} {done : List Tok} {cur : Option Tok} {k : Value} {p r : Nat} (hw : WfO cur p) (hp : p ≤ 1000) (hr : okR r) (hk : Keeps w B v done k cur) (ht : Toks w B v (done ++ cur.toList)) :
    ∃ K cp, k = .func (.func K) #[] cp ∧ (∀ args w, (callFunc K args).run Tryd.prog w = .ok (.enter K args) w) ∧ Calls Tryd.prog K (#[.int .i32 r] ++ cp) w (KPost w B v done k p (keepO cur r)) := by
  cases cur with
  | none =>
    exact ⟨_, _, hk, enters_of Tryd.func51 (by kernel_rfl) rfl, none_any r w⟩
  | some t =>
    have hwt := hw t rfl
    have hk2 := hk
    obtain ⟨b, g, cap, hB, rfl, rfl, hx⟩ := hk
    rcases hwt.kind with h1 | h1 | h1
    · refine ⟨79, _, by rw [h1]; rfl, enters_of Tryd.func79 (by kernel_rfl) rfl, ?_⟩
      exact (name1_any h1 hwt hp hr hx ht).mono fun e w' h => kept_post hwt hr hk2 ht h
    · refine ⟨81, _, by rw [h1]; rfl, enters_of Tryd.func81 (by kernel_rfl) rfl, ?_⟩
      exact (number1_any h1 hwt hp hr hx ht).mono fun e w' h => kept_post hwt hr hk2 ht h
    · refine ⟨83, _, by rw [h1]; rfl, enters_of Tryd.func83 (by kernel_rfl) rfl, ?_⟩
      exact (sign1_any h1 hwt hp hr hx ht).mono fun e w' h => kept_post hwt hr hk2 ht h

/-- What Tokens leaves. -/
def TokPost (s : ByteArray) (w : World) (e : Ending) (w' : World) : Prop :=
  ∃ v, e = .returned (.tuple #[v, .int .i64 (toksO s).2.1, .int .i64 (toksO s).2.2]) ∧ Toks w' w.heap.size v (toksO s).1 ∧ Below w.heap.size w w'
theorem tok_post {s : ByteArray} {w w' : World} {v : Value} {l : List Tok} {p : Nat} {c : Int} (h : toksO s = (l, p, c)) (ht : Toks w' w.heap.size v l) (hb : Below w.heap.size w w') :
    TokPost s w (.returned (.tuple #[v, .int .i64 p, .int .i64 c])) w' := ⟨v, by rw [h], by rw [h]; exact ht, hb⟩
theorem toks_nil (w : World) (B : Nat) : Toks w B (.slice none 0 0) [] := World.ownsRow_nil _ _ _ _

/-- What holds at each round's head. -/
structure TokIn (s : ByteArray) (w : World) (u2 u5 : Value) (wr : World) (pos k : Nat) (done : List Tok) (cur : Option Tok) : Prop where
  it : wr.heap[w.heap.size]? = some (.stringIter s pos)
  row : Toks wr w.heap.size u2 (done ++ cur.toList)
  keep : Keeps wr w.heap.size u2 done u5 cur
  below : Below w.heap.size w wr
  all : scan done cur k (rn s pos) = scan [] none 0 (rn s 0)
  left : k + (rn s pos).length = (rn s 0).length
  few : done.length + cur.toList.length ≤ k
  wf : WfO cur k
def TokRel (s : ByteArray) (w : World) (u2 u5 u6 : Value) (wr : World) : Prop := ∃ pos k done cur, TokIn s w u2 u5 wr pos k done cur ∧ u6 = .int .i64 (k : Nat)
theorem tok_start (s : ByteArray) (w : World) : TokRel s w (.slice none 0 0) (.func (.func 51) #[] #[]) (.int .i64 0) (w.iter s 0) :=
  ⟨0, 0, [], none, ⟨World.iter_heap w s 0, toks_nil _ _, rfl, below_iter w s 0, rfl, by omega, Nat.le_refl _, fun t h => by cases h⟩, rfl⟩
/-- The iterator moved on. -/
theorem TokIn.next {s : ByteArray} {w : World} {u2 u5 : Value} {wr : World} {pos k : Nat} {done : List Tok} {cur : Option Tok} (h : TokIn s w u2 u5 wr pos k done cur) (pos' : Nat) :
    Toks (wr.iterAt w.heap.size s pos') w.heap.size u2 (done ++ cur.toList) ∧ Keeps (wr.iterAt w.heap.size s pos') w.heap.size u2 done u5 cur ∧ (wr.iterAt w.heap.size s pos').heap[w.heap.size]? = some (.stringIter s pos') ∧ Below w.heap.size w (wr.iterAt w.heap.size s pos') := by
  refine ⟨own_iterAt h.row h.it _, ?_, Lib.iterAt_heap wr w.heap.size s pos pos' h.it, Lib.below_iterAt h.below (Nat.le_refl _) s _⟩
  have hk := h.keep
  cases cur with
  | none => exact hk
  | some t =>
    obtain ⟨b, g, cap, hB, hv, hk', hx⟩ := hk
    refine ⟨b, g, cap, hB, hv, hk', ?_⟩
    have hne : b ≠ w.heap.size := by
      rintro rfl
      have h1 : wr.heap[w.heap.size]? = some (.cells #[.pointer (some ⟨g, 4 * done.length, none⟩)] 107 (0, 0)) := hx
      rw [h.it] at h1
      cases h1
    show (wr.iterAt w.heap.size s pos').heap[b]? = _
    rw [Lib.iterAt_other _ _ _ _ _ hne]
    exact hx
section
variable {s : ByteArray} {w : World} {u2 u5 : Value} {wr : World} {pos k : Nat} {done : List Tok} {cur : Option Tok}
theorem TokIn.step (h : TokIn s w u2 u5 wr pos k done cur) (hp : pos < s.size) :
    scan done cur k ((Utf8.decode s pos).1 :: rn s (pos + (Utf8.decode s pos).2)) = scan [] none 0 (rn s 0) ∧ k + 1 + (rn s (pos + (Utf8.decode s pos).2)).length = (rn s 0).length := by
  have h1 := h.all
  have h2 := h.left
  rw [rn_step s pos hp] at h1 h2
  rw [List.length_cons] at h2
  exact ⟨h1, by omega⟩
/-- The token goes on. -/
theorem TokIn.yes (h : TokIn s w u2 u5 wr pos k done cur) (hp : pos < s.size) {t : Tok} {w1 : World} (hg : keepO cur (Utf8.decode s pos).1 = .yes t)
    (hrow : Toks w1 w.heap.size u2 (done ++ [t])) (hkeep : Keeps w1 w.heap.size u2 done u5 (some t)) (hgr : (wr.iterAt w.heap.size s (pos + (Utf8.decode s pos).2)).grownBy w1 u2.ownBlock) :
    TokIn s w u2 u5 w1 (pos + (Utf8.decode s pos).2) (k + 1) done (some t) := by
  obtain ⟨n1, n2, n3, n4⟩ := h.next (pos + (Utf8.decode s pos).2)
  obtain ⟨s1, s2⟩ := h.step hp
  rw [scan_yes hg] at s1
  have hsz : w.heap.size < (wr.iterAt w.heap.size s (pos + (Utf8.decode s pos).2)).heap.size := (Array.getElem?_eq_some_iff.1 n3).1
  refine ⟨?_, hrow, hkeep, n4.grown hgr (by omega) (fun j hj => (n1.lt j hj).1), s1, s2, ?_, ?_⟩
  · rw [hgr.block w.heap.size hsz (own_ne_iter n1 n3)]
    exact n3
  · have := h.few
    cases cur with
    | none => cases hg
    | some t0 => simpa using Nat.le_succ_of_le this
  · intro t' ht'
    cases ht'
    cases cur with
    | none => cases hg
    | some t0 => exact (keepOn_wf (h.wf t0 rfl) (decode_ok s pos) hg).1
/-- A blank. -/
theorem TokIn.blank (h : TokIn s w u2 u5 wr pos k done cur) (hp : pos < s.size) {w1 : World} (hg : keepO cur (Utf8.decode s pos).1 = .no) (hbk : blkB (Utf8.decode s pos).1 = true)
    (hb : Below (wr.iterAt w.heap.size s (pos + (Utf8.decode s pos).2)).heap.size (wr.iterAt w.heap.size s (pos + (Utf8.decode s pos).2)) w1) :
    TokIn s w u2 (.func (.func 51) #[] #[]) w1 (pos + (Utf8.decode s pos).2) (k + 1) (done ++ cur.toList) none := by
  obtain ⟨n1, n2, n3, n4⟩ := h.next (pos + (Utf8.decode s pos).2)
  obtain ⟨s1, s2⟩ := h.step hp
  rw [scan_blank hg hbk] at s1
  have hsz : w.heap.size < (wr.iterAt w.heap.size s (pos + (Utf8.decode s pos).2)).heap.size := (Array.getElem?_eq_some_iff.1 n3).1
  refine ⟨by rw [hb.block _ hsz]; exact n3, by simpa using toks_below n1 hb, rfl, n4.trans (hb.mono (by omega)), s1, s2, ?_, fun t ht => by cases ht⟩
  have := h.few
  simp only [Option.toList_none, List.length_nil, List.length_append]
  omega
/-- A token begins. -/
theorem TokIn.beg (h : TokIn s w u2 u5 wr pos k done cur) (hp : pos < s.size) {t : Tok} {w1 w2 w3 : World} {g cap b : Nat} (hg : keepO cur (Utf8.decode s pos).1 = .no) (hbk : blkB (Utf8.decode s pos).1 = false) (hbg : Go.Proofs.YtffhmbiamkbchaaDoor.lex.beg (Utf8.decode s pos).1 k = some t)
    (hb : Below (wr.iterAt w.heap.size s (pos + (Utf8.decode s pos).2)).heap.size (wr.iterAt w.heap.size s (pos + (Utf8.decode s pos).2)) w1) {o : Obj}
    (hgr : (w1.alloc o).grownBy w2 u2.ownBlock) (hrow2 : Toks w2 w.heap.size (.slice (some ⟨g, 0, none⟩) ((done ++ cur.toList).length + 1) cap) (done ++ cur.toList ++ [⟨0, [], 0, k⟩]))
    (hle : w2.heap.size ≤ b) (hx : Box w3 b g (4 * (done ++ cur.toList).length)) (hrow : Toks w3 w.heap.size (.slice (some ⟨g, 0, none⟩) ((done ++ cur.toList).length + 1) cap) (done ++ cur.toList ++ [t])) (hgr3 : w2.grownBy w3 (some g)) :
    TokIn s w (.slice (some ⟨g, 0, none⟩) ((done ++ cur.toList).length + 1) cap) (.func (.func (kf t.kind)) #[] #[.pointer (some ⟨b, 0, none⟩)]) w3 (pos + (Utf8.decode s pos).2) (k + 1) (done ++ cur.toList) (some t) := by
  obtain ⟨n1, n2, n3, n4⟩ := h.next (pos + (Utf8.decode s pos).2)
  obtain ⟨s1, s2⟩ := h.step hp
  rw [scan_beg hg hbk hbg] at s1
  have hsz : w.heap.size < (wr.iterAt w.heap.size s (pos + (Utf8.decode s pos).2)).heap.size := (Array.getElem?_eq_some_iff.1 n3).1
  have n1' := toks_below n1 hb
  have n3' : w1.heap[w.heap.size]? = some (.stringIter s (pos + (Utf8.decode s pos).2)) := by rw [hb.block _ hsz]; exact n3
  have hsz1 := hb.size
  have i2 : w2.heap[w.heap.size]? = some (.stringIter s (pos + (Utf8.decode s pos).2)) := by
    rw [hgr.block w.heap.size (by simp; omega) (own_ne_iter n1' n3'), Below.heap_alloc _ _ _ (by omega)]
    exact n3'
  have i3 : w3.heap[w.heap.size]? = some (.stringIter s (pos + (Utf8.decode s pos).2)) := by
    rw [hgr3.block w.heap.size (Array.getElem?_eq_some_iff.1 i2).1 (own_ne_iter hrow2 i2)]
    exact i2
  have b1 : Below w.heap.size w w1 := n4.trans (hb.mono (by omega))
  have b2 : Below w.heap.size w w2 := (b1.alloc (by omega) _).grown hgr (by simp; omega) (fun j hj => (n1.lt j hj).1)
  have b3 : Below w.heap.size w w3 := b2.grown hgr3 (by have := b2.size; omega) (fun j hj => by cases hj; exact (toks_lt hrow2).1)
  refine ⟨i3, hrow, ⟨b, g, cap, by have := b2.size; omega, rfl, rfl, hx⟩, b3, s1, s2, ?_, fun t' ht' => by cases ht'; exact (beg_wf (decode_ok s pos) hbg).1⟩
  have := h.few
  simp only [Option.toList_some, List.length_singleton, List.length_append]
  omega
end
end Go.Proofs.YtffhmbiamkbchaaDoor.lex
