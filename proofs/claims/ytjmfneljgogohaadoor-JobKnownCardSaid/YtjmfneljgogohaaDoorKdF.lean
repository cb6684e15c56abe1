/- A region that fills a map, entry by entry, in whatever order. -/
import Derived.Test.YtjmfneljgogohaaDoorKdA
namespace Go.Proofs.YtjmfneljgogohaaDoor.exp
set_option linter.unusedSimpArgs false
set_option linter.unusedVariables false
open Go.RowKit nam
open Go.ChangeMaps (setBlock heap_setBlock_same heap_setBlock_other)

theorem PM.congr {P : Program} {w : World} {α β : Type} [DecidableEq α] {κ : α → Value} {ν : β → Value} {G : α → Prop} {b : Nat} {m m' : α → Option β} (h : PM κ ν G w b m) (e : ∀ a, m a = m' a) : PM κ ν G w b m' := by
  have : m = m' := funext e
  exact this ▸ h
/-- One more entry. -/
theorem row_step {w : World} {b : Nat} {m : Rw → Option Nat} (h : PM kR vB (fun _ => True) w b m) (a : Rw) (v : Nat) : ∃ w', (Instr.mapUpdate 88 (.map (some b)) (kR a) (vB v)).run Tryd.prog w = .ok () w' ∧ PM kR vB (fun _ => True) w' b (put1 m a v) ∧ Only (fun k => k = b) w w' := by
  obtain ⟨o, h1, h2, es, clock, h3⟩ := h.store (keyR w) (a := a) trivial Tryd.underlying88 v
  exact ⟨_, h1, h2, Only.setBlock h3 o rfl⟩
structure Ent where
  i : Nat
  t : Nat
  k : Rw
  v : Nat
  deriving DecidableEq
def chkA (md : Region.Mode) (ops : Array Oper) (base : Array Bool) (idx : List Nat) : Bool :=
  idx.all fun i => match ops[i]? with
    | some o => o.after.all fun ed => !Region.binds md ed || (base.getD ed.on false && !idx.contains ed.on)
    | none => false
def chkB (md : Region.Mode) (ops : Array Oper) (base : Array Bool) (idx : List Nat) : Bool :=
  (List.range ops.size).all fun i => base.getD i true || idx.contains i || match ops[i]? with
    | some o => idx.all fun j => o.after.any fun ed => Region.binds md ed && ed.on == j
    | none => false
def chkC (base fin : Array Bool) (idx : List Nat) : Bool :=
  fin.size == base.size && (List.range base.size).all (fun i => fin.getD i false == (base.getD i false || idx.contains i)) && idx.all (fun i => decide (i < base.size))
theorem filter_less {p q : Nat → Bool} {i : Nat} : ∀ {l : List Nat}, l.Nodup → i ∈ l → p i = true → q i = false → (∀ j ∈ l, j ≠ i → q j = p j) → (l.filter q).length + 1 = (l.filter p).length
  | x :: l, hn, hi, hp, hq, hh => by
    rw [List.nodup_cons] at hn
    by_cases hx : x = i
    · subst hx
      rw [List.filter_cons_of_neg (by simp [hq]), List.filter_cons_of_pos hp, List.length_cons]
      have : l.filter q = l.filter p := List.filter_congr fun j hj => hh j (by simp [hj]) (fun e => hn.1 (e ▸ hj))
      rw [this]
    · have hil : i ∈ l := by rcases List.mem_cons.1 hi with h | h; exact absurd h.symm hx; exact h
      have ih := filter_less (p := p) (q := q) hn.2 hil hp hq (fun j hj hne => hh j (by simp [hj]) hne)
      have hxx := hh x (by simp) hx
      cases hpx : p x with
      | true => rw [List.filter_cons_of_pos (by rw [hxx]; exact hpx), List.filter_cons_of_pos hpx, List.length_cons, List.length_cons, ih]
      | false => rw [List.filter_cons_of_neg (by rw [hxx, hpx]; simp), List.filter_cons_of_neg (by rw [hpx]; simp), ih]
theorem inj_map {β : Type} {f : Ent → β} : ∀ {l : List Ent}, (l.map f).Nodup → ∀ {x y : Ent}, x ∈ l → y ∈ l → f x = f y → x = y
  | z :: l, hn, x, y, hx, hy, h => by
    rw [List.map_cons, List.nodup_cons] at hn
    rcases List.mem_cons.1 hx with h1 | h1 <;> rcases List.mem_cons.1 hy with h2 | h2
    · rw [h1, h2]
    · exact absurd (by rw [← h1, h]; exact List.mem_map_of_mem h2) hn.1
    · exact absurd (by rw [← h2, ← h]; exact List.mem_map_of_mem h1) hn.1
    · exact inj_map hn.2 h1 h2 h
theorem getD_set_self {l : Array Bool} {i : Nat} {d : Bool} (h : i < l.size) : (l.setIfInBounds i true).getD i d = true := by
  simp [h]
theorem getD_set_other {l : Array Bool} {i j : Nat} {d : Bool} (h : i ≠ j) : (l.setIfInBounds i true).getD j d = l.getD j d := by
  simp [Array.getElem?_setIfInBounds_ne h]
theorem wpAny_fills {md : Region.Mode} {ops : Array Oper} {Q : Exit → Act → World → Prop} {b : Nat} {a : Act} {base fin : Array Bool} {L : List Ent} {T : Rw → Option Nat} {fe : Nat} {W : World}
    (hop : ∀ e ∈ L, ∃ o, ops[e.i]? = some o ∧ o.dst = none ∧ Region.wanted o (yielded ops a.tmps) = true ∧ o.op = .insert 88 (.tmp 1) (.tmp e.t) (.const (vB e.v)) ∧ a.eval (.tmp 1) = .map (some b) ∧ a.eval (.tmp e.t) = kR e.k)
    (hA : chkA md ops base (L.map Ent.i) = true) (hB : chkB md ops base (L.map Ent.i) = true) (hC : chkC base fin (L.map Ent.i) = true) (hU : (L.map Ent.i).all (fun i => !base.getD i true) = true)
    (hn : (L.map Ent.i).Nodup) (hk : (L.map Ent.k).Nodup) (hT : ∀ e ∈ L, T e.k = some e.v) (hT' : ∀ r v, T r = some v → ∃ e ∈ L, e.k = r)
    (hend : ∀ w', PM kR vB (fun _ => True) w' b T → Only (fun k => k = b) W w' → wpAny Tryd.prog md ops Q fe fin a w') :
    PM kR vB (fun _ => True) W b (fun _ => none) → wpAny Tryd.prog md ops Q (fe + L.length) base a W := by
  intro hW
  have key : ∀ (k : Nat) (listed : Array Bool) (w : World), (((L.map Ent.i).filter fun i => !listed.getD i true).length = k) → listed.size = base.size → (∀ i, i ∉ L.map Ent.i → listed[i]? = base[i]?) →
      (∃ S : Rw → Bool, (∀ e ∈ L, S e.k = listed.getD e.i false) ∧ PM kR vB (fun _ => True) w b (fun r => if S r then T r else none)) → Only (fun k => k = b) W w → wpAny Tryd.prog md ops Q (fe + k) listed a w := by
    unfold chkC at hC
    simp only [Bool.and_eq_true, beq_iff_eq, List.all_eq_true, List.mem_range, decide_eq_true_eq] at hC
    obtain ⟨⟨hC1, hC2⟩, hC3⟩ := hC
    intro k
    induction k with
    | zero =>
      intro listed w hc hs ho ⟨S, hS, hpm⟩ hon
      have hall : ∀ i ∈ L.map Ent.i, listed.getD i true = true := fun i hi => by
        rw [List.length_eq_zero_iff, List.filter_eq_nil_iff] at hc
        have := hc i hi
        simpa using this
      have hfin : listed = fin := by
        refine Array.ext (by rw [hs, hC1]) fun i h1 h2 => ?_
        have h3 := hC2 i (by omega)
        rw [Array.getD_eq_getD_getElem?, Array.getElem?_eq_getElem h2, Option.getD_some] at h3
        rw [h3]
        by_cases hi : i ∈ L.map Ent.i
        · have h4 := hall i hi
          rw [Array.getD_eq_getD_getElem?, Array.getElem?_eq_getElem h1, Option.getD_some] at h4
          rw [h4]
          simp [List.contains_iff_mem, hi]
        · have h4 := ho i hi
          rw [Array.getElem?_eq_getElem h1, Array.getElem?_eq_getElem (by omega)] at h4
          have h5 : (L.map Ent.i).contains i = false := by simpa [List.contains_iff_mem] using hi
          rw [h5, Bool.or_false, Array.getD_eq_getD_getElem?, Array.getElem?_eq_getElem (by omega : i < base.size), Option.getD_some]
          exact Option.some.inj h4
      subst hfin
      refine hend w (hpm.congr (P := Tryd.prog) fun r => ?_) hon
      cases ht : T r with
      | none => simp
      | some v =>
        obtain ⟨e, he, rfl⟩ := hT' r v ht
        have h1 := hall e.i (List.mem_map_of_mem he)
        have h2 := hS e he
        have h3 := hC3 e.i (List.mem_map_of_mem he)
        have h4 : listed.getD e.i false = true := by
          rw [Array.getD_eq_getD_getElem?, Array.getElem?_eq_getElem (by omega), Option.getD_some] at h1 ⊢
          exact h1
        simp [h2, h4]
    | succ k ih =>
      intro listed w hc hs ho ⟨S, hS, hpm⟩ hon
      have hne : ∃ j ∈ L.map Ent.i, listed.getD j true = false := by
        have : ((L.map Ent.i).filter fun i => !listed.getD i true) ≠ [] := fun h => by rw [h] at hc; simp at hc
        obtain ⟨j, hj⟩ := List.exists_mem_of_ne_nil _ this
        rw [List.mem_filter] at hj
        exact ⟨j, hj.1, by simpa using hj.2⟩
      obtain ⟨j0, hj0, hj0'⟩ := hne
      have hafter : ∀ i ∈ L.map Ent.i, ∃ o, ops[i]? = some o ∧ ∀ ed ∈ o.after, Region.binds md ed = true → listed.getD ed.on false = true := fun i hi => by
        unfold chkA at hA
        rw [List.all_eq_true] at hA
        have h1 := hA i hi
        cases ho1 : ops[i]? with
        | none => rw [ho1] at h1; cases h1
        | some o =>
          rw [ho1] at h1
          refine ⟨o, rfl, fun ed hed hb => ?_⟩
          have h2 := (Array.all_eq_true'.1 h1) ed hed
          rw [hb] at h2
          simp only [Bool.not_true, Bool.false_or, Bool.and_eq_true, Bool.not_eq_true', List.contains_iff_mem, decide_eq_false_iff_not] at h2
          rw [Array.getD_eq_getD_getElem?, ho ed.on (by simpa using h2.2), ← Array.getD_eq_getD_getElem?]
          exact h2.1
      have hready : ∀ i, i ∈ Region.ready md ops listed → i ∈ L.map Ent.i ∧ listed.getD i true = false := fun i hi => by
        obtain ⟨h1, o, h2, h3⟩ := mem_ready.1 hi
        refine ⟨?_, h1⟩
        apply Classical.byContradiction
        intro hni
        unfold chkB at hB
        rw [List.all_eq_true] at hB
        have h4 := hB i (List.mem_range.2 (Array.getElem?_eq_some_iff.1 h2).1)
        have h5 : base.getD i true = false := by rw [Array.getD_eq_getD_getElem?, ← ho i hni, ← Array.getD_eq_getD_getElem?]; exact h1
        have h6 : (L.map Ent.i).contains i = false := by simpa [List.contains_iff_mem] using hni
        rw [h5, h6, h2] at h4
        simp only [Bool.false_or, List.all_eq_true] at h4
        obtain ⟨ed, hed, hb⟩ := Array.any_eq_true'.1 (h4 j0 hj0)
        simp only [Bool.and_eq_true, beq_iff_eq] at hb
        have h7 := h3 ed hed hb.1
        rw [hb.2] at h7
        have h8 := hC3 j0 hj0
        rw [Array.getD_eq_getD_getElem?, Array.getElem?_eq_getElem (by omega), Option.getD_some] at h7 hj0'
        rw [hj0'] at h7
        cases h7
      rw [show fe + (k + 1) = (fe + k) + 1 from rfl]
      refine ⟨fun h => ?_, fun i hi => ?_⟩
      · have : j0 ∈ Region.ready md ops listed := by
          obtain ⟨o, h1, h2⟩ := hafter j0 hj0
          exact mem_ready.2 ⟨hj0', o, h1, h2⟩
        rw [h] at this
        cases this
      · obtain ⟨hiL, hiu⟩ := hready i hi
        obtain ⟨e, he, rfl⟩ := List.mem_map.1 hiL
        obtain ⟨o, h1, h2, h3, h4, h5, h6⟩ := hop e he
        obtain ⟨w2, r1, r2, r3⟩ := row_step hpm e.k e.v
        have hlt : e.i < listed.size := by rw [hs]; exact hC3 e.i hiL
        have hrun : (execOp a.eval o).run Tryd.prog w = .ok .skip w2 := by
          obtain ⟨dst, op, ty, pos, af, gd⟩ := o
          simp only at h4
          subst h4
          simp only [execOp, h5, h6, Sem.run_bind]
          rw [show a.eval (.const (vB e.v)) = vB e.v from rfl, r1]
          rfl
        unfold wpOp
        rw [h1]
        show if Region.wanted o (yielded ops a.tmps) = true then _ else _
        rw [if_pos h3]
        refine .inl ?_
        unfold Oper.wp
        rw [hrun]
        show wpAny _ _ _ _ _ _ (a.put o.dst undef) w2
        rw [h2]
        refine ih _ w2 ?_ (by simpa using hs) (fun j hj => ?_) ⟨fun r => S r || r == e.k, fun e' he' => ?_, r2.congr (P := Tryd.prog) fun r => ?_⟩ (hon.then r3)
        · have := filter_less (p := fun i => !listed.getD i true) (q := fun j => !(listed.setIfInBounds e.i true).getD j true) hn hiL (by simpa using hiu) (by rw [getD_set_self hlt]; rfl) (fun j _ hne => by rw [getD_set_other (Ne.symm hne)])
          omega
        · have hne : e.i ≠ j := fun h => hj (h ▸ hiL)
          rw [Array.getElem?_setIfInBounds_ne hne]
          exact ho j hj
        · by_cases hee : e' = e
          · subst hee
            rw [getD_set_self hlt]
            simp
          · have hne : e.i ≠ e'.i := fun h => hee ((inj_map hn he' he h.symm))
            have hke : e'.k ≠ e.k := fun h => hee ((inj_map hk he' he h))
            rw [getD_set_other hne, ← hS e' he']
            simp [hke]
        · unfold put1
          by_cases hr : r = e.k
          · subst hr
            simp [hT e he]
          · simp [hr]
  have h0 := key L.length base W (by
    rw [List.filter_eq_self.2 fun i hi => (List.all_eq_true.1 hU) i hi, List.length_map]) rfl (fun _ _ => rfl) ⟨fun _ => false, fun e he => ?_, by simpa using hW⟩ (Only.refl _ _)
  · exact h0
  · have h1 := List.all_eq_true.1 hU e.i (List.mem_map_of_mem he)
    unfold chkC at hC
    simp only [Bool.and_eq_true, beq_iff_eq, List.all_eq_true, List.mem_range, decide_eq_true_eq] at hC
    have h2 := hC.2 e.i (List.mem_map_of_mem he)
    simp only [Bool.not_eq_true', Array.getD_eq_getD_getElem?, Array.getElem?_eq_getElem h2, Option.getD_some] at h1 ⊢
    rw [h1]
end Go.Proofs.YtjmfneljgogohaaDoor.exp
