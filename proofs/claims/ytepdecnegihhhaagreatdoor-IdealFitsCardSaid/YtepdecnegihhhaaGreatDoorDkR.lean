/- A region that draws its order and ends in one operation for which all others are waited: that one is walked behind the others. -/
import Derived.Orders
import Derived.Tactics
import Derived.RegionTactic
set_option linter.unusedSimpArgs false
set_option linter.unusedVariables false
namespace Go.Proofs.YtepdecnegihhhaaGreatDoor.dsk
def Peeled (P : Program) (ops : Array Oper) (o : Oper) (Q : Exit → Act → World → Prop) : Exit → Act → World → Prop
 | .normal, a, w => wpList P ops Q [o] a w
 | e, a, w => Q e a w
def peels (l : List Oper) (o : Oper) : Bool :=
 ((List.range (l.length + 1)).all fun j => (((l ++ [o])[j]?).map fun p => (p.after.all fun e => !Region.binds .any e || decide (e.on < j)) && (match p.guard with | none => true | some (g, _) => decide (g < l.length))).getD true) &&
 ((List.range l.length).all fun i => (List.range (l.length + 1)).any fun j => decide (i < j) && (((l ++ [o])[j]?).map fun p => p.after.any fun e => Region.binds .any e && e.on == i).getD false)
section
variable {P : Program} {Q : Exit → Act → World → Prop} {l : List Oper} {o : Oper}
structure Peels (l : List Oper) (o : Oper) : Prop where
 older : ∀ (j : Nat) (p : Oper), (l ++ [o])[j]? = some p → ∀ e ∈ p.after, Region.binds .any e = true → e.on < j
 guard : ∀ (j : Nat) (p : Oper) (g : Nat) (b : Bool), (l ++ [o])[j]? = some p → p.guard = some (g, b) → g < l.length
 led : ∀ i, i < l.length → ∃ (j : Nat) (p : Oper), i < j ∧ (l ++ [o])[j]? = some p ∧ ∃ e ∈ p.after, Region.binds .any e = true ∧ e.on = i
theorem Peels.of (h : peels l o = true) : Peels l o := by
 unfold peels at h
 rw [Bool.and_eq_true, List.all_eq_true, List.all_eq_true] at h
 obtain ⟨h1, h2⟩ := h
 have hj : ∀ j p, (l ++ [o])[j]? = some p → j ∈ List.range (l.length + 1) := fun j p hp => by
  have := (List.getElem?_eq_some_iff.1 hp).1
  rw [List.length_append] at this
  exact List.mem_range.2 this
 refine ⟨fun j p hp e he hb => ?_, fun j p g b hp hg => ?_, fun i hi => ?_⟩
 · have := h1 j (hj j p hp)
   rw [hp] at this
   simp only [Option.map_some, Option.getD_some, Bool.and_eq_true, Array.all_eq_true_iff_forall_mem] at this
   have h3 := this.1 e he
   rw [hb] at h3
   simpa using h3
 · have := h1 j (hj j p hp)
   rw [hp] at this
   simp only [Option.map_some, Option.getD_some, Bool.and_eq_true, hg] at this
   simpa using this.2
 · have := h2 i (List.mem_range.2 hi)
   rw [List.any_eq_true] at this
   obtain ⟨j, _, h4⟩ := this
   rw [Bool.and_eq_true] at h4
   cases hp : (l ++ [o])[j]? with
   | none => rw [hp] at h4; simp at h4
   | some p =>
    rw [hp] at h4
    simp only [Option.map_some, Option.getD_some, Array.any_eq_true', Bool.and_eq_true, beq_iff_eq, decide_eq_true_eq] at h4
    obtain ⟨h5, e, he, hb, hon⟩ := h4
    exact ⟨j, p, h5, hp, e, he, hb, hon⟩
theorem get_init {j : Nat} (h : j < l.length) : (l ++ [o])[j]? = l[j]? := List.getElem?_append_left h
theorem get_last : (l ++ [o])[l.length]? = some o := by rw [List.getElem?_append_right (Nat.le_refl _)]; simp
structure Rel (l : List Oper) (L L' : Array Bool) : Prop where
 size : L.size = l.length + 1
 size' : L'.size = l.length
 same : ∀ i, i < l.length → L[i]? = L'[i]?
 last : L[l.length]? = some false
theorem Rel.set {L L' : Array Bool} (h : Rel l L L') {i : Nat} (hi : i < l.length) : Rel l (L.setIfInBounds i true) (L'.setIfInBounds i true) := by
 refine ⟨by simpa using h.size, by simpa using h.size', fun j hj => ?_, ?_⟩
 · rw [Array.getElem?_setIfInBounds, Array.getElem?_setIfInBounds]
   by_cases e : i = j
   · subst e; simp [h.size, h.size', hi]; omega
   · rw [if_neg e, if_neg e]; exact h.same j hj
 · rw [Array.getElem?_setIfInBounds, if_neg (by omega)]; exact h.last
theorem Rel.getD {L L' : Array Bool} (h : Rel l L L') {i : Nat} (hi : i < l.length) (b : Bool) : L.getD i b = L'.getD i b := by
 rw [Array.getD_eq_getD_getElem?, Array.getD_eq_getD_getElem?, h.same i hi]
def Down (l : List Oper) (L' : Array Bool) : Prop := ∀ (j : Nat) (p : Oper), l[j]? = some p → L'.getD j true = true → ∀ e ∈ p.after, Region.binds .any e = true → L'.getD e.on false = true
theorem ready_init (hp : Peels l o) {L L' : Array Bool} (h : Rel l L L') {i : Nat} (hi : i < l.length) : i ∈ Region.ready .any (l ++ [o]).toArray L ↔ i ∈ Region.ready .any l.toArray L' := by
 rw [mem_ready, mem_ready]
 simp only [List.getElem?_toArray]
 rw [get_init hi, h.getD hi]
 constructor
 · rintro ⟨h1, q, hq, h2⟩
   refine ⟨h1, q, hq, fun e he hb => ?_⟩
   have := hp.older i q (by rw [get_init hi]; exact hq) e he hb
   rw [← h.getD (by omega)]; exact h2 e he hb
 · rintro ⟨h1, q, hq, h2⟩
   refine ⟨h1, q, hq, fun e he hb => ?_⟩
   have := hp.older i q (by rw [get_init hi]; exact hq) e he hb
   rw [h.getD (by omega)]; exact h2 e he hb
theorem getD_true {L : Array Bool} {i : Nat} (hi : i < L.size) (h : L.getD i false = true ∨ L.getD i true = true) : L.getD i true = true ∧ L.getD i false = true := by
 rw [Array.getD_eq_getD_getElem?, Array.getD_eq_getD_getElem?, Array.getElem?_eq_getElem hi] at *
 simp at *; exact h
theorem all_listed (hp : Peels l o) {L' : Array Bool} (hs : L'.size = l.length) (hr : Region.ready .any l.toArray L' = []) : ∀ i, i < l.length → L'.getD i true = true := by
 intro i
 induction i using Nat.strongRecOn with
 | ind i ih =>
  intro hi
  cases hv : L'.getD i true with
  | true => rfl
  | false =>
   exfalso
   have : i ∈ Region.ready .any l.toArray L' := by
    rw [mem_ready]
    refine ⟨hv, l[i], by simp [List.getElem?_eq_getElem hi], fun e he hb => ?_⟩
    have := hp.older i l[i] (by rw [get_init hi, List.getElem?_eq_getElem hi]) e he hb
    exact (getD_true (by omega) (.inr (ih e.on this (by omega)))).2
   rw [hr] at this; cases this
theorem last_all (hp : Peels l o) {L L' : Array Bool} (h : Rel l L L') (hd : Down l L') (hr : l.length ∈ Region.ready .any (l ++ [o]).toArray L) : ∀ i, i < l.length → L'.getD i true = true := by
 obtain ⟨_, q, hq, hall⟩ := mem_ready.1 hr
 simp only [List.getElem?_toArray] at hq
 have key : ∀ k i, i < l.length → l.length - i ≤ k → L'.getD i true = true := by
  intro k
  induction k with
  | zero => intro i hi hk; omega
  | succ k ih =>
   intro i hi _
   obtain ⟨j, p, hij, hj, e, he, hb, hon⟩ := hp.led i hi
   have hjl : j < l.length + 1 := by have := (List.getElem?_eq_some_iff.1 hj).1; simpa using this
   rcases Nat.lt_or_ge j l.length with hlt | hge
   · have h1 := ih j hlt (by omega)
     rw [get_init hlt] at hj
     have h2 := hd j p hj h1 e he hb
     rw [hon] at h2
     exact (getD_true (by have := h.size'; omega) (.inl h2)).1
   · obtain rfl : j = l.length := by omega
     obtain rfl : p = q := by rw [hq] at hj; exact (Option.some.inj hj).symm
     have h2 := hall e he hb
     rw [hon, h.getD hi] at h2
     exact (getD_true (by have := h.size'; omega) (.inl h2)).1
 exact fun i hi => key _ i hi (Nat.le_refl _)
theorem Down.set {L' : Array Bool} (hs : L'.size = l.length) (h : Down l L') {i : Nat} (hi : i ∈ Region.ready .any l.toArray L') : Down l (L'.setIfInBounds i true) := by
 obtain ⟨_, q, hq, hall⟩ := mem_ready.1 hi
 simp only [List.getElem?_toArray] at hq
 intro j p hj hv e he hb
 by_cases e' : j = i
 · subst e'
   obtain rfl : p = q := by rw [hq] at hj; exact (Option.some.inj hj).symm
   exact getD_set_true (hall e he hb)
 · rw [getD_set_ne true (Ne.symm e')] at hv
   exact getD_set_true (h j p hj hv e he hb)
theorem LetsOut.peeled {P : Program} {ops : Array Oper} (h : LetsOut (Peeled P ops o Q)) : LetsOut Q := h
theorem Oper.wp_peeled {P : Program} {ops : Array Oper} {p : Oper} {a : Act} {w : World} {K : Act → World → Prop} (h : p.wp P a w K (Peeled P ops o Q)) : p.wp P a w K Q := by
 unfold Oper.wp at *
 generalize (execOp a.eval p).run P w = r at *
 cases r with
 | ok n w' =>
  cases n <;> simp only [Oper.upon] at h ⊢ <;>
   first
    | exact h
    | exact Calls.mono h (fun e w'' he => by cases e <;> exact he)
 | halt x w' => cases x <;> simp only [Oper.upon] at h ⊢ <;> exact h
theorem wpOp_peeled (hp : Peels l o) {i : Nat} (hi : i < l.length) {a : Act} {w : World} {K : Act → World → Prop} (h : wpOp P l.toArray (Peeled P (l ++ [o]).toArray o Q) i K a w) : wpOp P (l ++ [o]).toArray Q i K a w := by
 unfold wpOp at *
 simp only [List.getElem?_toArray] at h ⊢
 rw [get_init hi, List.getElem?_eq_getElem hi]
 rw [List.getElem?_eq_getElem hi] at h
 simp only at h ⊢
 have hw : Region.wanted l[i] (yielded (l ++ [o]).toArray a.tmps) = Region.wanted l[i] (yielded l.toArray a.tmps) := by
  unfold Region.wanted
  cases hg : l[i].guard with
  | none => rfl
  | some gb =>
   obtain ⟨g, b⟩ := gb
   have hlt := hp.guard i l[i] g b (by rw [get_init hi, List.getElem?_eq_getElem hi]) hg
   have e : yielded (l ++ [o]).toArray a.tmps g = yielded l.toArray a.tmps g := by
    unfold yielded
    simp only [List.getElem?_toArray]
    rw [get_init hlt]
   simp only [e]
 rw [hw]
 split
 · rename_i h1
   rw [if_pos h1] at h
   exact h.imp Oper.wp_peeled (fun ⟨h2, h3⟩ => ⟨h2, LetsOut.peeled h3⟩)
 · rename_i h1
   rw [if_neg h1] at h
   exact h
theorem wpAny_only (hp : Peels l o) {L L' : Array Bool} (h : Rel l L L') (hall : ∀ i, i < l.length → L'.getD i true = true) (fuel : Nat) {a : Act} {w : World} (hw : wpList P (l ++ [o]).toArray Q [o] a w) : wpAny P .any (l ++ [o]).toArray Q (fuel + 1) L a w := by
 have hall' : ∀ i, i < l.length → L.getD i false = true := fun i hi => by
  rw [h.getD hi]; exact (getD_true (by have := h.size'; omega) (.inr (hall i hi))).2
 have hn : l.length ∈ Region.ready .any (l ++ [o]).toArray L := by
  rw [mem_ready]
  refine ⟨by rw [Array.getD_eq_getD_getElem?, h.last]; rfl, o, by simp only [List.getElem?_toArray]; exact get_last, fun e he hb => ?_⟩
  exact hall' _ (hp.older _ o get_last e he hb)
 have honly : ∀ i, i ∈ Region.ready .any (l ++ [o]).toArray L → i = l.length := fun i hi => by
  obtain ⟨h1, q, hq, _⟩ := mem_ready.1 hi
  simp only [List.getElem?_toArray] at hq
  have hlt : i < l.length + 1 := by have := (List.getElem?_eq_some_iff.1 hq).1; simpa using this
  rcases Nat.lt_or_ge i l.length with h2 | h2
  · rw [h.getD h2, hall i h2] at h1; cases h1
  · omega
 have hdone : Region.ready .any (l ++ [o]).toArray (L.setIfInBounds l.length true) = [] := by
  refine List.eq_nil_iff_forall_not_mem.2 fun i hi => ?_
  obtain ⟨h1, q, hq, _⟩ := mem_ready.1 hi
  simp only [List.getElem?_toArray] at hq
  have hlt : i < l.length + 1 := by have := (List.getElem?_eq_some_iff.1 hq).1; simpa using this
  rcases Nat.lt_or_ge i l.length with h2 | h2
  · rw [getD_set_ne true (by omega), h.getD h2, hall i h2] at h1; cases h1
  · obtain rfl : i = l.length := by omega
    rw [Array.getD_eq_getD_getElem?, Array.getElem?_setIfInBounds, if_pos rfl, if_pos (by have := h.size; omega)] at h1
    cases h1
 refine ⟨fun h0 => (by rw [h0] at hn; cases hn), fun i hi => ?_⟩
 obtain rfl := honly i hi
 have step : wpOp P (l ++ [o]).toArray Q l.length (fun a w => Q .normal a w) a w := by
  unfold wpOp
  simp only [List.getElem?_toArray]
  rw [get_last]
  exact hw
 exact wpOp_mono (fun a' w' hq => wpAny_done hdone hq fuel) step
theorem wpAny_peel (hp : Peels l o) : ∀ (fuel : Nat) (L L' : Array Bool) (a : Act) (w : World), Rel l L L' → Down l L' →
  wpAny P .any l.toArray (Peeled P (l ++ [o]).toArray o Q) fuel L' a w → wpAny P .any (l ++ [o]).toArray Q (fuel + 1) L a w := by
 intro fuel
 induction fuel with
 | zero =>
  intro L L' a w h _ H
  exact wpAny_only hp h (all_listed hp h.size' H.1) 0 H.2
 | succ fuel ih =>
  intro L L' a w h hd H
  by_cases he : Region.ready .any l.toArray L' = []
  · exact wpAny_only hp h (all_listed hp h.size' he) _ (H.1 he)
  · have hlt : ∀ i, i ∈ Region.ready .any (l ++ [o]).toArray L → i < l.length := fun i hi => by
     obtain ⟨_, q, hq, _⟩ := mem_ready.1 hi
     simp only [List.getElem?_toArray] at hq
     have hl : i < l.length + 1 := by have := (List.getElem?_eq_some_iff.1 hq).1; simpa using this
     rcases Nat.lt_or_ge i l.length with h2 | h2
     · exact h2
     · exfalso
       obtain rfl : i = l.length := by omega
       have hall := last_all hp h hd hi
       apply he
       refine List.eq_nil_iff_forall_not_mem.2 fun k hk => ?_
       obtain ⟨h1, q', hq', _⟩ := mem_ready.1 hk
       simp only [List.getElem?_toArray] at hq'
       have hkl : k < l.length := (List.getElem?_eq_some_iff.1 hq').1
       rw [hall k hkl] at h1; cases h1
    refine ⟨fun h0 => ?_, fun i hi => ?_⟩
    · exfalso
      apply he
      refine List.eq_nil_iff_forall_not_mem.2 fun k hk => ?_
      obtain ⟨_, q', hq', _⟩ := mem_ready.1 hk
      simp only [List.getElem?_toArray] at hq'
      have hkl : k < l.length := (List.getElem?_eq_some_iff.1 hq').1
      have := (ready_init hp h hkl).2 hk
      rw [h0] at this; cases this
    · have hil := hlt i hi
      have hi' := (ready_init hp h hil).1 hi
      exact wpOp_peeled hp hil (wpOp_mono (fun a' w' H' => ih _ _ a' w' (h.set hil) (hd.set h.size' hi') H') (H.2 i hi'))
theorem wp_region_peel {id : Nat} {a : Act} {w : World} {ops : Array Oper} (hm : P.follows .mixedOrders = true) (hops : ops.toList = l ++ [o]) (hp : peels l o = true)
  (h : wpAny P .any l.toArray (Peeled P ops o Q) l.length (Array.replicate l.length false) a w.drew) : (Code.region id ops true).wp P Q a w := by
 obtain rfl : ops = (l ++ [o]).toArray := by rw [← hops]
 refine wp_region_any hm ?_
 have hs : (l ++ [o]).toArray.size = l.length + 1 := by simp
 rw [hs]
 refine wpAny_peel (Peels.of hp) _ _ (Array.replicate l.length false) a _ ⟨by simp, by simp, fun i hi => ?_, ?_⟩ ?_ h
 · rw [Array.getElem?_replicate, Array.getElem?_replicate, if_pos hi, if_pos (by omega)]
 · rw [Array.getElem?_replicate, if_pos (by omega)]
 · intro j p hj hv
   have hjl : j < l.length := (List.getElem?_eq_some_iff.1 hj).1
   rw [Array.getD_eq_getD_getElem?, Array.getElem?_replicate, if_pos hjl] at hv
   cases hv
theorem wp_region_peel2 {id : Nat} {a : Act} {w : World} {ops : Array Oper} {first : List Oper} {o : Oper} (hm : P.follows .mixedOrders = true) (h1 : ops.toList.dropLast = first) (h2 : ops.toList.getLast? = some o) (hp : peels first o = true)
  (h : wpAny P .any first.toArray (Peeled P ops o Q) first.length (Array.replicate first.length false) a w.drew) : (Code.region id ops true).wp P Q a w := by
 refine wp_region_peel hm ?_ hp h
 obtain ⟨hne, he⟩ := List.getLast?_eq_some_iff.1 h2
 rw [← h1, he]; simp
end
end Go.Proofs.YtepdecnegihhhaaGreatDoor.dsk
