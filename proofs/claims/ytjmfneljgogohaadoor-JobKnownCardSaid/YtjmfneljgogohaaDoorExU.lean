/- What Same knows of the pairs that it has met and of those that are left. -/
import Derived.Test.YtjmfneljgogohaaDoorExR
namespace Go.Proofs.YtjmfneljgogohaaDoor.exp
set_option linter.unusedSimpArgs false
set_option linter.unusedVariables false
open Go.RowKit nam

/-- Two places, and what lies there. -/
structure Pq where
  a : Nat
  b : Nat
  c : Nat
  d : Nat
  x : Ex
  y : Ex
def Pq.key (p : Pq) : Addr × Addr := (⟨p.a, p.b, none⟩, ⟨p.c, p.d, none⟩)
def Pq.cells (p : Pq) : List Value := [.pointer (some ⟨p.a, p.b, none⟩), .pointer (some ⟨p.c, p.d, none⟩)]
def Pq.in (W : World) (p : Pq) : Prop := At W Any p.a p.b p.x ∧ At W Any p.c p.d p.y
def lsum (l : List Pq) : Nat := (l.map fun p => p.x.size).sum
theorem lsum_snoc (l : List Pq) (p : Pq) : lsum (l ++ [p]) = lsum l + p.x.size := by simp [lsum]
theorem lsum_len (l : List Pq) : l.length ≤ lsum l := by
  induction l with
  | nil => simp [lsum]
  | cons p l ih =>
    have := size_pos p.x
    simp only [lsum, List.map_cons, List.sum_cons, List.length_cons] at *
    omega
/-- All of these that are no greater than so are the same. -/
def Eqs (l : List Pq) (s : Nat) : Prop := ∀ e ∈ l, e.x.size ≤ s → e.x = e.y
theorem Eqs.mono {l l' : List Pq} {s s' : Nat} (h : Eqs l s) (hl : ∀ e ∈ l', e ∈ l) (hs : s' ≤ s) : Eqs l' s' := fun e he h1 => h e (hl e he) (by omega)
abbrev Met := Addr × Addr → Option Unit
/-- At the head of each round. -/
structure Out2 (W : World) (x0 y0 : Ex) (l : List Pq) (m : Met) (S : Nat) : Prop where
  ins : ∀ e ∈ l, e.in W
  down : x0 = y0 → ∀ e ∈ l, e.x = e.y
  up : (∀ e ∈ l, e.x = e.y) → x0 = y0
  met : ∀ k u, m k = some u → ∃ p : Pq, p.key = k ∧ p.in W ∧ (Eqs l p.x.size → p.x = p.y)
  mass : lsum l ≤ S
/-- At the head of each inner round: p is gone over, i of its parts are. -/
structure In2 (W : World) (x0 y0 : Ex) (p : Pq) (i : Nat) (l : List Pq) (m : Met) (S : Nat) : Prop where
  ins : ∀ e ∈ l, e.in W
  down : x0 = y0 → (∀ e ∈ l, e.x = e.y) ∧ p.x = p.y
  up : (∀ e ∈ l, e.x = e.y) → p.x = p.y → x0 = y0
  done : ∀ j (h1 : j < p.x.args.length) (h2 : j < p.y.args.length), j < i → Eqs l (p.x.args[j].size) → p.x.args[j] = p.y.args[j]
  met : ∀ k u, m k = some u → ∃ q : Pq, q.key = k ∧ q.in W ∧ (Eqs l q.x.size → (p.x.size ≤ q.x.size → p.x = p.y) → q.x = q.y)
  mass : lsum l + sizes (p.x.args.drop i) + 1 ≤ S
theorem Out2.pop {W : World} {x0 y0 : Ex} {l : List Pq} {p : Pq} {m : Met} {S : Nat} (h : Out2 W x0 y0 (l ++ [p]) m S) : In2 W x0 y0 p 0 l m S := by
  refine ⟨fun e he => h.ins e (by simp [he]), fun h0 => ⟨fun e he => h.down h0 e (by simp [he]), h.down h0 p (by simp)⟩, fun ha hp => h.up fun e he => ?_, fun j _ _ hj => by omega, fun k u hk => ?_, ?_⟩
  · rcases List.mem_append.1 he with h1 | h1
    · exact ha e h1
    · rw [List.mem_singleton.1 h1]; exact hp
  · obtain ⟨q, h1, h2, h3⟩ := h.met k u hk
    refine ⟨q, h1, h2, fun ha hp => h3 fun e he hs => ?_⟩
    rcases List.mem_append.1 he with h4 | h4
    · exact ha e h4 hs
    · rw [List.mem_singleton.1 h4] at hs ⊢; exact hp hs
  · have := h.mass
    rw [lsum_snoc, size_eq p.x] at this
    simp only [List.drop_zero]
    omega
theorem Out2.ne {W : World} {x0 y0 : Ex} {l : List Pq} {p : Pq} {m : Met} {S : Nat} (h : Out2 W x0 y0 (l ++ [p]) m S) (hn : p.x ≠ p.y) : x0 ≠ y0 := fun e => hn (h.down e p (by simp))
theorem sizes_drop {l : List Ex} {i : Nat} (hi : i < l.length) : sizes (l.drop i) = l[i].size + sizes (l.drop (i + 1)) := by
  rw [List.drop_eq_getElem_cons hi, sizes_cons]
/-- A part's pair was met before. -/
theorem In2.skip {W : World} {x0 y0 : Ex} {p : Pq} {i : Nat} {l : List Pq} {m : Met} {S : Nat} (h : In2 W x0 y0 p i l m S) {c : Pq} (hc : c.in W) (h1 : i < p.x.args.length) (h2 : i < p.y.args.length) (hx : c.x = p.x.args[i]) (hy : c.y = p.y.args[i]) {u : Unit} (hm : m c.key = some u) : In2 W x0 y0 p (i + 1) l m S := by
  refine ⟨h.ins, h.down, h.up, fun j g1 g2 hj he => ?_, h.met, ?_⟩
  · by_cases hji : j < i
    · exact h.done j g1 g2 hji he
    · obtain rfl : j = i := by omega
      obtain ⟨q, k1, k2, k3⟩ := h.met _ _ hm
      have e1 : q.x = c.x ∧ q.y = c.y := by
        unfold Pq.key at k1
        simp only [Prod.mk.injEq, Addr.mk.injEq, and_true] at k1
        obtain ⟨⟨a1, a2⟩, a3, a4⟩ := k1
        have q1 := k2.1; have q2 := k2.2
        rw [a1, a2] at q1
        rw [a3, a4] at q2
        exact ⟨q1.det hc.1, q2.det hc.2⟩
      have hsz : p.x.args[j].size < p.x.size := size_arg (List.getElem_mem g1)
      have := k3 (by rw [e1.1, hx]; exact he) (fun hs => by rw [e1.1, hx] at hs; omega)
      rw [← hx, ← hy, ← e1.1, ← e1.2]
      exact this
  · have := h.mass
    rw [sizes_drop h1] at this
    omega
/-- A part's pair is new: it is left for later. -/
theorem In2.push {W : World} {x0 y0 : Ex} {p : Pq} {i : Nat} {l : List Pq} {m : Met} {S : Nat} (h : In2 W x0 y0 p i l m S) {c : Pq} (hc : c.in W) (h1 : i < p.x.args.length) (h2 : i < p.y.args.length) (hx : c.x = p.x.args[i]) (hy : c.y = p.y.args[i]) : In2 W x0 y0 p (i + 1) (l ++ [c]) (upd m c.key ()) S := by
  refine ⟨fun e he => ?_, fun h0 => ⟨fun e he => ?_, (h.down h0).2⟩, fun ha hp => h.up (fun e he => ha e (by simp [he])) hp, fun j g1 g2 hj he => ?_, fun k u hk => ?_, ?_⟩
  · rcases List.mem_append.1 he with h4 | h4
    · exact h.ins e h4
    · rw [List.mem_singleton.1 h4]; exact hc
  · rcases List.mem_append.1 he with h4 | h4
    · exact (h.down h0).1 e h4
    · rw [List.mem_singleton.1 h4, hx, hy]
      have := (h.down h0).2
      simp only [this]
  · by_cases hji : j < i
    · exact h.done j g1 g2 hji (he.mono (fun e he => by simp [he]) (Nat.le_refl _))
    · obtain rfl : j = i := by omega
      rw [← hx, ← hy]
      exact he c (by simp) (by rw [hx]; exact Nat.le_refl _)
  · by_cases hkc : k = c.key
    · subst hkc
      exact ⟨c, rfl, hc, fun he _ => he c (by simp) (Nat.le_refl _)⟩
    · rw [upd_other _ _ hkc] at hk
      obtain ⟨q, k1, k2, k3⟩ := h.met k u hk
      exact ⟨q, k1, k2, fun he hp => k3 (he.mono (fun e he => by simp [he]) (Nat.le_refl _)) hp⟩
  · have := h.mass
    rw [sizes_drop h1] at this
    rw [lsum_snoc, hx]
    omega
/-- All parts were gone over. -/
theorem In2.out {W : World} {x0 y0 : Ex} {p : Pq} {i : Nat} {l : List Pq} {m : Met} {S : Nat} (h : In2 W x0 y0 p i l m S) (hi : p.x.args.length ≤ i) (ho : p.x.op = p.y.op) (hn : p.x.n = p.y.n) (hl : p.x.args.length = p.y.args.length) : Out2 W x0 y0 l m (S - 1) := by
  have hp : ∀ s, p.x.size ≤ s → Eqs l s → p.x = p.y := fun s hs he => Ex.ext' ho hn (List.ext_getElem hl fun j g1 g2 => h.done j g1 g2 (by omega) (he.mono (fun e he => he) (by have := size_arg (List.getElem_mem g1); omega)))
  refine ⟨h.ins, fun h0 => (h.down h0).1, fun ha => h.up ha (hp p.x.size (Nat.le_refl _) fun e he _ => ha e he), fun k u hk => ?_, by have := h.mass; omega⟩
  obtain ⟨q, k1, k2, k3⟩ := h.met k u hk
  exact ⟨q, k1, k2, fun he => k3 he fun hs => hp q.x.size hs he⟩
def pqs (l : List Pq) : List Value := l.flatMap Pq.cells
theorem pqs_len (l : List Pq) : (pqs l).length = l.length * 2 := by
  induction l with
  | nil => rfl
  | cons p l ih =>
    have e : pqs (p :: l) = p.cells ++ pqs l := rfl
    have e2 : p.cells.length = 2 := rfl
    rw [e, List.length_append, e2, ih, List.length_cons]; omega
theorem pqs_snoc (l : List Pq) (p : Pq) : pqs (l ++ [p]) = pqs l ++ p.cells := by simp [pqs]
end Go.Proofs.YtjmfneljgogohaaDoor.exp
