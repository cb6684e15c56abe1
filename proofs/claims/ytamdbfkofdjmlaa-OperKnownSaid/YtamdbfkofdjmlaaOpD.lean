/- One record is put into a run that is in order: plain facts. -/
import Derived.Test.YtamdbfkofdjmlaaOpP
namespace Go.Proofs.Ytamdbfkofdjmlaa.opr
set_option linter.unusedSimpArgs false
set_option linter.unusedVariables false
theorem Rot.id (a m : Nat) (l : List Rc) (h : a ≤ m) : Rot a m m l l := ⟨rfl, fun _ _ => rfl, fun i h1 h2 => by omega, fun i h1 h2 => by rw [Nat.sub_self, Nat.sub_zero]⟩
theorem Rot.id' (m b : Nat) (l : List Rc) (h : m ≤ b) : Rot m m b l l := ⟨rfl, fun _ _ => rfl, fun i h1 h2 => by rw [Nat.sub_self, Nat.add_zero], fun i h1 h2 => by omega⟩
/-- One more step up. -/
theorem Rot.up1 {a k : Nat} {l c : List Rc} (h : Rot a (a + 1) (k + 1) l c) (hak : a ≤ k) (hk : k + 1 < l.length) : Rot a (a + 1) (k + 2) l (swp c k (k + 1)) := by
  have hl := h.len
  have g := fun x => swp_get (l := c) (i := k) (j := k + 1) (by omega) (by omega) x
  refine ⟨(swp_len _ _ _).trans hl, fun i hi => ?_, fun i e1 e2 => ?_, fun i e1 e2 => ?_⟩
  · rw [g, if_neg (by omega), if_neg (by omega)]
    exact h.out i (by omega)
  · rw [g, if_neg (by omega)]
    by_cases e : i = k
    · rw [if_pos e, h.out (k + 1) (by omega)]
      congr 1; omega
    · rw [if_neg e]
      exact h.fst i e1 (by omega)
  · obtain rfl : i = k + 1 := by omega
    rw [g, if_pos rfl, h.snd k (by omega) (by omega)]
    congr 1; omega
theorem Rot.down1 {k m : Nat} {l c : List Rc} (h : Rot (k + 1) m (m + 1) l c) (hkm : k + 1 ≤ m) (hm : m < l.length) : Rot k m (m + 1) l (swp c (k + 1) k) := by
  have hl := h.len
  have g := fun x => swp_get (l := c) (i := k + 1) (j := k) (by omega) (by omega) x
  refine ⟨(swp_len _ _ _).trans hl, fun i hi => ?_, fun i e1 e2 => ?_, fun i e1 e2 => ?_⟩
  · rw [g, if_neg (by omega), if_neg (by omega)]
    exact h.out i (by omega)
  · obtain rfl : i = k := by omega
    rw [g, if_pos rfl, h.fst (i + 1) (by omega) (by omega)]
    congr 1; omega
  · rw [g, if_neg (by omega)]
    by_cases e : i = k + 1
    · rw [if_pos e, h.out k (by omega)]
      congr 1; omega
    · rw [if_neg e]
      exact h.snd i (by omega) e2
theorem one_up {a b i : Nat} {l r : List Rc} (h : UpR (a + 1) b l) (h1 : a + 1 ≤ i) (h2 : i ≤ b) (hb : b ≤ l.length) (hlo : ∀ x y, a + 1 < i → l[a]? = some x → l[i - 1]? = some y → y.1 < x.1) (hhi : ∀ x y, i < b → l[a]? = some x → l[i]? = some y → x.1 ≤ y.1)
    (hr : Rot a (a + 1) i l r) : Seg a b l r ∧ UpR a b r := by
  refine ⟨(hr.seg (by omega) h1 (by omega) (fun p q x y e1 e2 e3 e4 hx hy => ?_)).mono (Nat.le_refl _) h2, fun p q x y e1 e2 e3 hx hy => ?_⟩
  · obtain rfl : p = a := by omega
    have hi : l[i - 1]? = some l[i - 1] := List.getElem?_eq_getElem (by omega)
    have := hlo x _ (by omega) hx hi
    have := h.le (by omega) (show q ≤ i - 1 by omega) (by omega) hy hi
    omega
  · by_cases c1 : p + 1 < i
    · rw [hr.fst p e1 (by omega)] at hx
      by_cases c2 : q + 1 < i
      · rw [hr.fst q (by omega) (by omega)] at hy
        exact h _ _ x y (by omega) (by omega) (by omega) hx hy
      · by_cases c3 : q < i
        · rw [hr.snd q (by omega) c3] at hy
          have hi : l[i - 1]? = some l[i - 1] := List.getElem?_eq_getElem (by omega)
          rw [show q - (i - (a + 1)) = a by omega] at hy
          have := hlo y _ (by omega) hy hi
          have := h.le (i := p + (a + 1 - a)) (by omega) (show p + (a + 1 - a) ≤ i - 1 by omega) (by omega) hx hi
          omega
        · rw [hr.out q (by omega)] at hy
          exact h _ _ x y (by omega) (by omega) e3 hx hy
    · by_cases c3 : p < i
      · rw [hr.snd p (by omega) c3] at hx
        rw [hr.out q (by omega)] at hy
        rw [show p - (i - (a + 1)) = a by omega] at hx
        have hi : l[i]? = some l[i] := List.getElem?_eq_getElem (by omega)
        have := hhi x _ (by omega) hx hi
        have := h.le h1 (show i ≤ q by omega) e3 hi hy
        omega
      · rw [hr.out p (by omega)] at hx
        rw [hr.out q (by omega)] at hy
        exact h _ _ x y (by omega) e2 e3 hx hy
theorem one_down {a m i : Nat} {l r : List Rc} (h : UpR a m l) (h1 : a ≤ i) (h2 : i ≤ m) (hm : m < l.length) (hlo : ∀ x y, a < i → l[m]? = some x → l[i - 1]? = some y → y.1 ≤ x.1) (hhi : ∀ x y, i < m → l[m]? = some x → l[i]? = some y → x.1 < y.1)
    (hr : Rot i m (m + 1) l r) : Seg a (m + 1) l r ∧ UpR a (m + 1) r := by
  refine ⟨(hr.seg h2 (by omega) (by omega) (fun p q x y e1 e2 e3 e4 hx hy => ?_)).mono h1 (Nat.le_refl _), fun p q x y e1 e2 e3 hx hy => ?_⟩
  · obtain rfl : q = m := by omega
    have hi : l[i]? = some l[i] := List.getElem?_eq_getElem (by omega)
    have := hhi y _ (by omega) hy hi
    have := h.le h1 e1 e2 hi hx
    omega
  · by_cases c1 : p < i
    · rw [hr.out p (.inl c1)] at hx
      have hi : l[i - 1]? = some l[i - 1] := List.getElem?_eq_getElem (by omega)
      have hp := h.le e1 (show p ≤ i - 1 by omega) (by omega) hx hi
      by_cases c2 : q < i
      · rw [hr.out q (.inl c2)] at hy
        exact h p q x y e1 e2 (by omega) hx hy
      · by_cases c3 : q = i
        · subst c3
          rw [hr.fst q (by omega) (by omega), show q + (m - q) = m by omega] at hy
          have := hlo y _ (by omega) hy hi
          omega
        · rw [hr.snd q (by omega) e3] at hy
          exact h p _ x y e1 (by omega) (by omega) hx hy
    · by_cases c3 : p = i
      · subst c3
        rw [hr.fst p (by omega) (by omega), show p + (m - p) = m by omega] at hx
        rw [hr.snd q (by omega) e3] at hy
        have hi : l[p]? = some l[p] := List.getElem?_eq_getElem (by omega)
        have := hhi x _ (by omega) hx hi
        have := h.le (j := q - (m + 1 - m)) h1 (by omega) (by omega) hi hy
        omega
      · rw [hr.snd p (by omega) (by omega)] at hx
        rw [hr.snd q (by omega) e3] at hy
        exact h _ _ x y (by omega) (by omega) (by omega) hx hy
/-- The search for a place in a run: what it has told. -/
structure Fnd (s0 r0 s r : Nat) (p : Nat → Prop) : Prop where
  h1 : s0 ≤ s
  h2 : s ≤ r
  h3 : r ≤ r0
  low : s0 < s → p (s - 1)
  high : r < r0 → ¬ p r
theorem Fnd.start {s0 r0 : Nat} (h : s0 ≤ r0) (p : Nat → Prop) : Fnd s0 r0 s0 r0 p := ⟨Nat.le_refl _, h, Nat.le_refl _, fun h => by omega, fun h => by omega⟩
theorem Fnd.up {s0 r0 s r c : Nat} {p : Nat → Prop} (h : Fnd s0 r0 s r p) (h1 : s ≤ c) (h2 : c < r) (hc : p c) : Fnd s0 r0 (c + 1) r p :=
  ⟨by have := h.h1; omega, by omega, h.h3, fun _ => by rw [show c + 1 - 1 = c by omega]; exact hc, h.high⟩
theorem Fnd.down {s0 r0 s r c : Nat} {p : Nat → Prop} (h : Fnd s0 r0 s r p) (h1 : s ≤ c) (h2 : c < r) (hc : ¬ p c) : Fnd s0 r0 s c p :=
  ⟨h.h1, h1, by have := h.h3; omega, h.low, fun _ => hc⟩
end Go.Proofs.Ytamdbfkofdjmlaa.opr
