/- The stable sort of a row. -/
import Derived.Test.YtamdbfkofdjmlaaOpI
namespace Go.Proofs.Ytamdbfkofdjmlaa.opr
set_option linter.unusedSimpArgs false
set_option linter.unusedVariables false
open Go.RowKit
attribute [local go_sem ↓] Go.wp_at_zero Go.wp_at_succ
open Go.Proofs.Ytamdbfkofdjmlaa.tbl (Only lt_of_get)
/-- Every piece of so many is in order, up to a place. -/
def Pcs (s e : Nat) (l : List Rc) : Prop := ∀ q, (q + 1) * s ≤ e → UpR (q * s) ((q + 1) * s) l
structure St1 (w : World) (g o S : Nat) (l : List Rc) (s a : Nat) (c : List Rc) (wr : World) : Prop where
  seg : Seg 0 l.length l c
  pcs : Pcs s a c
  blk : Blk wr g o S c
  only : Only (· = g) w wr
theorem St1.next {w wr w1 : World} {g o S : Nat} {l c r : List Rc} {s q : Nat} (h : St1 w g o S l s (q * s) c wr) (hs : 0 < s) (hl : q * s + s ≤ l.length) (hg : Seg (q * s) (q * s + s) c r) (hu : UpR (q * s) (q * s + s) r) (hB : Blk w1 g o S r) (hO : Only (· = g) wr w1) : St1 w g o S l s (q * s + s) r w1 := by
  refine ⟨h.seg.trans (hg.mono (Nat.zero_le _) hl), fun p hp => ?_, hB, h.only.then hO⟩
  by_cases e : p = q
  · subst e
    rw [Nat.add_mul, Nat.one_mul]; exact hu
  · have hpq : (p + 1) * s ≤ q * s := by
      refine Nat.mul_le_mul_right s ?_
      have : (p + 1) * s ≤ (q + 1) * s := by rw [Nat.add_mul q, Nat.one_mul]; exact hp
      have := Nat.le_of_mul_le_mul_right this hs
      omega
    exact (h.pcs p hpq).seg hg (.inl hpq)
/-- All pieces of so many are in order, the last one too, that may be shorter. -/
structure St2 (w : World) (g o S : Nat) (l : List Rc) (s : Nat) (c : List Rc) (wr : World) : Prop where
  seg : Seg 0 l.length l c
  pcs : ∀ q, UpR (q * s) (min ((q + 1) * s) l.length) c
  blk : Blk wr g o S c
  only : Only (· = g) w wr
theorem St1.last {w wr w1 : World} {g o S : Nat} {l c r : List Rc} {s q : Nat} (h : St1 w g o S l s (q * s) c wr) (hs : 0 < s) (hq : q * s ≤ l.length) (hl : l.length < q * s + s) (hg : Seg (q * s) l.length c r) (hu : UpR (q * s) l.length r) (hB : Blk w1 g o S r) (hO : Only (· = g) wr w1) : St2 w g o S l s r w1 := by
  refine ⟨h.seg.trans (hg.mono (Nat.zero_le _) (Nat.le_refl _)), fun p => ?_, hB, h.only.then hO⟩
  by_cases e : p < q
  · have hpq : (p + 1) * s ≤ q * s := Nat.mul_le_mul_right s e
    rw [show min ((p + 1) * s) l.length = (p + 1) * s by omega]
    exact (h.pcs p hpq).seg hg (.inl hpq)
  · by_cases e2 : p = q
    · subst e2
      rw [show min ((p + 1) * s) l.length = l.length by rw [Nat.add_mul, Nat.one_mul]; omega]
      exact hu
    · have : (q + 1) * s ≤ p * s := Nat.mul_le_mul_right s (by omega)
      rw [Nat.add_mul, Nat.one_mul] at this
      exact UpR.none (by omega) r
theorem St2.end {w wr : World} {g o S : Nat} {l c : List Rc} {s : Nat} (h : St2 w g o S l s c wr) (hs : l.length ≤ s) : c = srt l := by
  have h1 := h.pcs 0
  rw [Nat.zero_mul, Nat.zero_add, Nat.one_mul, show min s l.length = l.length by omega, ← h.seg.len] at h1
  exact srt_of h.seg.same h1.up
/-- Pieces are being led together, two by two. -/
structure St3 (w : World) (g o S : Nat) (l : List Rc) (s q : Nat) (c : List Rc) (wr : World) : Prop where
  seg : Seg 0 l.length l c
  big : ∀ p, p < q → UpR (p * (2 * s)) ((p + 1) * (2 * s)) c
  small : ∀ p, 2 * q ≤ p → UpR (p * s) (min ((p + 1) * s) l.length) c
  blk : Blk wr g o S c
  only : Only (· = g) w wr
theorem St2.three {w wr : World} {g o S : Nat} {l c : List Rc} {s : Nat} (h : St2 w g o S l s c wr) : St3 w g o S l s 0 c wr := ⟨h.seg, fun p hp => by omega, fun p _ => h.pcs p, h.blk, h.only⟩
theorem two_mul_mul (q s : Nat) : q * (2 * s) = 2 * q * s := by rw [← Nat.mul_assoc, Nat.mul_comm q 2]
theorem St3.fst {w wr : World} {g o S : Nat} {l c : List Rc} {s q : Nat} (h : St3 w g o S l s q c wr) (hl : q * (2 * s) + s ≤ l.length) : UpR (q * (2 * s)) (q * (2 * s) + s) c := by
  have h1 := h.small (2 * q) (Nat.le_refl _)
  rw [Nat.add_mul, Nat.one_mul, ← two_mul_mul, show min (q * (2 * s) + s) l.length = q * (2 * s) + s by omega] at h1
  exact h1
theorem St3.snd {w wr : World} {g o S : Nat} {l c : List Rc} {s q b : Nat} (h : St3 w g o S l s q c wr) (hb : b = min (q * (2 * s) + 2 * s) l.length) : UpR (q * (2 * s) + s) b c := by
  have h1 := h.small (2 * q + 1) (by omega)
  rw [show (2 * q + 1) * s = q * (2 * s) + s by rw [Nat.add_mul, Nat.one_mul, two_mul_mul], show (2 * q + 1 + 1) * s = q * (2 * s) + 2 * s by rw [Nat.add_mul, Nat.add_mul, Nat.one_mul, two_mul_mul]; omega, ← hb] at h1
  exact h1
theorem St3.next {w wr w1 : World} {g o S : Nat} {l c r : List Rc} {s q : Nat} (h : St3 w g o S l s q c wr) (hl : q * (2 * s) + 2 * s ≤ l.length) (hg : Seg (q * (2 * s)) (q * (2 * s) + 2 * s) c r) (hu : UpR (q * (2 * s)) (q * (2 * s) + 2 * s) r) (hB : Blk w1 g o S r) (hO : Only (· = g) wr w1) : St3 w g o S l s (q + 1) r w1 := by
  have e : (q + 1) * (2 * s) = q * (2 * s) + 2 * s := by rw [Nat.add_mul, Nat.one_mul]
  refine ⟨h.seg.trans (hg.mono (Nat.zero_le _) hl), fun p hp => ?_, fun p hp => ?_, hB, h.only.then hO⟩
  · by_cases e1 : p = q
    · subst e1; rw [e]; exact hu
    · have hpq : (p + 1) * (2 * s) ≤ q * (2 * s) := Nat.mul_le_mul_right _ (by omega)
      exact (h.big p (by omega)).seg hg (.inl hpq)
  · refine (h.small p (by omega)).seg hg (.inr ?_)
    rw [← e, two_mul_mul]
    exact Nat.mul_le_mul_right s hp
/-- Behind the last pair: what is left is a piece, or none. -/
theorem St3.done {w wr w1 : World} {g o S : Nat} {l c r : List Rc} {s q : Nat} (h : St3 w g o S l s q c wr) (hq : q * (2 * s) ≤ l.length) (hl : l.length < q * (2 * s) + 2 * s) (hg : Seg (q * (2 * s)) l.length c r) (hu : UpR (q * (2 * s)) l.length r) (hB : Blk w1 g o S r) (hO : Only (· = g) wr w1) : St2 w g o S l (2 * s) r w1 := by
  refine ⟨h.seg.trans (hg.mono (Nat.zero_le _) (Nat.le_refl _)), fun p => ?_, hB, h.only.then hO⟩
  by_cases e : p < q
  · have hpq : (p + 1) * (2 * s) ≤ q * (2 * s) := Nat.mul_le_mul_right _ e
    rw [show min ((p + 1) * (2 * s)) l.length = (p + 1) * (2 * s) by omega]
    exact (h.big p e).seg hg (.inl hpq)
  · by_cases e2 : p = q
    · subst e2
      rw [show min ((p + 1) * (2 * s)) l.length = l.length by rw [Nat.add_mul, Nat.one_mul]; omega]
      exact hu
    · have : (q + 1) * (2 * s) ≤ p * (2 * s) := Nat.mul_le_mul_right _ (by omega)
      rw [Nat.add_mul, Nat.one_mul] at this
      exact UpR.none (by omega) r
theorem St3.rest {w wr : World} {g o S : Nat} {l c : List Rc} {s q : Nat} (h : St3 w g o S l s q c wr) (hq : q * (2 * s) ≤ l.length) (hl : l.length ≤ q * (2 * s) + s) (hs : 0 < s) : St2 w g o S l (2 * s) c wr := by
  refine h.done hq (by omega) (Seg.refl _ _ _) ?_ h.blk (Only.refl _ _)
  have h1 := h.small (2 * q) (Nat.le_refl _)
  rw [Nat.add_mul, Nat.one_mul, ← two_mul_mul, show min (q * (2 * s) + s) l.length = l.length by omega] at h1
  exact h1
end Go.Proofs.Ytamdbfkofdjmlaa.opr
