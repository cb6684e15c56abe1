/- Plain facts: blanks around signs make no difference but to places. No program's run in this file. -/
import Derived.Test.YtnnaejkhbccnaaaExPb
namespace Go.Proofs.Ytnnaejkhbccnaaa.exp
set_option linter.unusedSimpArgs false
set_option linter.unusedVariables false
open lex nam

def spread (L : List Nat) : List Nat := L.flatMap fun r => if lone r then [32, r, 32] else [r]
theorem spread_cons (r : Nat) (L : List Nat) : spread (r :: L) = (if lone r then [32, r, 32] else [r]) ++ spread L := rfl
theorem spread_snoc (L : List Nat) (r : Nat) : spread (L ++ [r]) = spread L ++ (if lone r then [32, r, 32] else [r]) := by simp [spread]
theorem spread_len (L : List Nat) : (spread L).length ≤ 3 * L.length := by
  induction L with
  | nil => simp [spread]
  | cons r L ih =>
    rw [spread_cons, List.length_append, List.length_cons]
    have : (if lone r then [32, r, 32] else [r]).length ≤ 3 := by split <;> simp
    omega
theorem spread_ok {L : List Nat} (h : ∀ r ∈ L, okR r) : ∀ r ∈ spread L, okR r := by
  intro r hr
  obtain ⟨x, h1, h2⟩ := List.mem_flatMap.1 hr
  have h32 : okR 32 := by unfold okR; omega
  have := h x h1
  split at h2
  · simp at h2; rcases h2 with rfl | rfl | rfl <;> assumption
  · simp at h2; rw [h2]; exact this
theorem bare_keep {t t' : Tok} (h : bare t = bare t') (r : Nat) : (match keepOn t r with | .yes x => Goes.yes (bare x) | .no => .no | .big => .big) = (match keepOn t' r with | .yes x => Goes.yes (bare x) | .no => .no | .big => .big) := by
  obtain ⟨k, x, m, q⟩ := t
  obtain ⟨k', x', m', q'⟩ := t'
  unfold bare at h
  simp only [Tok.mk.injEq, and_true] at h
  obtain ⟨rfl, rfl, rfl⟩ := h
  unfold keepOn
  simp only []
  by_cases h1 : k = 1
  · rw [if_pos h1, if_pos h1]
    by_cases h2 : letB r = true
    · rw [if_pos h2, if_pos h2]; rfl
    · rw [if_neg h2, if_neg h2]
  rw [if_neg h1, if_neg h1]
  by_cases h2 : k = 2
  · rw [if_pos h2, if_pos h2]
    by_cases h3 : digB r = true
    · rw [if_pos h3, if_pos h3]
      by_cases h4 : (9223372036854775807 - (r - 48)) / 10 < m
      · rw [if_pos h4, if_pos h4]
      · rw [if_neg h4, if_neg h4]; rfl
    · rw [if_neg h3, if_neg h3]
  rw [if_neg h2, if_neg h2]
  by_cases h3 : x ++ [r] = [33, 61] ∨ x ++ [r] = [60, 61]
  · rw [if_pos h3, if_pos h3]; rfl
  · rw [if_neg h3, if_neg h3]
def bareO (C : Option Tok) : Option Tok := C.map bare
theorem bare_keepO {C C' : Option Tok} (h : bareO C = bareO C') (r : Nat) : (match keepO C r with | .yes x => Goes.yes (bare x) | .no => .no | .big => .big) = (match keepO C' r with | .yes x => Goes.yes (bare x) | .no => .no | .big => .big) := by
  cases C with
  | none => cases C' with
    | none => rfl
    | some t => cases h
  | some t => cases C' with
    | none => cases h
    | some t' => injection h with h; exact bare_keep h r
theorem bare_beg (r p p' : Nat) : (beg r p).map bare = (beg r p').map bare := by
  unfold beg
  split
  · rfl
  · split
    · rfl
    · split <;> rfl
theorem bares_opt {D D' : List Tok} {C C' : Option Tok} (hD : bares D = bares D') (hC : bareO C = bareO C') : bares (D ++ C.toList) = bares (D' ++ C'.toList) := by
  rw [bares_app, bares_app, hD]
  congr 1
  cases C with
  | none => cases C' with
    | none => rfl
    | some t => cases hC
  | some t => cases C' with
    | none => cases hC
    | some t' => injection hC with hC; show [bare t] = [bare t']; rw [hC]
theorem scan_spread : ∀ (L : List Nat) (D D' : List Tok) (C C' : Option Tok) (p p' : Nat), bares D = bares D' → bareO C = bareO C' →
    (scan D C p L).2.2 = (scan D' C' p' (spread L)).2.2 ∧ bares (scan D C p L).1 = bares (scan D' C' p' (spread L)).1
  | [], D, D', C, C', p, p', hD, hC => ⟨rfl, bares_opt hD hC⟩
  | r :: L, D, D', C, C', p, p', hD, hC => by
    rw [spread_cons]
    by_cases hl : lone r = true
    · rw [if_pos hl]
      show _ = (scan D' C' p' (32 :: r :: 32 :: spread L)).2.2 ∧ _ = bares (scan D' C' p' (32 :: r :: 32 :: spread L)).1
      rw [scan_lone hl D C p L, scan_space, scan_lone hl, scan_space]
      refine scan_spread L _ _ _ _ _ _ ?_ rfl
      show bares (D ++ C.toList ++ [⟨3, [r], 0, p⟩]) = bares (D' ++ C'.toList ++ [] ++ [⟨3, [r], 0, p' + 1⟩] ++ [])
      rw [List.append_nil, List.append_nil, bares_app, bares_app (D' ++ C'.toList), bares_opt hD hC]
      rfl
    · rw [if_neg hl]
      show _ = (scan D' C' p' (r :: spread L)).2.2 ∧ _ = bares (scan D' C' p' (r :: spread L)).1
      have hk := bare_keepO hC r
      cases h1 : keepO C r with
      | yes t =>
        cases h2 : keepO C' r with
        | yes t' =>
          rw [h1, h2] at hk
          injection hk with hk
          rw [scan_yes h1, scan_yes h2]
          exact scan_spread L _ _ _ _ _ _ hD (congrArg some hk)
        | no => rw [h1, h2] at hk; cases hk
        | big => rw [h1, h2] at hk; cases hk
      | big =>
        cases h2 : keepO C' r with
        | yes t' => rw [h1, h2] at hk; cases hk
        | no => rw [h1, h2] at hk; cases hk
        | big => rw [scan_big h1, scan_big h2]; exact ⟨rfl, rfl⟩
      | no =>
        cases h2 : keepO C' r with
        | yes t' => rw [h1, h2] at hk; cases hk
        | big => rw [h1, h2] at hk; cases hk
        | no =>
          by_cases hb : blkB r = true
          · rw [scan_blank h1 hb, scan_blank h2 hb]
            exact scan_spread L _ _ _ _ _ _ (bares_opt hD hC) rfl
          · have hb' : blkB r = false := by simpa using hb
            have hg := bare_beg r p p'
            cases g1 : beg r p with
            | none =>
              cases g2 : beg r p' with
              | none => rw [scan_bad h1 hb' g1, scan_bad h2 hb' g2]; exact ⟨rfl, rfl⟩
              | some t => rw [g1, g2] at hg; cases hg
            | some t =>
              cases g2 : beg r p' with
              | none => rw [g1, g2] at hg; cases hg
              | some t' =>
                rw [g1, g2] at hg
                rw [scan_beg h1 hb' g1, scan_beg h2 hb' g2]
                exact scan_spread L _ _ _ _ _ _ (bares_opt hD hC) hg
theorem blanks_facts {s : ByteArray} (hs : s.size ≤ 400) (ht : (textOf (spread (rn s 0))).size ≤ 400) :
    (parseO (textOf (spread (rn s 0)))).2.2 = (parseO s).2.2 ∧ (parseO (textOf (spread (rn s 0)))).1 = (parseO s).1 := by
  have es : toksO s = scan [] none 0 (rn s 0) := by unfold toksO; rw [if_neg (by omega)]
  have et : toksO (textOf (spread (rn s 0))) = scan [] none 0 (spread (rn s 0)) := by unfold toksO; rw [if_neg (by omega), rn_textOf _ (spread_ok (rn_ok s 0))]
  obtain ⟨h1, h2⟩ := scan_spread (rn s 0) [] [] none none 0 0 rfl rfl
  rw [← es, ← et] at h1 h2
  by_cases h0 : (toksO s).2.2 = 0
  · obtain ⟨a1, a2, _⟩ := parseO_told h0
    obtain ⟨b1, b2, _⟩ := parseO_told (h1 ▸ h0)
    rw [a1, a2, b1, b2, told_same h2]
    exact ⟨rfl, rfl⟩
  · rw [parseO_err' h0, parseO_err' (h1 ▸ h0)]
    exact ⟨h1.symm, rfl⟩
end Go.Proofs.Ytnnaejkhbccnaaa.exp
