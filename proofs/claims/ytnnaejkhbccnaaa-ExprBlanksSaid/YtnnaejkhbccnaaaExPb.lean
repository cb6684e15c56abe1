/- Plain facts: the tokens of a text in parentheses, and of one with blanks around its signs. No program's run in this file. -/
import Derived.Test.YtnnaejkhbccnaaaExPa
namespace Go.Proofs.Ytnnaejkhbccnaaa.exp
set_option linter.unusedSimpArgs false
set_option linter.unusedVariables false
open lex nam

def lone (r : Nat) : Bool := r == 40 || r == 41 || r == 43 || r == 42 || r == 45
theorem lone_of {r : Nat} (h : lone r = true) : r = 40 ∨ r = 41 ∨ r = 43 ∨ r = 42 ∨ r = 45 := by
  unfold lone at h; simp only [Bool.or_eq_true, beq_iff_eq] at h; omega
theorem lone_keep {r : Nat} (h : lone r = true) (C : Option Tok) : keepO C r = .no := by
  cases C with
  | none => rfl
  | some t =>
    have h1 : letB r = false ∧ digB r = false ∧ r ≠ 61 := by rcases lone_of h with rfl | rfl | rfl | rfl | rfl <;> decide
    unfold keepO keepOn
    simp only [h1.1, h1.2.1, Bool.false_eq_true, if_false]
    split
    · rfl
    · split
      · rfl
      · rw [if_neg]
        rintro (g | g)
        · have := congrArg List.getLast? g; simp at this; exact h1.2.2 this
        · have := congrArg List.getLast? g; simp at this; exact h1.2.2 this
theorem lone_beg {r : Nat} (h : lone r = true) (p : Nat) : blkB r = false ∧ beg r p = some ⟨3, [r], 0, p⟩ := by
  rcases lone_of h with rfl | rfl | rfl | rfl | rfl <;> exact ⟨by decide, rfl⟩
theorem lone_stops {r : Nat} (h : lone r = true) (p r' : Nat) : keepO (some ⟨3, [r], 0, p⟩) r' = .no := by
  show keepOn ⟨3, [r], 0, p⟩ r' = .no
  unfold keepOn
  rw [if_neg (show ¬ (3 : Nat) = 1 by decide), if_neg (show ¬ (3 : Nat) = 2 by decide), if_neg]
  have h1 : r ≠ 33 ∧ r ≠ 60 := by rcases lone_of h with rfl | rfl | rfl | rfl | rfl <;> decide
  simp [h1.1, h1.2]
theorem scan_stop {D : List Tok} {t : Tok} {p : Nat} (L : List Nat) (h : ∀ r, keepO (some t) r = .no) : scan D (some t) p L = scan (D ++ [t]) none p L := by
  cases L with
  | nil => simp [scan]
  | cons r L =>
    simp only [scan, h r]
    simp [keepO]
theorem scan_lone {r : Nat} (h : lone r = true) (D : List Tok) (C : Option Tok) (p : Nat) (L : List Nat) : scan D C p (r :: L) = scan (D ++ C.toList ++ [⟨3, [r], 0, p⟩]) none (p + 1) L := by
  rw [scan_beg (lone_keep h C) (lone_beg h p).1 (lone_beg h p).2, scan_stop _ (lone_stops h p)]
theorem blank_keep (C : Option Tok) : keepO C 32 = .no := by
  cases C with
  | none => rfl
  | some t =>
    have h1 : letB 32 = false ∧ digB 32 = false := by decide
    unfold keepO keepOn
    simp only [h1.1, h1.2, Bool.false_eq_true, if_false]
    split
    · rfl
    · split
      · rfl
      · rw [if_neg]
        rintro (g | g)
        · have := congrArg List.getLast? g; simp at this
        · have := congrArg List.getLast? g; simp at this
theorem scan_space (D : List Tok) (C : Option Tok) (p : Nat) (L : List Nat) : scan D C p (32 :: L) = scan (D ++ C.toList) none (p + 1) L := scan_blank (blank_keep C) (by decide)

/-- n places on. -/
def sh (n : Nat) (t : Tok) : Tok := ⟨t.kind, t.text, t.n, t.place + n⟩
theorem keepOn_sh (n : Nat) (t : Tok) (r : Nat) : keepOn (sh n t) r = (match keepOn t r with | .yes t' => .yes (sh n t') | .no => .no | .big => .big) := by
  obtain ⟨k, x, m, q⟩ := t
  unfold keepOn sh
  simp only []
  by_cases h1 : k = 1
  · rw [if_pos h1, if_pos h1]
    by_cases h2 : letB r = true
    · rw [if_pos h2, if_pos h2]
    · rw [if_neg h2, if_neg h2]
  rw [if_neg h1, if_neg h1]
  by_cases h2 : k = 2
  · rw [if_pos h2, if_pos h2]
    by_cases h3 : digB r = true
    · rw [if_pos h3, if_pos h3]
      by_cases h4 : (9223372036854775807 - (r - 48)) / 10 < m
      · rw [if_pos h4, if_pos h4]
      · rw [if_neg h4, if_neg h4]
    · rw [if_neg h3, if_neg h3]
  rw [if_neg h2, if_neg h2]
  by_cases h3 : x ++ [r] = [33, 61] ∨ x ++ [r] = [60, 61]
  · rw [if_pos h3, if_pos h3]
  · rw [if_neg h3, if_neg h3]
theorem keepO_sh (n : Nat) (C : Option Tok) (r : Nat) : keepO (C.map (sh n)) r = (match keepO C r with | .yes t' => .yes (sh n t') | .no => .no | .big => .big) := by
  cases C with
  | none => rfl
  | some t => exact keepOn_sh n t r
theorem beg_sh (n r p : Nat) : beg r (p + n) = (beg r p).map (sh n) := by
  unfold beg
  split
  · rfl
  · split
    · rfl
    · split <;> rfl
def moved (A : List Tok) (n : Nat) (o : List Tok × Nat × Int) : List Tok × Nat × Int := if o.2.2 = 0 then (A ++ o.1.map (sh n), 0, 0) else ([], o.2.1 + n, o.2.2)
theorem scan_sh (A : List Tok) (n : Nat) : ∀ (L : List Nat) (D : List Tok) (C : Option Tok) (p : Nat), scan (A ++ D.map (sh n)) (C.map (sh n)) (p + n) L = moved A n (scan D C p L)
  | [], D, C, p => by
    rw [scan_nil, scan_nil]
    unfold moved
    rw [if_pos rfl]
    cases C <;> simp
  | r :: L, D, C, p => by
    have hD : ∀ D' : List Tok, A ++ D.map (sh n) ++ (C.map (sh n)).toList = A ++ (D ++ C.toList).map (sh n) := fun _ => by cases C <;> simp
    have e := keepO_sh n C r
    have ep : p + n + 1 = p + 1 + n := by omega
    cases hk : keepO C r with
    | yes t =>
      rw [hk] at e
      rw [scan_yes e, scan_yes hk, ep]
      exact scan_sh A n L D (some t) (p + 1)
    | big =>
      rw [hk] at e
      rw [scan_big e, scan_big hk]
      cases C with
      | none => cases hk
      | some t => rfl
    | no =>
      rw [hk] at e
      by_cases hb : blkB r = true
      · rw [scan_blank e hb, scan_blank hk hb, ep, hD []]
        exact scan_sh A n L (D ++ C.toList) none (p + 1)
      · have hb' : blkB r = false := by simpa using hb
        have e2 := beg_sh n r p
        cases hg : beg r p with
        | none =>
          rw [hg] at e2
          rw [scan_bad e hb' e2, scan_bad hk hb' hg]
          rfl
        | some t =>
          rw [hg] at e2
          rw [scan_beg e hb' e2, scan_beg hk hb' hg, ep, hD []]
          exact scan_sh A n L (D ++ C.toList) (some t) (p + 1)
theorem bares_app (l m : List Tok) : bares (l ++ m) = bares l ++ bares m := by simp [bares]
theorem bares_sh (n : Nat) (l : List Tok) : bares (l.map (sh n)) = bares l := by
  unfold bares; rw [List.map_map]; rfl
def opn : Tok := ⟨3, [40], 0, 0⟩
def cls : Tok := ⟨3, [41], 0, 0⟩
theorem scan_closes : ∀ (n : Nat) (D : List Tok) (C : Option Tok) (p : Nat), ∃ P, bares P = List.replicate n cls ∧ scan D C p (List.replicate n 41) = (D ++ C.toList ++ P, 0, 0)
  | 0, D, C, p => ⟨[], rfl, by rw [List.replicate_zero, scan_nil, List.append_nil]⟩
  | n + 1, D, C, p => by
    obtain ⟨P, h1, h2⟩ := scan_closes n (D ++ C.toList ++ [⟨3, [41], 0, p⟩]) none (p + 1)
    refine ⟨⟨3, [41], 0, p⟩ :: P, ?_, ?_⟩
    · rw [List.replicate_succ, ← h1]; rfl
    · rw [List.replicate_succ, scan_lone (by decide), h2]; simp
theorem scan_tail : ∀ (n : Nat) (L : List Nat) (D : List Tok) (C : Option Tok) (p : Nat), ∃ P, bares P = List.replicate n cls ∧ scan D C p (L ++ List.replicate n 41) = if (scan D C p L).2.2 = 0 then ((scan D C p L).1 ++ P, 0, 0) else scan D C p L
  | n, [], D, C, p => by
    obtain ⟨P, h1, h2⟩ := scan_closes n D C p
    exact ⟨P, h1, by rw [List.nil_append, h2, scan_nil, if_pos rfl]⟩
  | n, r :: L, D, C, p => by
    rw [List.cons_append]
    cases hk : keepO C r with
    | yes t => rw [scan_yes hk, scan_yes hk]; exact scan_tail n L D (some t) (p + 1)
    | big =>
      rw [scan_big hk, scan_big hk]
      obtain ⟨P, h1, _⟩ := scan_closes n D C p
      exact ⟨P, h1, by rw [if_neg (by simp)]⟩
    | no =>
      by_cases hb : blkB r = true
      · rw [scan_blank hk hb, scan_blank hk hb]; exact scan_tail n L _ none (p + 1)
      · have hb' : blkB r = false := by simpa using hb
        cases hg : beg r p with
        | none =>
          rw [scan_bad hk hb' hg, scan_bad hk hb' hg]
          obtain ⟨P, h1, _⟩ := scan_closes n D C p
          exact ⟨P, h1, by rw [if_neg (by simp)]⟩
        | some t => rw [scan_beg hk hb' hg, scan_beg hk hb' hg]; exact scan_tail n L _ (some t) (p + 1)
theorem scan_opens : ∀ (n : Nat) (L : List Nat) (A : List Tok) (p : Nat), ∃ O, bares O = List.replicate n opn ∧ scan A none p (List.replicate n 40 ++ L) = scan (A ++ O) none (p + n) L
  | 0, L, A, p => ⟨[], rfl, by simp⟩
  | n + 1, L, A, p => by
    obtain ⟨O, h1, h2⟩ := scan_opens n L (A ++ [⟨3, [40], 0, p⟩]) (p + 1)
    refine ⟨⟨3, [40], 0, p⟩ :: O, ?_, ?_⟩
    · rw [List.replicate_succ, ← h1]; rfl
    · rw [List.replicate_succ, List.cons_append, scan_lone (by decide)]
      rw [show A ++ (none : Option Tok).toList = A by simp, h2]
      rw [show p + 1 + n = p + (n + 1) by omega]
      simp
theorem scan_code : ∀ (L : List Nat) (D : List Tok) (C : Option Tok) (p : Nat), (scan D C p L).2.2 = 0 ∨ (scan D C p L).2.2 = 70 ∨ (scan D C p L).2.2 = 71
  | [], D, C, p => .inl rfl
  | r :: L, D, C, p => by
    cases hk : keepO C r with
    | yes t => rw [scan_yes hk]; exact scan_code L _ _ _
    | big => rw [scan_big hk]; exact .inr (.inr rfl)
    | no =>
      by_cases hb : blkB r = true
      · rw [scan_blank hk hb]; exact scan_code L _ _ _
      · have hb' : blkB r = false := by simpa using hb
        cases hg : beg r p with
        | none => rw [scan_bad hk hb' hg]; exact .inr (.inl rfl)
        | some t => rw [scan_beg hk hb' hg]; exact scan_code L _ _ _
/-- The tokens of a text in n parentheses. -/
theorem toks_in {s t : ByteArray} {n : Nat} (hs : s.size ≤ 400) (ht : t.size ≤ 400) (h : rn t 0 = List.replicate n 40 ++ (rn s 0 ++ List.replicate n 41)) :
    if (toksO s).2.2 = 0 then ∃ l, toksO t = (l, 0, 0) ∧ bares l = List.replicate n opn ++ (bares (toksO s).1 ++ List.replicate n cls) else toksO t = ([], (toksO s).2.1 + n, (toksO s).2.2) := by
  have es : toksO s = scan [] none 0 (rn s 0) := by unfold toksO; rw [if_neg (by omega)]
  have et : toksO t = scan [] none 0 (rn t 0) := by unfold toksO; rw [if_neg (by omega)]
  rw [es, et, h]
  obtain ⟨O, o1, o2⟩ := scan_opens n (rn s 0 ++ List.replicate n 41) [] 0
  obtain ⟨P, p1, p2⟩ := scan_tail n (rn s 0) ([] ++ O) none (0 + n)
  have e := scan_sh O n (rn s 0) [] none 0
  simp only [List.map_nil, List.append_nil, Option.map_none] at e
  rw [List.nil_append] at o2 p2
  rw [o2, p2, e]
  unfold moved
  by_cases hc : (scan [] none 0 (rn s 0)).2.2 = 0
  · rw [if_pos hc, if_pos hc, if_pos rfl]
    refine ⟨_, rfl, ?_⟩
    rw [bares_app, bares_app, bares_sh, o1, p1, List.append_assoc]
  · rw [if_neg hc, if_neg hc, if_neg hc]
theorem par_ins {k : Nat} {l : List Tok} {x : Ex} (h : par k 0 l = .ok x []) : ∀ n, par (k + 7 * n) 0 (List.replicate n opn ++ (l ++ List.replicate n cls)) = .ok x []
  | 0 => by simpa using h
  | n + 1 => by
    have := par_in (p := opn) (q := cls) (m := []) rfl (by decide) rfl (.inl rfl) (par_ins h n)
    rw [List.replicate_succ, List.replicate_succ', show k + 7 * (n + 1) = k + 7 * n + 7 by omega]
    simpa [List.append_assoc] using this
theorem told_ins {l : List Tok} {n : Nat} (hl : l.length + 2 * n ≤ 400) (h : (told l).2 ≠ 80) : told (List.replicate n opn ++ (l ++ List.replicate n cls)) = told l := by
  unfold told at h ⊢
  cases hp : par 4000 0 l with
  | bad l' => rw [hp] at h; exact absurd rfl h
  | ok x l' =>
    rw [hp] at h
    cases l' with
    | cons t l' => exact absurd rfl h
    | nil =>
      have h1 := par_ins hp n
      have h2 : need 0 (List.replicate n opn ++ (l ++ List.replicate n cls)) ≤ 4000 := by
        unfold need; simp only [List.length_append, List.length_replicate]; omega
      rw [par_any (k := 4000 + 7 * n) (k' := 4000) (by omega) (Nat.le_trans h2 (by omega)) h2, h1]
theorem parseO_err' {s : ByteArray} (h : (toksO s).2.2 ≠ 0) : parseO s = (Ex.zero, (toksO s).2.1, (toksO s).2.2) := by unfold parseO; rw [if_pos h]
theorem parens_facts {s t : ByteArray} {n : Nat} (hs : s.size + 2 * n ≤ 400) (ht : t.size ≤ 400) (h : rn t 0 = List.replicate n 40 ++ (rn s 0 ++ List.replicate n 41)) (hc : (parseO s).2.2 ≠ 80) :
    (parseO t).2.2 = (parseO s).2.2 ∧ (parseO t).1 = (parseO s).1 ∧ ((parseO s).2.2 = 0 ∨ (parseO s).2.2 = 81 ∨ (parseO t).2.1 = (parseO s).2.1 + n) := by
  have hi := toks_in (s := s) (t := t) (n := n) (by omega) ht h
  by_cases h0 : (toksO s).2.2 = 0
  · rw [if_pos h0] at hi
    obtain ⟨l, h1, h2⟩ := hi
    have ht0 : (toksO t).2.2 = 0 := by rw [h1]
    obtain ⟨a1, a2, a3⟩ := parseO_told h0
    obtain ⟨b1, b2, b3⟩ := parseO_told ht0
    have hlen : (toksO s).1.length + 2 * n ≤ 400 := by
      have g1 := (toks_ok t).2
      rw [h1] at g1
      have g2 := congrArg List.length h2
      simp [bares] at g2
      simp only [] at g1
      omega
    have e : told (toksO t).1 = told (toksO s).1 := by
      rw [h1]
      simp only []
      rw [← told_bares l, h2, told_ins (by simpa [bares] using hlen) (by rw [told_bares, ← a2]; exact hc), told_bares]
    refine ⟨by rw [a2, b2, e], by rw [a1, b1, e], ?_⟩
    rw [a2]
    rw [a2] at hc
    unfold told at hc ⊢
    cases hp : par 4000 0 (toksO s).1 with
    | bad l' => rw [hp] at hc; exact absurd rfl hc
    | ok x l' =>
      rw [hp] at hc
      cases l' with
      | cons t l' => exact absurd rfl hc
      | nil =>
        simp only []
        by_cases hd : 16 < x.dep
        · rw [if_pos hd]; exact .inr (.inl rfl)
        · rw [if_neg hd]; exact .inl rfl
  · rw [if_neg h0] at hi
    rw [parseO_err' h0, parseO_err' (s := t) (by rw [hi]; exact h0), hi]
    exact ⟨rfl, rfl, .inr (.inr rfl)⟩
end Go.Proofs.Ytnnaejkhbccnaaa.exp
