/- Plain facts: places make no difference to what is told, nor do parentheses around. No program's run in this file. -/
import Derived.Test.YtffhmbiamkbchaaDoorMTt
import Derived.Test.YtffhmbiamkbchaaDoorMLy
namespace Go.Proofs.YtffhmbiamkbchaaDoor.exp
set_option linter.unusedSimpArgs false
set_option linter.unusedVariables false
open lex nam

/-- A token without its place. -/
def bare (t : Tok) : Tok := ⟨t.kind, t.text, t.n, 0⟩
def bares (l : List Tok) : List Tok := l.map bare
def Out.bare : Out → Out
  | .bad l => .bad (bares l)
  | .ok x l => .ok x (bares l)
theorem bares_txt (l : List Tok) : txt (bares l) = txt l := by cases l <;> rfl
theorem bares_knd (l : List Tok) : knd (bares l) = knd l := by cases l <;> rfl
theorem bares_num (l : List Tok) : num (bares l) = num l := by cases l <;> rfl
theorem bares_tail (l : List Tok) : (bares l).tail = bares l.tail := by cases l <;> rfl
theorem loopP_bare {f : List Tok → Out} {r : Nat} (hf : ∀ l, f (bares l) = (f l).bare) : ∀ (m : Nat) (x : Ex) (l : List Tok), loopP f r m x (bares l) = (loopP f r m x l).bare
  | 0, x, l => rfl
  | m + 1, x, l => by
    unfold loopP
    rw [bares_txt, bares_tail, hf]
    by_cases h : opAt r (txt l) = 0
    · rw [if_pos h, if_pos h]; rfl
    · rw [if_neg h, if_neg h]
      cases h2 : f l.tail with
      | bad l' => rfl
      | ok y l' => exact loopP_bare hf m _ l'
theorem ifP_bare {f : List Tok → Out} (hf : ∀ l, f (bares l) = (f l).bare) (l : List Tok) : ifP f (bares l) = (ifP f l).bare := by
  unfold ifP
  rw [bares_tail, hf]
  cases f l.tail with
  | bad l' => rfl
  | ok a l1 =>
    simp only [Out.bare]
    rw [bares_txt, bares_tail, hf]
    by_cases h1 : txt l1 = wThen
    · rw [if_pos h1, if_pos h1]
      cases f l1.tail with
      | bad l' => rfl
      | ok b l2 =>
        simp only [Out.bare]
        rw [bares_txt, bares_tail, hf]
        by_cases h2 : txt l2 = wElse
        · rw [if_pos h2, if_pos h2]
          cases f l2.tail with
          | bad l' => rfl
          | ok c l3 => rfl
        · rw [if_neg h2, if_neg h2]
    · rw [if_neg h1, if_neg h1]
theorem oneP_bare {f : List Tok → Out} (hf : ∀ l, f (bares l) = (f l).bare) (l : List Tok) : oneP f (bares l) = (oneP f l).bare := by
  unfold oneP
  rw [bares_txt, bares_knd, bares_tail, bares_num, hf, ifP_bare hf]
  by_cases h1 : knd l = 2
  · rw [if_pos h1, if_pos h1]; rfl
  rw [if_neg h1, if_neg h1]
  by_cases h2 : txt l = [107, 101, 121]
  · rw [if_pos h2, if_pos h2]; rfl
  rw [if_neg h2, if_neg h2]
  by_cases h3 : txt l = [118, 97, 108]
  · rw [if_pos h3, if_pos h3]; rfl
  rw [if_neg h3, if_neg h3]
  by_cases h4 : txt l = [97, 99, 99]
  · rw [if_pos h4, if_pos h4]; rfl
  rw [if_neg h4, if_neg h4]
  by_cases h5 : txt l = [40]
  · rw [if_pos h5, if_pos h5]
    cases f l.tail with
    | bad l' => rfl
    | ok x l' =>
      simp only [Out.bare]
      rw [bares_txt, bares_tail]
      by_cases h6 : txt l' = [41]
      · rw [if_pos h6, if_pos h6]
      · rw [if_neg h6, if_neg h6]
  rw [if_neg h5, if_neg h5]
  by_cases h6 : txt l = wIf
  · rw [if_pos h6, if_pos h6]
  · rw [if_neg h6, if_neg h6]; rfl
theorem par_bare : ∀ (k r : Nat) (l : List Tok), par k r (bares l) = (par k r l).bare
  | 0, r, l => by rw [par, par]; rfl
  | k + 1, r, l => by
    rw [par, par]
    by_cases h : r < 5
    · rw [if_pos h, if_pos h, par_bare k]
      cases par k (r + 1) l with
      | bad l' => rfl
      | ok x l' => exact loopP_bare (par_bare k (r + 1)) _ x l'
    · rw [if_neg h, if_neg h]
      by_cases h5 : r = 5
      · rw [if_pos h5, if_pos h5, bares_txt, bares_tail, par_bare k, par_bare k]
        by_cases h1 : txt l = [45]
        · rw [if_pos h1, if_pos h1]
          cases par k 5 l.tail <;> rfl
        · rw [if_neg h1, if_neg h1]
          by_cases h2 : txt l = [33]
          · rw [if_pos h2, if_pos h2]
            cases par k 5 l.tail <;> rfl
          · rw [if_neg h2, if_neg h2]
      · rw [if_neg h5, if_neg h5]
        exact oneP_bare (par_bare k 0) l
/-- What is told of tokens, but the place. -/
def told (l : List Tok) : Ex × Int :=
  match par 4000 0 l with
  | .bad _ => (Ex.zero, 80)
  | .ok x [] => if 16 < x.dep then (Ex.zero, 81) else (x, 0)
  | .ok _ (_ :: _) => (Ex.zero, 80)
theorem told_bares (l : List Tok) : told (bares l) = told l := by
  unfold told
  rw [par_bare]
  cases par 4000 0 l with
  | bad l' => rfl
  | ok x l' => cases l' <;> rfl
theorem told_same {l l' : List Tok} (h : bares l = bares l') : told l = told l' := by rw [← told_bares l, ← told_bares l', h]
theorem parseO_told {s : ByteArray} (h : (toksO s).2.2 = 0) : (parseO s).1 = (told (toksO s).1).1 ∧ (parseO s).2.2 = (told (toksO s).1).2 ∧ ((told (toksO s).1).2 ≠ 80 → (parseO s).2.1 = 0) := by
  unfold parseO told
  rw [if_neg (by simp [h])]
  cases par 4000 0 (toksO s).1 with
  | bad l => exact ⟨rfl, rfl, fun h => absurd rfl h⟩
  | ok x l =>
    cases l with
    | nil =>
      simp only []
      by_cases hd : 16 < x.dep
      · rw [if_pos hd, if_pos hd]; exact ⟨rfl, rfl, fun _ => rfl⟩
      · rw [if_neg hd, if_neg hd]; exact ⟨rfl, rfl, fun _ => rfl⟩
    | cons t l => exact ⟨rfl, rfl, fun h => absurd rfl h⟩

/-- What may follow and ends whatever is open. -/
def Ends (m : List Tok) : Prop := m = [] ∨ txt m = [41]
theorem Ends.op {m : List Tok} (h : Ends m) (r : Nat) : opAt r (txt m) = 0 := by
  rcases h with rfl | h
  · exact opAt_nil r
  · rw [h]; exact opAt_rp r
theorem txt_app {l m : List Tok} (h : txt l ≠ []) : txt (l ++ m) = txt l ∧ (l ++ m).tail = l.tail ++ m := by
  cases l with
  | nil => exact absurd rfl h
  | cons t l => exact ⟨rfl, rfl⟩
theorem op_app {r : Nat} {l m : List Tok} (hm : Ends m) (h : opAt r (txt l) = 0) : opAt r (txt (l ++ m)) = 0 := by
  cases l with
  | nil => exact hm.op r
  | cons t l => exact h
theorem loopP_app {f : List Tok → Out} {r : Nat} {m : List Tok} (hm : Ends m) (hf : ∀ l x l', f l = .ok x l' → f (l ++ m) = .ok x (l' ++ m)) : ∀ (n : Nat) (x : Ex) (l : List Tok) (y : Ex) (l' : List Tok), loopP f r n x l = .ok y l' → loopP f r n x (l ++ m) = .ok y (l' ++ m)
  | 0, x, l, y, l', h => by
    simp only [loopP] at h ⊢
    injection h with h1 h2
    rw [h1, h2]
  | n + 1, x, l, y, l', h => by
    unfold loopP at h ⊢
    by_cases ho : opAt r (txt l) = 0
    · rw [if_pos ho] at h
      rw [if_pos (op_app hm ho)]
      injection h with h1 h2
      rw [h1, h2]
    · rw [if_neg ho] at h
      obtain ⟨e1, e2⟩ := txt_app (m := m) (op_ne ho)
      rw [e1, e2, if_neg ho]
      cases h2 : f l.tail with
      | bad l2 => rw [h2] at h; cases h
      | ok z l2 =>
        rw [h2] at h
        rw [hf _ _ _ h2]
        exact loopP_app hm hf n _ l2 y l' h
theorem ifP_app {f : List Tok → Out} {m : List Tok} (hf : ∀ l x l', f l = .ok x l' → f (l ++ m) = .ok x (l' ++ m)) {l l' : List Tok} {x : Ex} (h0 : txt l ≠ []) (h : ifP f l = .ok x l') : ifP f (l ++ m) = .ok x (l' ++ m) := by
  unfold ifP at h ⊢
  rw [(txt_app h0).2]
  cases h1 : f l.tail with
  | bad l2 => rw [h1] at h; cases h
  | ok a l1 =>
    rw [h1] at h; rw [hf _ _ _ h1]
    simp only [] at h ⊢
    by_cases g1 : txt l1 = wThen
    · obtain ⟨e1, e2⟩ := txt_app (l := l1) (m := m) (by rw [g1]; decide)
      rw [if_pos g1] at h
      rw [e1, e2, if_pos g1]
      cases h2 : f l1.tail with
      | bad l2 => rw [h2] at h; cases h
      | ok b l2 =>
        rw [h2] at h; rw [hf _ _ _ h2]
        simp only [] at h ⊢
        by_cases g2 : txt l2 = wElse
        · obtain ⟨e1, e2⟩ := txt_app (l := l2) (m := m) (by rw [g2]; decide)
          rw [if_pos g2] at h
          rw [e1, e2, if_pos g2]
          cases h3 : f l2.tail with
          | bad l2 => rw [h3] at h; cases h
          | ok c l3 =>
            rw [h3] at h; rw [hf _ _ _ h3]
            simp only [] at h ⊢
            injection h with k1 k2
            rw [k1, k2]
        · rw [if_neg g2] at h; cases h
    · rw [if_neg g1] at h; cases h
theorem oneP_app {f : List Tok → Out} {m : List Tok} (hf : ∀ l x l', f l = .ok x l' → f (l ++ m) = .ok x (l' ++ m)) {l l' : List Tok} {x : Ex} (h : oneP f l = .ok x l') : oneP f (l ++ m) = .ok x (l' ++ m) := by
  cases l with
  | nil => unfold oneP at h; rw [if_neg (by decide), if_neg (by decide), if_neg (by decide), if_neg (by decide), if_neg (by decide), if_neg (by decide)] at h; cases h
  | cons t l =>
    have e1 : txt (t :: l ++ m) = txt (t :: l) := rfl
    have e2 : knd (t :: l ++ m) = knd (t :: l) := rfl
    have e3 : num (t :: l ++ m) = num (t :: l) := rfl
    have e4 : (t :: l ++ m).tail = (t :: l).tail ++ m := rfl
    unfold oneP at h ⊢
    rw [e1, e2, e3, e4]
    by_cases h1 : knd (t :: l) = 2
    · rw [if_pos h1] at h ⊢; injection h with k1 k2; rw [k1, k2]
    rw [if_neg h1] at h ⊢
    by_cases h2 : txt (t :: l) = [107, 101, 121]
    · rw [if_pos h2] at h ⊢; injection h with k1 k2; rw [k1, k2]
    rw [if_neg h2] at h ⊢
    by_cases h3 : txt (t :: l) = [118, 97, 108]
    · rw [if_pos h3] at h ⊢; injection h with k1 k2; rw [k1, k2]
    rw [if_neg h3] at h ⊢
    by_cases h4 : txt (t :: l) = [97, 99, 99]
    · rw [if_pos h4] at h ⊢; injection h with k1 k2; rw [k1, k2]
    rw [if_neg h4] at h ⊢
    by_cases h5 : txt (t :: l) = [40]
    · rw [if_pos h5] at h ⊢
      cases g : f (t :: l).tail with
      | bad l2 => rw [g] at h; cases h
      | ok y l2 =>
        rw [g] at h; rw [hf _ _ _ g]
        simp only [] at h ⊢
        by_cases h6 : txt l2 = [41]
        · obtain ⟨e1, e2⟩ := txt_app (l := l2) (m := m) (by rw [h6]; decide)
          rw [if_pos h6] at h
          rw [e1, e2, if_pos h6]
          injection h with k1 k2; rw [k1, k2]
        · rw [if_neg h6] at h; cases h
    rw [if_neg h5] at h ⊢
    by_cases h6 : txt (t :: l) = wIf
    · rw [if_pos h6] at h ⊢
      exact ifP_app hf (l := t :: l) (by rw [h6]; decide) h
    · rw [if_neg h6] at h; cases h
theorem par_app {m : List Tok} (hm : Ends m) : ∀ (k r : Nat) (l : List Tok) (x : Ex) (l' : List Tok), par k r l = .ok x l' → par k r (l ++ m) = .ok x (l' ++ m)
  | 0, r, l, x, l', h => by rw [par] at h; cases h
  | k + 1, r, l, x, l', h => by
    by_cases h5 : r < 5
    · rw [par_row k r _ h5] at h ⊢
      cases g : par k (r + 1) l with
      | bad l2 => rw [g] at h; cases h
      | ok y l2 =>
        rw [g] at h; rw [par_app hm k _ _ _ _ g]
        exact loopP_app hm (fun l x l' => par_app hm k (r + 1) l x l') _ _ _ _ _ h
    · by_cases h6 : r = 5
      · subst h6
        rw [par_unary] at h ⊢
        by_cases h1 : txt l = [45]
        · obtain ⟨e1, e2⟩ := txt_app (l := l) (m := m) (by rw [h1]; decide)
          rw [if_pos h1] at h
          rw [e1, e2, if_pos h1]
          cases g : par k 5 l.tail with
          | bad l2 => rw [g] at h; cases h
          | ok y l2 => rw [g] at h; rw [par_app hm k _ _ _ _ g]; simp only [] at h ⊢; injection h with k1 k2; rw [k1, k2]
        · rw [if_neg h1] at h
          by_cases h2 : txt l = [33]
          · obtain ⟨e1, e2⟩ := txt_app (l := l) (m := m) (by rw [h2]; decide)
            rw [if_pos h2] at h
            rw [e1, e2, if_neg h1, if_pos h2]
            cases g : par k 5 l.tail with
            | bad l2 => rw [g] at h; cases h
            | ok y l2 => rw [g] at h; rw [par_app hm k _ _ _ _ g]; simp only [] at h ⊢; injection h with k1 k2; rw [k1, k2]
          · rw [if_neg h2] at h
            have e1 : txt (l ++ m) ≠ [45] ∧ txt (l ++ m) ≠ [33] := by
              cases l with
              | nil => rcases hm with rfl | hm
                       · exact ⟨by decide, by decide⟩
                       · rw [List.nil_append, hm]; exact ⟨by decide, by decide⟩
              | cons t l => exact ⟨h1, h2⟩
            rw [if_neg e1.1, if_neg e1.2]
            exact par_app hm k 6 l x l' h
      · have e : ∀ l, par (k + 1) r l = oneP (par k 0) l := fun l => by rw [par, if_neg h5, if_neg h6]
        rw [e] at h ⊢
        exact oneP_app (fun l x l' => par_app hm k 0 l x l') h
/-- In parentheses, with what may follow. -/
theorem par_in {k : Nat} {l m : List Tok} {x : Ex} {p q : Tok} (hp : txt [p] = [40]) (hk : p.kind ≠ 2) (hq : txt [q] = [41]) (hm : Ends m) (h : par k 0 l = .ok x []) : par (k + 7) 0 (p :: (l ++ q :: m)) = .ok x m := by
  have hp' : txt (p :: (l ++ q :: m)) = [40] := hp
  have h1 : par (k + 1) 6 (p :: (l ++ q :: m)) = .ok x m := by
    rw [par_one]
    unfold oneP
    rw [hp', if_neg (show ¬ knd (p :: (l ++ q :: m)) = 2 from hk), if_neg (by decide), if_neg (by decide), if_neg (by decide), if_pos rfl]
    have := par_app (m := q :: m) (.inr hq) k 0 l x [] h
    rw [List.tail_cons, this]
    simp only [List.nil_append]
    rw [if_pos (show txt (q :: m) = [41] from hq)]
    rfl
  have h2 : par (k + 2) 5 (p :: (l ++ q :: m)) = .ok x m := by
    rw [par_unary, hp', if_neg (by decide), if_neg (by decide)]; exact h1
  have hl : ∀ f r n, loopP f r n x m = .ok x m := fun f r n => loopP_none (hm.op r)
  have h3 : par (k + 3) 4 (p :: (l ++ q :: m)) = .ok x m := by rw [par_row _ _ _ (by omega), h2]; exact hl _ _ _
  have h4 : par (k + 4) 3 (p :: (l ++ q :: m)) = .ok x m := by rw [par_row _ _ _ (by omega), h3]; exact hl _ _ _
  have h5 : par (k + 5) 2 (p :: (l ++ q :: m)) = .ok x m := by rw [par_row _ _ _ (by omega), h4]; exact hl _ _ _
  have h6 : par (k + 6) 1 (p :: (l ++ q :: m)) = .ok x m := by rw [par_row _ _ _ (by omega), h5]; exact hl _ _ _
  rw [par_row _ _ _ (by omega), h6]; exact hl _ _ _
end Go.Proofs.YtffhmbiamkbchaaDoor.exp
