/- Plain facts: a line is read as the expression that it was told of. No program's run in this file. -/
import Derived.Test.YtffhmbiamkbchaaDoorTlJ
namespace Go.Proofs.YtffhmbiamkbchaaDoor.exp
set_option linter.unusedSimpArgs false
set_option linter.unusedVariables false
open nam lex

/-- Read by rule r, with any fuel that is enough. -/
def RdBy (r : Nat) (l : List Tok) (x : Ex) (rest : List Tok) : Prop := ∀ k, need r l ≤ k → par k r l = .ok x rest
theorem need_pos (r : Nat) (l : List Tok) : 1 ≤ need r l := by unfold need; omega
theorem pr_of {r : Nat} {l : List Tok} {x : Ex} {rest : List Tok} (h : ∀ k, need r l ≤ k + 1 → par (k + 1) r l = .ok x rest) : RdBy r l x rest := fun k hk => by
  cases k with
  | zero => have := need_pos r l; omega
  | succ k => exact h k hk
theorem pr_unary {l : List Tok} {x : Ex} {rest : List Tok} (h : RdBy 6 l x rest) (h1 : txt l ≠ [45]) (h2 : txt l ≠ [33]) : RdBy 5 l x rest := pr_of fun k hk => by
  rw [par_unary, if_neg h1, if_neg h2]
  exact h k (by unfold need at *; omega)
theorem pr_row {r : Nat} {l : List Tok} {x : Ex} {rest : List Tok} (hr : r < 5) (h : RdBy (r + 1) l x rest) (ho : opAt r (txt rest) = 0) : RdBy r l x rest := pr_of fun k hk => by
  rw [par_row _ _ _ hr, h k (by unfold need at *; omega)]
  exact loopP_none ho
/-- From rule 5 down to rule r. -/
theorem pr_down {l : List Tok} {x : Ex} {rest : List Tok} : ∀ (d r r' : Nat), r' = r + d → r' ≤ 5 → RdBy r' l x rest → (∀ q, r ≤ q → q < r' → opAt q (txt rest) = 0) → RdBy r l x rest
  | 0, r, r', e, _, h, _ => by rw [e] at h; exact h
  | d + 1, r, r', e, h5, h, ho => pr_row (by omega) (pr_down d (r + 1) r' (by omega) h5 h (fun q h1 h2 => ho q (by omega) h2)) (ho r (Nat.le_refl _) (by omega))
/-- A part's tokens are read by rule 6, whatever is behind them. -/
def Rs6 (x : Ex) : Prop := (∀ rest, RdBy 6 (x.toks ++ rest) x rest) ∧ ∀ rest, txt (x.toks ++ rest) ≠ [45] ∧ txt (x.toks ++ rest) ≠ [33]
theorem Rs6.at {x : Ex} (h : Rs6 x) (r : Nat) (hr : r ≤ 5) (rest : List Tok) (ho : ∀ q, r ≤ q → q < 5 → opAt q (txt rest) = 0) : RdBy r (x.toks ++ rest) x rest :=
  pr_down (5 - r) r 5 (by omega) (Nat.le_refl _) (pr_unary (h.1 rest) (h.2 rest).1 (h.2 rest).2) ho
theorem op_word {s : List Nat} (h : s = wThen ∨ s = wElse ∨ s = [41]) (r : Nat) : opAt r s = 0 := by
  rcases h with rfl | rfl | rfl <;> (unfold opAt; simp [wThen, wElse])
/-- In parentheses. -/
theorem pr_shut {l rest : List Tok} {x : Ex} (h : RdBy 0 l x (tSg [41] :: rest)) : RdBy 6 (tSg [40] :: l) x rest := pr_of fun k hk => by
  rw [par_one]
  unfold oneP
  have e : txt (tSg [40] :: l) = [40] := rfl
  rw [e, if_neg (show ¬ knd (tSg [40] :: l) = 2 by show ¬ (3 : Nat) = 2; decide), if_neg (by decide), if_neg (by decide), if_neg (by decide), if_pos rfl, List.tail_cons, h k (by unfold need at *; rw [List.length_cons] at hk; omega)]
  simp only []
  rw [if_pos (show txt (tSg [41] :: rest) = [41] from rfl)]
  rfl
theorem pr_all {l rest : List Tok} {x : Ex} {r : Nat} (hr : r ≤ 5) (h : RdBy r l x (tSg [41] :: rest)) : RdBy 0 l x (tSg [41] :: rest) :=
  pr_down r 0 r (by omega) hr h (fun q _ _ => opAt_rp q)
def lev (o : Nat) : Nat := if o = 17 then 0 else if o = 16 then 1 else if o = 7 ∨ o = 8 then 3 else if o = 9 ∨ o = 10 ∨ o = 11 then 4 else 2
theorem lev_op {o : Nat} (h : 7 ≤ o ∧ o ≤ 17) : lev o < 5 ∧ opAt (lev o) (sgnT o) = o ∧ (∀ q, lev o < q → opAt q (sgnT o) = 0) ∧ ∃ m, most (lev o) = m + 1 := by
  have hq : ∀ (P : Nat → Prop) (n : Nat), (∀ q, q ≤ 4 → n < q → P q) → (∀ q, 4 < q → P q) → ∀ q, n < q → P q := fun P n h1 h2 q h => by
    by_cases h4 : q ≤ 4
    · exact h1 q h4 h
    · exact h2 q (by omega)
  have big : ∀ s q, 4 < q → opAt q s = 0 := fun s q h => by
    unfold opAt
    rw [if_neg (by omega), if_neg (by omega), if_neg (by omega), if_neg (by omega), if_neg (by omega)]
  rcases (show o = 7 ∨ o = 8 ∨ o = 9 ∨ o = 10 ∨ o = 11 ∨ o = 12 ∨ o = 13 ∨ o = 14 ∨ o = 15 ∨ o = 16 ∨ o = 17 by omega) with h | h | h | h | h | h | h | h | h | h | h <;> subst h <;>
    refine ⟨by decide, by decide, hq _ _ (by decide) (big _), ?_⟩
  all_goals first | exact ⟨399, rfl⟩ | exact ⟨0, rfl⟩
theorem fit_shape {x : Ex} (hf : Fit x) : (x.op = 1 ∧ 0 ≤ x.n ∧ x.args = []) ∨ ((x.op = 2 ∨ x.op = 3 ∨ x.op = 4) ∧ x.n = 0 ∧ x.args = []) ∨ ((x.op = 5 ∨ x.op = 6) ∧ x.n = 0 ∧ ∃ a, x.args = [a]) ∨
    (x.op = 18 ∧ x.n = 0 ∧ ∃ a b c, x.args = [a, b, c]) ∨ (7 ≤ x.op ∧ x.op ≤ 17 ∧ x.n = 0 ∧ ∃ a b, x.args = [a, b]) := by
  have hB := ((fit_eq x).1 hf).1
  rw [fitsB_iff'] at hB
  obtain ⟨h1, h2, h3⟩ := hB
  rcases h3 with h | h | h | h
  · have hl : x.args = [] := List.length_eq_zero_iff.1 h.2.2
    by_cases h1' : x.op = 1
    · exact .inl ⟨h1', h1, hl⟩
    · exact .inr (.inl ⟨by omega, by omega, hl⟩)
  · exact .inr (.inr (.inl ⟨h.1, by omega, List.length_eq_one_iff.1 h.2⟩))
  · refine .inr (.inr (.inr (.inl ⟨h.1, by omega, ?_⟩)))
    match hx : x.args, h.2 with
    | [a, b, c], _ => exact ⟨a, b, c, rfl⟩
  · refine .inr (.inr (.inr (.inr ⟨h.1, h.2.1, by omega, ?_⟩)))
    match hx : x.args, h.2.2 with
    | [a, b], _ => exact ⟨a, b, rfl⟩
theorem rs_any : ∀ x : Ex, Fit x → Rs6 x := by
  refine Ex.ind fun x ih hf => ?_
  have hF := (fit_eq x).1 hf
  have hi : ∀ y ∈ x.args, Rs6 y := fun y hy => ih y hy (hF.2 y hy)
  have e2 := toks_eq x
  unfold toksE at e2
  have eta := Ex.eta x
  rcases fit_shape hf with ⟨ho, hn, hl⟩ | ⟨ho, hn, hl⟩ | ⟨ho, hn, a, hl⟩ | ⟨ho, hn, a, b, c, hl⟩ | ⟨h7, h17, hn, a, b, hl⟩
  · rw [if_pos ho] at e2
    unfold Rs6
    rw [e2]
    refine ⟨fun rest => pr_of fun k hk => ?_, fun rest => ⟨by show ([] : List Nat) ≠ _; decide, by show ([] : List Nat) ≠ _; decide⟩⟩
    rw [par_one]
    unfold oneP
    rw [if_pos (show knd ([(⟨2, [], x.n.toNat, 0⟩ : Tok)] ++ rest) = 2 from rfl), eta, ho, hl]
    show Out.ok (.mk 1 ((x.n.toNat : Nat) : Int) []) rest = .ok (.mk 1 x.n []) rest
    rw [Int.toNat_of_nonneg hn]
  · have leaf : ∀ (w : List Nat) (o : Nat), x.toks = [tWd w] → x.op = o → (∀ (f : List Tok → Out) (rest : List Tok), oneP f (tWd w :: rest) = .ok (.mk o 0 []) rest) → w ≠ [45] → w ≠ [33] → Rs6 x := fun w o e ho' h1 h2 h3 => by
      unfold Rs6
      rw [e]
      refine ⟨fun rest => pr_of fun k hk => ?_, fun rest => ⟨h2, h3⟩⟩
      rw [par_one, eta, ho', hn, hl]
      exact h1 _ rest
    rcases ho with ho | ho | ho
    · rw [if_neg (by omega), if_pos ho] at e2
      exact leaf _ 2 e2 ho (fun f rest => rfl) (by decide) (by decide)
    · rw [if_neg (by omega), if_neg (by omega), if_pos ho] at e2
      exact leaf _ 3 e2 ho (fun f rest => rfl) (by decide) (by decide)
    · rw [if_neg (by omega), if_neg (by omega), if_neg (by omega), if_pos ho] at e2
      exact leaf _ 4 e2 ho (fun f rest => rfl) (by decide) (by decide)
  · rw [if_neg (by omega), if_neg (by omega), if_neg (by omega), if_neg (by omega), hl, toksL_cons, toksL_nil] at e2
    have ha := hi a (by rw [hl]; simp)
    rcases ho with ho | ho
    · rw [ho] at e2
      have e3 : x.toks = tSg [40] :: tSg [45] :: (a.toks ++ [tSg [41]]) := e2
      unfold Rs6
      rw [e3]
      refine ⟨fun rest => ?_, fun rest => ⟨by show [40] ≠ _; decide, by show [40] ≠ _; decide⟩⟩
      show RdBy 6 (tSg [40] :: (tSg [45] :: ((a.toks ++ [tSg [41]]) ++ rest))) x rest
      rw [List.append_assoc]
      refine pr_shut (pr_all (r := 5) (by omega) (pr_of fun k hk => ?_))
      rw [par_unary, if_pos (show txt (tSg [45] :: (a.toks ++ ([tSg [41]] ++ rest))) = [45] from rfl), List.tail_cons, ha.at 5 (Nat.le_refl _) ([tSg [41]] ++ rest) (fun q h1 h2 => by omega) k (by unfold need at *; rw [List.length_cons] at hk; omega)]
      rw [eta, ho, hn, hl]; rfl
    · rw [ho] at e2
      have e3 : x.toks = tSg [40] :: tSg [33] :: (a.toks ++ [tSg [41]]) := e2
      unfold Rs6
      rw [e3]
      refine ⟨fun rest => ?_, fun rest => ⟨by show [40] ≠ _; decide, by show [40] ≠ _; decide⟩⟩
      show RdBy 6 (tSg [40] :: (tSg [33] :: ((a.toks ++ [tSg [41]]) ++ rest))) x rest
      rw [List.append_assoc]
      refine pr_shut (pr_all (r := 5) (by omega) (pr_of fun k hk => ?_))
      rw [par_unary, if_neg (show ¬ txt (tSg [33] :: (a.toks ++ ([tSg [41]] ++ rest))) = [45] by show ¬ [33] = [45]; decide), if_pos (show txt (tSg [33] :: (a.toks ++ ([tSg [41]] ++ rest))) = [33] from rfl), List.tail_cons, ha.at 5 (Nat.le_refl _) ([tSg [41]] ++ rest) (fun q h1 h2 => by omega) k (by unfold need at *; rw [List.length_cons] at hk; omega)]
      rw [eta, ho, hn, hl]; rfl
  · rw [if_neg (by omega), if_neg (by omega), if_neg (by omega), if_neg (by omega), hl, toksL_cons, toksL_cons, toksL_cons, toksL_nil, ho] at e2
    have ha := hi a (by rw [hl]; simp)
    have hb := hi b (by rw [hl]; simp)
    have hc := hi c (by rw [hl]; simp)
    have e3 : x.toks = tSg [40] :: tWd wIf :: (a.toks ++ tWd wThen :: (b.toks ++ tWd wElse :: (c.toks ++ [tSg [41]]))) := e2
    unfold Rs6
    rw [e3]
    refine ⟨fun rest => ?_, fun rest => ⟨by show [40] ≠ _; decide, by show [40] ≠ _; decide⟩⟩
    have ee : tSg [40] :: tWd wIf :: (a.toks ++ tWd wThen :: (b.toks ++ tWd wElse :: (c.toks ++ [tSg [41]]))) ++ rest = tSg [40] :: (tWd wIf :: (a.toks ++ (tWd wThen :: (b.toks ++ (tWd wElse :: (c.toks ++ (tSg [41] :: rest))))))) := by simp
    rw [ee]
    refine pr_shut (pr_all (r := 5) (by omega) (pr_unary (pr_of fun k hk => ?_) (by show wIf ≠ _; decide) (by show wIf ≠ _; decide)))
    have hz : ∀ (l : List Tok), (tWd wIf :: (a.toks ++ (tWd wThen :: (b.toks ++ (tWd wElse :: (c.toks ++ (tSg [41] :: rest))))))) = tWd wIf :: l → l.length + 1 = (tWd wIf :: (a.toks ++ (tWd wThen :: (b.toks ++ (tWd wElse :: (c.toks ++ (tSg [41] :: rest))))))).length := fun l h => by rw [h]; rfl
    unfold need at hk
    simp only [List.length_cons, List.length_append] at hk
    have w1 : txt (tWd wThen :: (b.toks ++ (tWd wElse :: (c.toks ++ (tSg [41] :: rest))))) = wThen := rfl
    have w2 : txt (tWd wElse :: (c.toks ++ (tSg [41] :: rest))) = wElse := rfl
    have p1 := ha.at 0 (by omega) (tWd wThen :: (b.toks ++ (tWd wElse :: (c.toks ++ (tSg [41] :: rest))))) (fun q _ _ => by rw [w1]; exact op_word (.inl rfl) q) k (by unfold need; simp only [List.length_cons, List.length_append]; omega)
    have p2 := hb.at 0 (by omega) (tWd wElse :: (c.toks ++ (tSg [41] :: rest))) (fun q _ _ => by rw [w2]; exact op_word (.inr (.inl rfl)) q) k (by unfold need; simp only [List.length_cons, List.length_append]; omega)
    have p3 := hc.at 0 (by omega) (tSg [41] :: rest) (fun q _ _ => opAt_rp q) k (by unfold need; simp only [List.length_cons, List.length_append]; omega)
    rw [par_one]
    have e4 : oneP (par k 0) (tWd wIf :: (a.toks ++ (tWd wThen :: (b.toks ++ (tWd wElse :: (c.toks ++ (tSg [41] :: rest))))))) = ifP (par k 0) (tWd wIf :: (a.toks ++ (tWd wThen :: (b.toks ++ (tWd wElse :: (c.toks ++ (tSg [41] :: rest))))))) := rfl
    rw [e4]
    unfold ifP
    rw [List.tail_cons, p1]
    simp only []
    rw [if_pos w1, List.tail_cons, p2]
    simp only []
    rw [if_pos w2, List.tail_cons, p3]
    simp only []
    rw [eta, ho, hn, hl]
  · rw [if_neg (by omega), if_neg (by omega), if_neg (by omega), if_neg (by omega), hl, toksL_cons, toksL_cons, toksL_nil] at e2
    have ha := hi a (by rw [hl]; simp)
    have hb := hi b (by rw [hl]; simp)
    have e3 : x.toks = tSg [40] :: (a.toks ++ tSg (sgnT x.op) :: (b.toks ++ [tSg [41]])) := by
      rw [e2]; unfold headsK
      rw [if_neg (by omega), if_neg (by omega), if_neg (by omega)]; rfl
    unfold Rs6
    rw [e3]
    refine ⟨fun rest => ?_, fun rest => ⟨by show [40] ≠ _; decide, by show [40] ≠ _; decide⟩⟩
    have ee : tSg [40] :: (a.toks ++ tSg (sgnT x.op) :: (b.toks ++ [tSg [41]])) ++ rest = tSg [40] :: (a.toks ++ (tSg (sgnT x.op) :: (b.toks ++ (tSg [41] :: rest)))) := by simp
    rw [ee]
    obtain ⟨v1, v2, v3, m, v4⟩ := lev_op ⟨h7, h17⟩
    obtain ⟨v, hv⟩ : ∃ v, lev x.op = v := ⟨_, rfl⟩
    rw [hv] at v1 v2 v3 v4
    have w1 : txt (tSg (sgnT x.op) :: (b.toks ++ (tSg [41] :: rest))) = sgnT x.op := rfl
    refine pr_shut (pr_all (r := v) (by omega) (pr_of fun k hk => ?_))
    unfold need at hk
    simp only [List.length_cons, List.length_append] at hk
    have p1 := ha.at (v + 1) (by omega) (tSg (sgnT x.op) :: (b.toks ++ (tSg [41] :: rest))) (fun q h1 _ => by rw [w1]; exact v3 q (by omega)) k (by unfold need; simp only [List.length_cons, List.length_append]; omega)
    have p2 := hb.at (v + 1) (by omega) (tSg [41] :: rest) (fun q _ _ => opAt_rp q) k (by unfold need; simp only [List.length_cons, List.length_append]; omega)
    rw [par_row _ _ _ v1, p1]
    simp only []
    rw [v4, loopP_ok (by rw [w1, v2]; omega) p2, loopP_none (opAt_rp v), w1, v2]
    rw [show (x : Ex) = .mk x.op 0 [a, b] by rw [← hn, ← hl]; exact eta]
    rfl
/-- A line is read as the expression that it was told of. -/
theorem parse_line {x : Ex} (hg : good FM x 1 = true) (hn : Num x) (hw : ¬ 400 < x.line.length) : parseO (textOf x.line) = (x, 0, 0) := by
  obtain ⟨hd, hf⟩ := (good_FM x 1).1 hg
  obtain ⟨m, h1, h2⟩ := toks_line hf hn hw
  have h0 : (toksO (textOf x.line)).2.2 = 0 := by rw [h1]
  obtain ⟨a1, a2, a3⟩ := parseO_told h0
  have hlen := (toks_ok (textOf x.line)).2
  have e1 : (toksO (textOf x.line)).1 = m := by rw [h1]
  rw [e1] at a1 a2 a3 hlen
  have hml : m.length = x.toks.length := by rw [← h2]; simp [bares]
  have hp := (rs_any x hf).at 0 (by omega) [] (fun q _ _ => opAt_nil q) 4000 (by unfold need; rw [List.append_nil, ← hml]; omega)
  rw [List.append_nil] at hp
  have ht : told m = (x, 0) := by
    rw [← told_bares m, h2]
    unfold told
    rw [hp]
    simp only []
    rw [if_neg (by omega)]
  rw [ht] at a1 a2 a3
  have a4 := a3 (by show ¬ (0 : Int) = 80; decide)
  refine Prod.ext a1 (Prod.ext a4 a2)
end Go.Proofs.YtffhmbiamkbchaaDoor.exp
