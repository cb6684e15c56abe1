/- Plain facts on how a row of tokens tells an expression. No program's run in this file. Plain facts on what is told: how great it is, that it fits; runes counted. No program's run in this file. -/
import Derived.Test.YtffhmbiamkbchaaDoorExP
import Derived.Test.YtffhmbiamkbchaaDoorLxP
import Derived.Test.YtffhmbiamkbchaaDoorLxR
import Derived.Lib.RuneCount
section
namespace Go.Proofs.YtffhmbiamkbchaaDoor.exp
set_option linter.unusedSimpArgs false
set_option linter.unusedVariables false
open lex nam

/-- What a rule tells of the tokens from somewhere on: the first one that may not stand there, or an expression and what is behind it. -/
inductive Out where
  | bad (rest : List Tok)
  | ok (x : Ex) (rest : List Tok)
def txt : List Tok → List Nat
  | [] => []
  | t :: _ => t.text
def knd : List Tok → Nat
  | [] => 0
  | t :: _ => t.kind
def num : List Tok → Nat
  | [] => 0
  | t :: _ => t.n
def placeOf (l : List Tok) (en : Nat) : Nat :=
  match l with
  | [] => en
  | t :: _ => t.place
/-- The Op that a sign of a level tells; 0: none. -/
def opAt (r : Nat) (s : List Nat) : Nat :=
  if r = 0 then (if s = [124] then 17 else 0)
  else if r = 1 then (if s = [38] then 16 else 0)
  else if r = 2 then (if s = [60] then 12 else if s = [60, 61] then 13 else if s = [61] then 14 else if s = [33, 61] then 15 else 0)
  else if r = 3 then (if s = [43] then 7 else if s = [45] then 8 else 0)
  else if r = 4 then (if s = [42] then 9 else if s = [47] then 10 else if s = [37] then 11 else 0)
  else 0
def most (r : Nat) : Nat := if r = 2 then 1 else 400
def loopP (f : List Tok → Out) (r : Nat) : Nat → Ex → List Tok → Out
  | 0, x, l => .ok x l
  | m + 1, x, l => if opAt r (txt l) = 0 then .ok x l else
    match f l.tail with
    | .bad l' => .bad l'
    | .ok y l' => loopP f r m (.mk (opAt r (txt l)) 0 [x, y]) l'
def wIf : List Nat := [105, 102]
def wThen : List Nat := [116, 104, 101, 110]
def wElse : List Nat := [101, 108, 115, 101]
def ifP (f : List Tok → Out) (l : List Tok) : Out :=
  match f l.tail with
  | .bad l' => .bad l'
  | .ok a l1 => if txt l1 = wThen then
      match f l1.tail with
      | .bad l' => .bad l'
      | .ok b l2 => if txt l2 = wElse then
          match f l2.tail with
          | .bad l' => .bad l'
          | .ok c l3 => .ok (.mk 18 0 [a, b, c]) l3
        else .bad l2
    else .bad l1
def oneP (f : List Tok → Out) (l : List Tok) : Out :=
  if knd l = 2 then .ok (.mk 1 (num l) []) l.tail
  else if txt l = [107, 101, 121] then .ok (.mk 2 0 []) l.tail
  else if txt l = [118, 97, 108] then .ok (.mk 3 0 []) l.tail
  else if txt l = [97, 99, 99] then .ok (.mk 4 0 []) l.tail
  else if txt l = [40] then
    match f l.tail with
    | .bad l' => .bad l'
    | .ok x l' => if txt l' = [41] then .ok x l'.tail else .bad l'
  else if txt l = wIf then ifP f l
  else .bad l
/-- By rule r (0 or, 1 and, 2 cmp, 3 sum, 4 term, 5 unary, 6 one). -/
def par : Nat → Nat → List Tok → Out
  | 0, _, l => .bad l
  | k + 1, r, l =>
    if r < 5 then
      match par k (r + 1) l with
      | .bad l' => .bad l'
      | .ok x l' => loopP (par k (r + 1)) r (most r) x l'
    else if r = 5 then
      if txt l = [45] then
        match par k 5 l.tail with
        | .bad l' => .bad l'
        | .ok x l' => .ok (.mk 5 0 [x]) l'
      else if txt l = [33] then
        match par k 5 l.tail with
        | .bad l' => .bad l'
        | .ok x l' => .ok (.mk 6 0 [x]) l'
      else par k 6 l
    else oneP (par k 0) l
def parseO (s : ByteArray) : Ex × Nat × Int :=
  if (toksO s).2.2 ≠ 0 then (Ex.zero, (toksO s).2.1, (toksO s).2.2)
  else match par 4000 0 (toksO s).1 with
    | .bad l => (Ex.zero, placeOf l (rn s 0).length, 80)
    | .ok x [] => if 16 < x.dep then (Ex.zero, 0, 81) else (x, 0, 0)
    | .ok _ (t :: _) => (Ex.zero, t.place, 80)

theorem par_row (k r : Nat) (l : List Tok) (h : r < 5) : par (k + 1) r l = (match par k (r + 1) l with | .bad l' => .bad l' | .ok x l' => loopP (par k (r + 1)) r (most r) x l') := by rw [par, if_pos h]
theorem par_unary (k : Nat) (l : List Tok) : par (k + 1) 5 l = if txt l = [45] then (match par k 5 l.tail with | .bad l' => .bad l' | .ok x l' => .ok (.mk 5 0 [x]) l') else if txt l = [33] then (match par k 5 l.tail with | .bad l' => .bad l' | .ok x l' => .ok (.mk 6 0 [x]) l') else par k 6 l := by
  rw [par, if_neg (by omega), if_pos rfl]
theorem par_one (k : Nat) (l : List Tok) : par (k + 1) 6 l = oneP (par k 0) l := by rw [par, if_neg (by omega), if_neg (by omega)]
theorem loopP_none {f : List Tok → Out} {r m : Nat} {x : Ex} {l : List Tok} (h : opAt r (txt l) = 0) : loopP f r m x l = .ok x l := by
  cases m with
  | zero => rfl
  | succ m => rw [loopP, if_pos h]
theorem loopP_bad {f : List Tok → Out} {r m : Nat} {x : Ex} {l l' : List Tok} (h : opAt r (txt l) ≠ 0) (hf : f l.tail = .bad l') : loopP f r (m + 1) x l = .bad l' := by
  rw [loopP, if_neg h, hf]
theorem loopP_ok {f : List Tok → Out} {r m : Nat} {x y : Ex} {l l' : List Tok} (h : opAt r (txt l) ≠ 0) (hf : f l.tail = .ok y l') : loopP f r (m + 1) x l = loopP f r m (.mk (opAt r (txt l)) 0 [x, y]) l' := by
  rw [loopP, if_neg h, hf]
theorem opAt_nil (r : Nat) : opAt r [] = 0 := by unfold opAt; simp
theorem opAt_rp (r : Nat) : opAt r [41] = 0 := by unfold opAt; simp
theorem txt_ne {l : List Tok} (h : txt l ≠ []) : ∃ t l', l = t :: l' := by
  cases l with
  | nil => exact absurd rfl h
  | cons t l' => exact ⟨t, l', rfl⟩
theorem tail_lt {l : List Tok} (h : txt l ≠ []) : l.tail.length < l.length := by
  obtain ⟨t, l', rfl⟩ := txt_ne h
  simp
theorem op_ne {r : Nat} {l : List Tok} (h : opAt r (txt l) ≠ 0) : txt l ≠ [] := fun e => h (by rw [e]; exact opAt_nil r)
theorem knd_ne {l : List Tok} (h : knd l ≠ 0) : ∃ t l', l = t :: l' := by
  cases l with
  | nil => exact absurd rfl h
  | cons t l' => exact ⟨t, l', rfl⟩

/-- What is told leaves fewer tokens; the first wrong one is one of these. -/
def Less (n : Nat) : Out → Prop
  | .bad l => l.length ≤ n
  | .ok _ l => l.length < n
theorem Less.mono {n m : Nat} {o : Out} (h : Less n o) (hm : n ≤ m) : Less m o := by
  cases o <;> simp only [Less] at * <;> omega
theorem loopP_less {f : List Tok → Out} {r n : Nat} (hf : ∀ l, l.length < n → Less l.length (f l)) : ∀ (m : Nat) (x : Ex) (l : List Tok), l.length < n → Less n (loopP f r m x l)
  | 0, x, l, hl => by simpa [loopP, Less] using hl
  | m + 1, x, l, hl => by
    by_cases h : opAt r (txt l) = 0
    · rw [loopP_none h]; exact hl
    · have ht := tail_lt (op_ne h)
      have hh := hf l.tail (by omega)
      cases e : f l.tail with
      | bad l' =>
        rw [loopP_bad h e]
        rw [e] at hh
        simp only [Less] at *
        omega
      | ok y l' =>
        rw [loopP_ok h e]
        rw [e] at hh
        simp only [Less] at hh
        exact loopP_less hf m _ l' (by omega)
theorem oneP_less {f : List Tok → Out} {l : List Tok} (hf : ∀ l', l'.length < l.length → Less l'.length (f l')) : Less l.length (oneP f l) := by
  unfold oneP
  split
  · rename_i h
    obtain ⟨t, l', rfl⟩ := knd_ne (l := l) (by omega)
    simp [Less]
  split
  · rename_i h; exact tail_lt (by rw [h]; simp)
  split
  · rename_i h; exact tail_lt (by rw [h]; simp)
  split
  · rename_i h; exact tail_lt (by rw [h]; simp)
  split
  · rename_i h
    have ht := tail_lt (l := l) (by rw [h]; simp)
    have hh := hf _ ht
    cases e : f l.tail with
    | bad l' => rw [e] at hh; simp only [Less] at *; omega
    | ok x l' =>
      rw [e] at hh
      simp only [Less] at hh
      simp only []
      split
      · rename_i h2; have := tail_lt (l := l') (by rw [h2]; simp); simp only [Less]; omega
      · simp only [Less]; omega
  split
  · rename_i h
    have ht := tail_lt (l := l) (by rw [h]; simp [wIf])
    have hh := hf _ ht
    unfold ifP
    cases e : f l.tail with
    | bad l' => rw [e] at hh; simp only [Less] at *; omega
    | ok a l1 =>
      rw [e] at hh
      simp only [Less] at hh
      simp only []
      split
      · rename_i h2
        have ht1 := tail_lt (l := l1) (by rw [h2]; simp [wThen])
        have hh1 := hf l1.tail (by omega)
        cases e1 : f l1.tail with
        | bad l' => rw [e1] at hh1; simp only [Less] at *; omega
        | ok b l2 =>
          rw [e1] at hh1
          simp only [Less] at hh1
          simp only []
          split
          · rename_i h3
            have ht2 := tail_lt (l := l2) (by rw [h3]; simp [wElse])
            have hh2 := hf l2.tail (by omega)
            cases e2 : f l2.tail with
            | bad l' => rw [e2] at hh2; simp only [Less] at *; omega
            | ok c l3 => rw [e2] at hh2; simp only [Less] at *; omega
          · simp only [Less]; omega
      · simp only [Less]; omega
  · exact Nat.le_refl _
theorem par_less : ∀ (k r : Nat) (l : List Tok), Less l.length (par k r l) := by
  intro k
  induction k with
  | zero => intro r l; exact Nat.le_refl _
  | succ k ih =>
    intro r l
    unfold par
    split
    · have hh := ih (r + 1) l
      cases e : par k (r + 1) l with
      | bad l' => rw [e] at hh; exact hh
      | ok x l' =>
        rw [e] at hh
        exact loopP_less (fun l2 _ => ih (r + 1) l2) _ x l' hh
    split
    · split
      · rename_i h
        have ht := tail_lt (l := l) (by rw [h]; simp)
        have hh := ih 5 l.tail
        cases e : par k 5 l.tail <;> rw [e] at hh <;> simp only [Less] at * <;> omega
      split
      · rename_i h
        have ht := tail_lt (l := l) (by rw [h]; simp)
        have hh := ih 5 l.tail
        cases e : par k 5 l.tail <;> rw [e] at hh <;> simp only [Less] at * <;> omega
      · exact ih 6 l
    · exact oneP_less fun l' _ => ih 0 l'

/-- As much fuel as is wanted. -/
def need (r : Nat) (l : List Tok) : Nat := 7 * l.length + (6 - r) + 1
theorem loopP_congr {f g : List Tok → Out} {r n : Nat} (hf : ∀ l, Less l.length (f l)) (hfg : ∀ l, l.length < n → f l = g l) : ∀ (m : Nat) (x : Ex) (l : List Tok), l.length ≤ n → loopP f r m x l = loopP g r m x l
  | 0, x, l, hl => rfl
  | m + 1, x, l, hl => by
    by_cases h : opAt r (txt l) = 0
    · rw [loopP_none h, loopP_none h]
    · have ht := tail_lt (op_ne h)
      have e2 := hfg l.tail (by omega)
      have hh := hf l.tail
      cases e : f l.tail with
      | bad l' => rw [loopP_bad h e, loopP_bad h (e2 ▸ e)]
      | ok y l' =>
        rw [loopP_ok h e, loopP_ok h (e2 ▸ e)]
        rw [e] at hh
        simp only [Less] at hh
        exact loopP_congr hf hfg m _ l' (by omega)
theorem oneP_congr {f g : List Tok → Out} {l : List Tok} (hf : ∀ l', Less l'.length (f l')) (hfg : ∀ l', l'.length < l.length → f l' = g l') : oneP f l = oneP g l := by
  unfold oneP
  split
  · rfl
  split
  · rfl
  split
  · rfl
  split
  · rfl
  split
  · rename_i h
    rw [hfg _ (tail_lt (l := l) (by rw [h]; simp))]
  split
  · rename_i h
    have ht := tail_lt (l := l) (by rw [h]; simp [wIf])
    unfold ifP
    rw [← hfg _ ht]
    have hh := hf l.tail
    cases e : f l.tail with
    | bad l' => rfl
    | ok a l1 =>
      rw [e] at hh
      simp only [Less] at hh
      simp only []
      split
      · rename_i h2
        have ht1 := tail_lt (l := l1) (by rw [h2]; simp [wThen])
        rw [← hfg l1.tail (by omega)]
        have hh1 := hf l1.tail
        cases e1 : f l1.tail with
        | bad l' => rfl
        | ok b l2 =>
          rw [e1] at hh1
          simp only [Less] at hh1
          simp only []
          split
          · rename_i h3
            have ht2 := tail_lt (l := l2) (by rw [h3]; simp [wElse])
            rw [← hfg l2.tail (by omega)]
          · rfl
      · rfl
  · rfl
theorem par_succ : ∀ (k r : Nat) (l : List Tok), r ≤ 6 → need r l ≤ k → par (k + 1) r l = par k r l := by
  intro k
  induction k with
  | zero => intro r l hr h; unfold need at h; omega
  | succ k ih =>
    intro r l hr h
    unfold need at h
    by_cases h5 : r < 5
    · rw [par_row (k + 1) r l h5, par_row k r l h5, ih (r + 1) l (by omega) (by unfold need; omega)]
      have hh := par_less k (r + 1) l
      cases e : par k (r + 1) l with
      | bad l' => rfl
      | ok x l' =>
        rw [e] at hh
        simp only [Less] at hh
        exact loopP_congr (n := l.length - 1) (fun l2 => par_less _ _ _) (fun l2 h2 => ih (r + 1) l2 (by omega) (by unfold need; omega)) _ x l' (by omega)
    · by_cases h5' : r = 5
      · subst h5'
        rw [par_unary (k + 1) l, par_unary k l]
        split
        · rename_i ht
          have := tail_lt (l := l) (by rw [ht]; simp)
          rw [ih 5 l.tail (by omega) (by unfold need; omega)]
        split
        · rename_i ht
          have := tail_lt (l := l) (by rw [ht]; simp)
          rw [ih 5 l.tail (by omega) (by unfold need; omega)]
        · exact ih 6 l (by omega) (by unfold need; omega)
      · obtain rfl : r = 6 := by omega
        rw [par_one (k + 1) l, par_one k l]
        exact oneP_congr (fun l' => par_less _ _ _) fun l' hl => ih 0 l' (by omega) (by unfold need; omega)
theorem par_fuel {k k' r : Nat} {l : List Tok} (hr : r ≤ 6) (h : need r l ≤ k) (hk : k ≤ k') : par k' r l = par k r l := by
  obtain ⟨d, rfl⟩ := Nat.exists_eq_add_of_le hk
  induction d with
  | zero => rfl
  | succ d ih => rw [← Nat.add_assoc, par_succ (k + d) r l hr (by omega), ih (by omega)]
theorem par_any {k k' r : Nat} {l : List Tok} (hr : r ≤ 6) (h : need r l ≤ k) (h' : need r l ≤ k') : par k' r l = par k r l := by
  rcases Nat.le_total k k' with hk | hk
  · exact par_fuel hr h hk
  · exact (par_fuel hr h' hk).symm

/-! What each kind of token has. -/
structure TokOk (t : Tok) : Prop where
  kind : t.kind = 1 ∨ t.kind = 2 ∨ t.kind = 3
  one : t.kind = 1 → t.text ≠ [] ∧ ∀ r ∈ t.text, letB r = true
  two : t.kind = 2 → t.text = []
  three : t.kind = 3 → (∃ r, t.text = [r] ∧ sgnB r = true) ∨ t.text = [33, 61] ∨ t.text = [60, 61]
  ok : ∀ r ∈ t.text, okR r
  num : t.n ≤ 9223372036854775807
theorem keepOn_ok {t t' : Tok} {r : Nat} (h : TokOk t) (hr : okR r) (hk : keepOn t r = .yes t') : TokOk t' := by
  have hk0 := hk
  unfold keepOn at hk
  split at hk
  · rename_i hk1
    split at hk
    · rename_i hl
      cases hk
      have := h.one hk1
      refine ⟨.inl rfl, fun _ => ⟨by simp, ?_⟩, fun h => by simp at h, fun h => by simp at h, ?_, h.num⟩
      · intro x hx
        rcases List.mem_append.1 hx with h1 | h1
        · exact this.2 x h1
        · rw [List.mem_singleton.1 h1]; exact hl
      · intro x hx
        rcases List.mem_append.1 hx with h1 | h1
        · exact h.ok x h1
        · rw [List.mem_singleton.1 h1]; exact hr
    · cases hk
  split at hk
  · rename_i hk2
    split at hk
    · rename_i hd
      split at hk
      · cases hk
      · rename_i hn
        cases hk
        have hd' : 48 ≤ r ∧ r ≤ 57 := by unfold digB at hd; simpa using hd
        refine ⟨.inr (.inl rfl), fun h => by simp at h, fun _ => h.two hk2, fun h => by simp at h, h.ok, ?_⟩
        simp only
        omega
    · cases hk
  · rename_i h1 h2
    split at hk
    · rename_i hs
      cases hk
      refine ⟨.inr (.inr rfl), fun h => by simp at h, fun h => by simp at h, fun _ => .inr hs, ?_, h.num⟩
      intro x hx
      rcases List.mem_append.1 hx with h1 | h1
      · exact h.ok x h1
      · rw [List.mem_singleton.1 h1]; exact hr
    · cases hk
theorem beg_ok {r p : Nat} {t : Tok} (hr : okR r) (hg : beg r p = some t) : TokOk t := by
  unfold beg at hg
  split at hg
  · rename_i hl
    cases hg
    exact ⟨.inl rfl, fun _ => ⟨by simp, by simpa using hl⟩, fun h => by simp at h, fun h => by simp at h, by simpa using hr, by simp⟩
  split at hg
  · rename_i hd
    cases hg
    have hd' : 48 ≤ r ∧ r ≤ 57 := by unfold digB at hd; simpa using hd
    exact ⟨.inr (.inl rfl), fun h => by simp at h, fun _ => rfl, fun h => by simp at h, by simp, by simp; omega⟩
  split at hg
  · rename_i hs
    cases hg
    exact ⟨.inr (.inr rfl), fun h => by simp at h, fun h => by simp at h, fun _ => .inl ⟨r, rfl, hs⟩, by simpa using hr, by simp⟩
  · cases hg
theorem scan_ok : ∀ (L : List Nat) (done : List Tok) (cur : Option Tok) (p : Nat), (∀ r ∈ L, okR r ∨ True) → (∀ r ∈ L, okR r) → (∀ t ∈ done, TokOk t) → (∀ t, cur = some t → TokOk t) →
    (∀ t ∈ (scan done cur p L).1, TokOk t) ∧ (scan done cur p L).1.length ≤ done.length + cur.toList.length + L.length
  | [], done, cur, p, _, _, hd, hc => by
    rw [scan_nil]
    refine ⟨fun t ht => ?_, by simp⟩
    rcases List.mem_append.1 ht with h | h
    · exact hd t h
    · exact hc t (Option.mem_toList.1 h)
  | r :: rest, done, cur, p, h0, hL, hd, hc => by
    have hr := hL r (by simp)
    have hL' : ∀ x ∈ rest, okR x := fun x hx => hL x (by simp [hx])
    have hd' : ∀ t ∈ done ++ cur.toList, TokOk t := fun t ht => by
      rcases List.mem_append.1 ht with h | h
      · exact hd t h
      · exact hc t (Option.mem_toList.1 h)
    cases hk : keepO cur r with
    | yes t =>
      rw [scan_yes hk]
      cases cur with
      | none => cases hk
      | some t0 =>
        have := scan_ok rest done (some t) (p + 1) (fun _ _ => .inr trivial) hL' hd (fun t1 e => by cases e; exact keepOn_ok (hc t0 rfl) hr hk)
        refine ⟨this.1, ?_⟩
        have h2 := this.2
        simp at h2 ⊢
        omega
    | big => rw [scan_big hk]; exact ⟨fun t ht => (by cases ht), by simp⟩
    | no =>
      cases hb : blkB r with
      | true =>
        rw [scan_blank hk hb]
        have := scan_ok rest (done ++ cur.toList) none (p + 1) (fun _ _ => .inr trivial) hL' hd' (fun t e => by cases e)
        refine ⟨this.1, ?_⟩
        have h2 := this.2
        simp at h2 ⊢
        omega
      | false =>
        cases hg : beg r p with
        | none => rw [scan_bad hk hb hg]; exact ⟨fun t ht => (by cases ht), by simp⟩
        | some t =>
          rw [scan_beg hk hb hg]
          have := scan_ok rest (done ++ cur.toList) (some t) (p + 1) (fun _ _ => .inr trivial) hL' hd' (fun t1 e => by cases e; exact beg_ok hr hg)
          refine ⟨this.1, ?_⟩
          have h2 := this.2
          simp at h2 ⊢
          omega
end Go.Proofs.YtffhmbiamkbchaaDoor.exp
end
section
namespace Go.Proofs.YtffhmbiamkbchaaDoor.exp
set_option linter.unusedSimpArgs false
set_option linter.unusedVariables false
open lex nam

theorem runeCountFrom_rn (s : ByteArray) : ∀ (f pos : Nat), s.size ≤ pos + f → Lib.runeCountFrom s f pos = (rn s pos).length
  | 0, pos, h => by rw [rn_end s pos (by omega)]; rfl
  | f + 1, pos, h => by
    unfold Lib.runeCountFrom
    by_cases hp : pos < s.size
    · have hw := width_pos s pos hp
      rw [if_pos hp, rn_step s pos hp, runeCountFrom_rn s f _ (by omega), List.length_cons]; omega
    · rw [if_neg hp, rn_end s pos hp]; rfl
theorem runeCount_rn (s : ByteArray) : Lib.runeCount s = (rn s 0).length := runeCountFrom_rn s _ _ (by omega)

/-- A rule tells no more parts than it takes tokens; each fits. -/
def Good (n : Nat) (P : List Tok → Prop) : Out → Prop
  | .bad l => P l
  | .ok x l => x.size + l.length ≤ n ∧ Fit x ∧ P l
theorem Good.mono {n m : Nat} {P : List Tok → Prop} {o : Out} (h : Good n P o) (hm : n ≤ m) : Good m P o := by
  cases o with
  | bad l => exact h
  | ok x l => exact ⟨by have := h.1; omega, h.2⟩
def Nums (l : List Tok) : Prop := ∀ t ∈ l, 0 ≤ (t.n : Int)
theorem op_range {r : Nat} (hr : r < 5) {s : List Nat} (h : opAt r s ≠ 0) : 7 ≤ opAt r s ∧ opAt r s ≤ 17 := by
  rcases (show r = 0 ∨ r = 1 ∨ r = 2 ∨ r = 3 ∨ r = 4 by omega) with rfl | rfl | rfl | rfl | rfl
  · unfold opAt at *; by_cases h1 : s = [124] <;> simp [h1] at h ⊢
  · unfold opAt at *; by_cases h1 : s = [38] <;> simp [h1] at h ⊢
  · unfold opAt at *
    simp at *
    by_cases h1 : s = [60]
    · simp [h1]
    by_cases h2 : s = [60, 61]
    · simp [h2]
    by_cases h3 : s = [61]
    · simp [h3]
    by_cases h4 : s = [33, 61]
    · simp [h4]
    · simp [h1, h2, h3, h4] at h
  · unfold opAt at *
    simp at *
    by_cases h1 : s = [43]
    · simp [h1]
    by_cases h2 : s = [45]
    · simp [h2]
    · simp [h1, h2] at h
  · unfold opAt at *
    simp at *
    by_cases h1 : s = [42]
    · simp [h1]
    by_cases h2 : s = [47]
    · simp [h2]
    by_cases h3 : s = [37]
    · simp [h3]
    · simp [h1, h2, h3] at h
theorem fit_mk {o : Nat} {n : Int} {l : List Ex} (h : fitsB o n l.length = true) (hl : ∀ x ∈ l, Fit x) : Fit (.mk o n l) := (fit_eq _).2 ⟨h, hl⟩
theorem fitsB_iff' (o : Nat) (n : Int) (m : Nat) : fitsB o n m = true ↔ 0 ≤ n ∧ (0 < n → o = 1) ∧ ((1 ≤ o ∧ o ≤ 4 ∧ m = 0) ∨ ((o = 5 ∨ o = 6) ∧ m = 1) ∨ (o = 18 ∧ m = 3) ∨ (7 ≤ o ∧ o ≤ 17 ∧ m = 2)) := by
  unfold fitsB
  split
  · simp; omega
  split
  · simp; omega
  split
  · simp; omega
  split
  · simp; omega
  · simp; omega
theorem leaf_good {l : List Tok} (hl : l ≠ []) {o : Nat} {n : Int} (h : fitsB o n 0 = true) : Good l.length (fun _ => True) (.ok (.mk o n []) l.tail) := by
  refine ⟨?_, fit_mk h (fun x hx => by cases hx), trivial⟩
  rw [size_mk, sizes_nil]
  cases l with
  | nil => exact absurd rfl hl
  | cons t l => simp; omega
theorem loopP_good {f : List Tok → Out} {r n : Nat} (hr : r < 5) (hf : ∀ l, Good l.length (fun _ => True) (f l)) : ∀ (m : Nat) (x : Ex) (l : List Tok), x.size + l.length ≤ n → Fit x → Good n (fun _ => True) (loopP f r m x l)
  | 0, x, l, hl, hx => ⟨hl, hx, trivial⟩
  | m + 1, x, l, hl, hx => by
    by_cases h : opAt r (txt l) = 0
    · rw [loopP_none h]; exact ⟨hl, hx, trivial⟩
    · have ht := tail_lt (op_ne h)
      have hh := hf l.tail
      cases e : f l.tail with
      | bad l' => rw [loopP_bad h e]; trivial
      | ok y l' =>
        rw [loopP_ok h e]
        rw [e] at hh
        obtain ⟨h1, h2, _⟩ := hh
        have ho := op_range hr h
        refine loopP_good hr hf m _ l' ?_ (fit_mk ?_ ?_)
        · rw [size_mk, sizes_cons, sizes_cons, sizes_nil]; omega
        · rw [fitsB_iff']; refine ⟨by omega, by omega, ?_⟩; simp; omega
        · intro z hz
          rcases List.mem_cons.1 hz with rfl | hz
          · exact hx
          · rw [List.mem_singleton.1 hz]; exact h2
theorem txt_nil {l : List Tok} (h : txt l ≠ []) : l ≠ [] := fun e => h (by rw [e]; rfl)
theorem oneP_good {f : List Tok → Out} (hf : ∀ l, Good l.length (fun _ => True) (f l)) (l : List Tok) : Good l.length (fun _ => True) (oneP f l) := by
  unfold oneP
  split
  · rename_i h
    refine leaf_good (fun e => by rw [e] at h; simp [knd] at h) ?_
    rw [fitsB_iff']
    refine ⟨by omega, fun _ => rfl, .inl ⟨by omega, by omega, rfl⟩⟩
  split
  · rename_i h; exact leaf_good (txt_nil (by rw [h]; simp)) (by decide)
  split
  · rename_i h; exact leaf_good (txt_nil (by rw [h]; simp)) (by decide)
  split
  · rename_i h; exact leaf_good (txt_nil (by rw [h]; simp)) (by decide)
  split
  · rename_i h
    have ht := tail_lt (l := l) (by rw [h]; simp)
    have hh := hf l.tail
    cases e : f l.tail with
    | bad l' => trivial
    | ok x l' =>
      rw [e] at hh
      simp only []
      split
      · rename_i h2
        have := tail_lt (l := l') (by rw [h2]; simp)
        exact ⟨by have := hh.1; omega, hh.2.1, trivial⟩
      · trivial
  split
  · rename_i h
    have ht := tail_lt (l := l) (by rw [h]; simp [wIf])
    have hh := hf l.tail
    unfold ifP
    cases e : f l.tail with
    | bad l' => trivial
    | ok a l1 =>
      rw [e] at hh
      simp only []
      split
      · rename_i h2
        have ht1 := tail_lt (l := l1) (by rw [h2]; simp [wThen])
        have hh1 := hf l1.tail
        cases e1 : f l1.tail with
        | bad l' => trivial
        | ok b l2 =>
          rw [e1] at hh1
          simp only []
          split
          · rename_i h3
            have ht2 := tail_lt (l := l2) (by rw [h3]; simp [wElse])
            have hh2 := hf l2.tail
            cases e2 : f l2.tail with
            | bad l' => trivial
            | ok c l3 =>
              rw [e2] at hh2
              obtain ⟨a1, a2, _⟩ := hh
              obtain ⟨b1, b2, _⟩ := hh1
              obtain ⟨c1, c2, _⟩ := hh2
              refine ⟨?_, fit_mk (show fitsB 18 0 3 = true by decide) ?_, trivial⟩
              · rw [size_mk, sizes_cons, sizes_cons, sizes_cons, sizes_nil]; omega
              · intro z hz
                simp only [List.mem_cons, List.not_mem_nil, or_false] at hz
                rcases hz with rfl | rfl | rfl
                · exact a2
                · exact b2
                · exact c2
          · trivial
      · trivial
  · trivial
theorem par_good : ∀ (k r : Nat) (l : List Tok), Good l.length (fun _ => True) (par k r l) := by
  intro k
  induction k with
  | zero => intro r l; trivial
  | succ k ih =>
    intro r l
    unfold par
    split
    · rename_i h5
      have hh := ih (r + 1) l
      cases e : par k (r + 1) l with
      | bad l' => trivial
      | ok x l' =>
        rw [e] at hh
        exact loopP_good h5 (fun l2 => ih (r + 1) l2) _ x l' hh.1 hh.2.1
    split
    · split
      · rename_i h
        have ht := tail_lt (l := l) (by rw [h]; simp)
        have hh := ih 5 l.tail
        cases e : par k 5 l.tail with
        | bad l' => trivial
        | ok x l' =>
          rw [e] at hh
          exact ⟨by rw [size_mk, sizes_cons, sizes_nil]; have := hh.1; omega, fit_mk (show fitsB 5 0 1 = true by decide) (fun z hz => by rw [List.mem_singleton.1 hz]; exact hh.2.1), trivial⟩
      split
      · rename_i h
        have ht := tail_lt (l := l) (by rw [h]; simp)
        have hh := ih 5 l.tail
        cases e : par k 5 l.tail with
        | bad l' => trivial
        | ok x l' =>
          rw [e] at hh
          exact ⟨by rw [size_mk, sizes_cons, sizes_nil]; have := hh.1; omega, fit_mk (show fitsB 6 0 1 = true by decide) (fun z hz => by rw [List.mem_singleton.1 hz]; exact hh.2.1), trivial⟩
      · exact ih 6 l
    · exact oneP_good (fun l' => ih 0 l') l
theorem par_size {k r : Nat} {l l' : List Tok} {x : Ex} (h : par k r l = .ok x l') : x.size ≤ l.length ∧ Fit x := by
  have := par_good k r l
  rw [h] at this
  exact ⟨by have := this.1; omega, this.2.1⟩
/-- The tokens of a text: what each has, and that they are few. -/
theorem toks_ok (s : ByteArray) : (∀ t ∈ (toksO s).1, TokOk t) ∧ (toksO s).1.length ≤ 400 := by
  unfold toksO
  split
  · exact ⟨fun t h => (by cases h), by simp⟩
  · rename_i h
    have := scan_ok (rn s 0) [] none 0 (fun _ _ => .inr trivial) (rn_ok s 0) (fun t h => by cases h) (fun t h => by cases h)
    refine ⟨this.1, ?_⟩
    have h1 := this.2
    have h2 := rn_length s 0
    simp at h1
    omega
end Go.Proofs.YtffhmbiamkbchaaDoor.exp
end
