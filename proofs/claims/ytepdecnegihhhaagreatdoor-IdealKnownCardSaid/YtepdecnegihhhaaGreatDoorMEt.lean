/- Plain facts on how a row of tokens tells an expression. No program's run in this .. -/
import Derived.Test.YtepdecnegihhhaaGreatDoorMEx
import Derived.Test.YtepdecnegihhhaaGreatDoorMLx
import Derived.Orders
import Derived.Tactics
import Derived.RegionTactic
import Derived.Lib.RuneCount
import Derived.Test.YtepdecnegihhhaaGreatDoorMLy
import Derived.Test.YtepdecnegihhhaaGreatDoorCt
import Derived.Laws.StructEq
import Derived.Deep.DrawnRows
set_option linter.unusedSimpArgs false
set_option linter.unusedVariables false
namespace Go.Proofs.YtepdecnegihhhaaGreatDoor.exp
section
open lex nam
inductive Out where
 | bad (rest : List Tok)
 | ok (x : Ex) (rest : List Tok)
def txt : List Tok → List Nat
 | [] => []
 | t :: _ => t.text
def knd : List Tok → Nat
 | [] => 0
 | t :: _ => t.kind
def num : List Tok → Nat
 | [] => 0
 | t :: _ => t.n
def placeOf (l : List Tok) (en : Nat) : Nat :=
 match l with
 | [] => en
 | t :: _ => t.place
def opAt (r : Nat) (s : List Nat) : Nat :=
 if r = 0 then (if s = [124] then 17 else 0)
 else if r = 1 then (if s = [38] then 16 else 0)
 else if r = 2 then (if s = [60] then 12 else if s = [60, 61] then 13 else if s = [61] then 14 else if s = [33, 61] then 15 else 0)
 else if r = 3 then (if s = [43] then 7 else if s = [45] then 8 else 0)
 else if r = 4 then (if s = [42] then 9 else if s = [47] then 10 else if s = [37] then 11 else 0)
 else 0
def most (r : Nat) : Nat := if r = 2 then 1 else 400
def loopP (f : List Tok → Out) (r : Nat) : Nat → Ex → List Tok → Out
 | 0, x, l => .ok x l
 | m + 1, x, l => if opAt r (txt l) = 0 then .ok x l else
  match f l.tail with
  | .bad l' => .bad l'
  | .ok y l' => loopP f r m (.mk (opAt r (txt l)) 0 [x, y]) l'
def wIf : List Nat := [105, 102]
def wThen : List Nat := [116, 104, 101, 110]
def wElse : List Nat := [101, 108, 115, 101]
def ifP (f : List Tok → Out) (l : List Tok) : Out :=
 match f l.tail with
 | .bad l' => .bad l'
 | .ok a l1 => if txt l1 = wThen then
   match f l1.tail with
   | .bad l' => .bad l'
   | .ok b l2 => if txt l2 = wElse then
     match f l2.tail with
     | .bad l' => .bad l'
     | .ok c l3 => .ok (.mk 18 0 [a, b, c]) l3
    else .bad l2
  else .bad l1
def oneP (f : List Tok → Out) (l : List Tok) : Out :=
 if knd l = 2 then .ok (.mk 1 (num l) []) l.tail
 else if txt l = [107, 101, 121] then .ok (.mk 2 0 []) l.tail
 else if txt l = [118, 97, 108] then .ok (.mk 3 0 []) l.tail
 else if txt l = [97, 99, 99] then .ok (.mk 4 0 []) l.tail
 else if txt l = [40] then
  match f l.tail with
  | .bad l' => .bad l'
  | .ok x l' => if txt l' = [41] then .ok x l'.tail else .bad l'
 else if txt l = wIf then ifP f l
 else .bad l
def par : Nat → Nat → List Tok → Out
 | 0, _, l => .bad l
 | k + 1, r, l =>
  if r < 5 then
   match par k (r + 1) l with
   | .bad l' => .bad l'
   | .ok x l' => loopP (par k (r + 1)) r (most r) x l'
  else if r = 5 then
   if txt l = [45] then
    match par k 5 l.tail with
    | .bad l' => .bad l'
    | .ok x l' => .ok (.mk 5 0 [x]) l'
   else if txt l = [33] then
    match par k 5 l.tail with
    | .bad l' => .bad l'
    | .ok x l' => .ok (.mk 6 0 [x]) l'
   else par k 6 l
  else oneP (par k 0) l
def parseO (s : ByteArray) : Ex × Nat × Int :=
 if (toksO s).2.2 ≠ 0 then (Ex.zero, (toksO s).2.1, (toksO s).2.2)
 else match par 4000 0 (toksO s).1 with
  | .bad l => (Ex.zero, placeOf l (rn s 0).length, 80)
  | .ok x [] => if 16 < x.dep then (Ex.zero, 0, 81) else (x, 0, 0)
  | .ok _ (t :: _) => (Ex.zero, t.place, 80)
theorem par_row (k r : Nat) (l : List Tok) (h : r < 5) : par (k + 1) r l = (match par k (r + 1) l with | .bad l' => .bad l' | .ok x l' => loopP (par k (r + 1)) r (most r) x l') := by rw [par, if_pos h]
theorem par_unary (k : Nat) (l : List Tok) : par (k + 1) 5 l = if txt l = [45] then (match par k 5 l.tail with | .bad l' => .bad l' | .ok x l' => .ok (.mk 5 0 [x]) l') else if txt l = [33] then (match par k 5 l.tail with | .bad l' => .bad l' | .ok x l' => .ok (.mk 6 0 [x]) l') else par k 6 l := by
 rw [par, if_neg (by omega), if_pos rfl]
theorem par_one (k : Nat) (l : List Tok) : par (k + 1) 6 l = oneP (par k 0) l := by rw [par, if_neg (by omega), if_neg (by omega)]
theorem loopP_none {f : List Tok → Out} {r m : Nat} {x : Ex} {l : List Tok} (h : opAt r (txt l) = 0) : loopP f r m x l = .ok x l := by
 cases m with
 | zero => rfl
 | succ m => rw [loopP, if_pos h]
theorem loopP_bad {f : List Tok → Out} {r m : Nat} {x : Ex} {l l' : List Tok} (h : opAt r (txt l) ≠ 0) (hf : f l.tail = .bad l') : loopP f r (m + 1) x l = .bad l' := by
 rw [loopP, if_neg h, hf]
theorem loopP_ok {f : List Tok → Out} {r m : Nat} {x y : Ex} {l l' : List Tok} (h : opAt r (txt l) ≠ 0) (hf : f l.tail = .ok y l') : loopP f r (m + 1) x l = loopP f r m (.mk (opAt r (txt l)) 0 [x, y]) l' := by
 rw [loopP, if_neg h, hf]
theorem opAt_nil (r : Nat) : opAt r [] = 0 := by unfold opAt; simp
theorem txt_ne {l : List Tok} (h : txt l ≠ []) : ∃ t l', l = t :: l' := by
 cases l with
 | nil => exact absurd rfl h
 | cons t l' => exact ⟨t, l', rfl⟩
theorem tail_lt {l : List Tok} (h : txt l ≠ []) : l.tail.length < l.length := by
 obtain ⟨t, l', rfl⟩ := txt_ne h
 simp
theorem op_ne {r : Nat} {l : List Tok} (h : opAt r (txt l) ≠ 0) : txt l ≠ [] := fun e => h (by rw [e]; exact opAt_nil r)
theorem knd_ne {l : List Tok} (h : knd l ≠ 0) : ∃ t l', l = t :: l' := by
 cases l with
 | nil => exact absurd rfl h
 | cons t l' => exact ⟨t, l', rfl⟩
def Less (n : Nat) : Out → Prop
 | .bad l => l.length ≤ n
 | .ok _ l => l.length < n
theorem loopP_less {f : List Tok → Out} {r n : Nat} (hf : ∀ l, l.length < n → Less l.length (f l)) : ∀ (m : Nat) (x : Ex) (l : List Tok), l.length < n → Less n (loopP f r m x l)
 | 0, x, l, hl => by simpa [loopP, Less] using hl
 | m + 1, x, l, hl => by
  by_cases h : opAt r (txt l) = 0
  · rw [loopP_none h]; exact hl
  · have ht := tail_lt (op_ne h)
    have hh := hf l.tail (by omega)
    cases e : f l.tail with
    | bad l' =>
     rw [loopP_bad h e]
     rw [e] at hh
     simp only [Less] at *
     omega
    | ok y l' =>
     rw [loopP_ok h e]
     rw [e] at hh
     simp only [Less] at hh
     exact loopP_less hf m _ l' (by omega)
theorem oneP_less {f : List Tok → Out} {l : List Tok} (hf : ∀ l', l'.length < l.length → Less l'.length (f l')) : Less l.length (oneP f l) := by
 unfold oneP
 split
 · rename_i h
   obtain ⟨t, l', rfl⟩ := knd_ne (l := l) (by omega)
   simp [Less]
 split
 · rename_i h; exact tail_lt (by rw [h]; simp)
 split
 · rename_i h; exact tail_lt (by rw [h]; simp)
 split
 · rename_i h; exact tail_lt (by rw [h]; simp)
 split
 · rename_i h
   have ht := tail_lt (l := l) (by rw [h]; simp)
   have hh := hf _ ht
   cases e : f l.tail with
   | bad l' => rw [e] at hh; simp only [Less] at *; omega
   | ok x l' =>
    rw [e] at hh
    simp only [Less] at hh
    simp only []
    split
    · rename_i h2; have := tail_lt (l := l') (by rw [h2]; simp); simp only [Less]; omega
    · simp only [Less]; omega
 split
 · rename_i h
   have ht := tail_lt (l := l) (by rw [h]; simp [wIf])
   have hh := hf _ ht
   unfold ifP
   cases e : f l.tail with
   | bad l' => rw [e] at hh; simp only [Less] at *; omega
   | ok a l1 =>
    rw [e] at hh
    simp only [Less] at hh
    simp only []
    split
    · rename_i h2
      have ht1 := tail_lt (l := l1) (by rw [h2]; simp [wThen])
      have hh1 := hf l1.tail (by omega)
      cases e1 : f l1.tail with
      | bad l' => rw [e1] at hh1; simp only [Less] at *; omega
      | ok b l2 =>
       rw [e1] at hh1
       simp only [Less] at hh1
       simp only []
       split
       · rename_i h3
         have ht2 := tail_lt (l := l2) (by rw [h3]; simp [wElse])
         have hh2 := hf l2.tail (by omega)
         cases e2 : f l2.tail with
         | bad l' => rw [e2] at hh2; simp only [Less] at *; omega
         | ok c l3 => rw [e2] at hh2; simp only [Less] at *; omega
       · simp only [Less]; omega
    · simp only [Less]; omega
 · exact Nat.le_refl _
theorem par_less : ∀ (k r : Nat) (l : List Tok), Less l.length (par k r l) := by
 intro k
 induction k with
 | zero => intro r l; exact Nat.le_refl _
 | succ k ih =>
  intro r l
  unfold par
  split
  · have hh := ih (r + 1) l
    cases e : par k (r + 1) l with
    | bad l' => rw [e] at hh; exact hh
    | ok x l' =>
     rw [e] at hh
     exact loopP_less (fun l2 _ => ih (r + 1) l2) _ x l' hh
  split
  · split
    · rename_i h
      have ht := tail_lt (l := l) (by rw [h]; simp)
      have hh := ih 5 l.tail
      cases e : par k 5 l.tail <;> rw [e] at hh <;> simp only [Less] at * <;> omega
    split
    · rename_i h
      have ht := tail_lt (l := l) (by rw [h]; simp)
      have hh := ih 5 l.tail
      cases e : par k 5 l.tail <;> rw [e] at hh <;> simp only [Less] at * <;> omega
    · exact ih 6 l
  · exact oneP_less fun l' _ => ih 0 l'
def need (r : Nat) (l : List Tok) : Nat := 7 * l.length + (6 - r) + 1
theorem loopP_congr {f g : List Tok → Out} {r n : Nat} (hf : ∀ l, Less l.length (f l)) (hfg : ∀ l, l.length < n → f l = g l) : ∀ (m : Nat) (x : Ex) (l : List Tok), l.length ≤ n → loopP f r m x l = loopP g r m x l
 | 0, x, l, hl => rfl
 | m + 1, x, l, hl => by
  by_cases h : opAt r (txt l) = 0
  · rw [loopP_none h, loopP_none h]
  · have ht := tail_lt (op_ne h)
    have e2 := hfg l.tail (by omega)
    have hh := hf l.tail
    cases e : f l.tail with
    | bad l' => rw [loopP_bad h e, loopP_bad h (e2 ▸ e)]
    | ok y l' =>
     rw [loopP_ok h e, loopP_ok h (e2 ▸ e)]
     rw [e] at hh
     simp only [Less] at hh
     exact loopP_congr hf hfg m _ l' (by omega)
theorem oneP_congr {f g : List Tok → Out} {l : List Tok} (hf : ∀ l', Less l'.length (f l')) (hfg : ∀ l', l'.length < l.length → f l' = g l') : oneP f l = oneP g l := by
 unfold oneP
 split
 · rfl
 split
 · rfl
 split
 · rfl
 split
 · rfl
 split
 · rename_i h
   rw [hfg _ (tail_lt (l := l) (by rw [h]; simp))]
 split
 · rename_i h
   have ht := tail_lt (l := l) (by rw [h]; simp [wIf])
   unfold ifP
   rw [← hfg _ ht]
   have hh := hf l.tail
   cases e : f l.tail with
   | bad l' => rfl
   | ok a l1 =>
    rw [e] at hh
    simp only [Less] at hh
    simp only []
    split
    · rename_i h2
      have ht1 := tail_lt (l := l1) (by rw [h2]; simp [wThen])
      rw [← hfg l1.tail (by omega)]
      have hh1 := hf l1.tail
      cases e1 : f l1.tail with
      | bad l' => rfl
      | ok b l2 =>
       rw [e1] at hh1
       simp only [Less] at hh1
       simp only []
       split
       · rename_i h3
         have ht2 := tail_lt (l := l2) (by rw [h3]; simp [wElse])
         rw [← hfg l2.tail (by omega)]
       · rfl
    · rfl
 · rfl
theorem par_succ : ∀ (k r : Nat) (l : List Tok), r ≤ 6 → need r l ≤ k → par (k + 1) r l = par k r l := by
 intro k
 induction k with
 | zero => intro r l hr h; unfold need at h; omega
 | succ k ih =>
  intro r l hr h
  unfold need at h
  by_cases h5 : r < 5
  · rw [par_row (k + 1) r l h5, par_row k r l h5, ih (r + 1) l (by omega) (by unfold need; omega)]
    have hh := par_less k (r + 1) l
    cases e : par k (r + 1) l with
    | bad l' => rfl
    | ok x l' =>
     rw [e] at hh
     simp only [Less] at hh
     exact loopP_congr (n := l.length - 1) (fun l2 => par_less _ _ _) (fun l2 h2 => ih (r + 1) l2 (by omega) (by unfold need; omega)) _ x l' (by omega)
  · by_cases h5' : r = 5
    · subst h5'
      rw [par_unary (k + 1) l, par_unary k l]
      split
      · rename_i ht
        have := tail_lt (l := l) (by rw [ht]; simp)
        rw [ih 5 l.tail (by omega) (by unfold need; omega)]
      split
      · rename_i ht
        have := tail_lt (l := l) (by rw [ht]; simp)
        rw [ih 5 l.tail (by omega) (by unfold need; omega)]
      · exact ih 6 l (by omega) (by unfold need; omega)
    · obtain rfl : r = 6 := by omega
      rw [par_one (k + 1) l, par_one k l]
      exact oneP_congr (fun l' => par_less _ _ _) fun l' hl => ih 0 l' (by omega) (by unfold need; omega)
theorem par_fuel {k k' r : Nat} {l : List Tok} (hr : r ≤ 6) (h : need r l ≤ k) (hk : k ≤ k') : par k' r l = par k r l := by
 obtain ⟨d, rfl⟩ := Nat.exists_eq_add_of_le hk
 induction d with
 | zero => rfl
 | succ d ih => rw [← Nat.add_assoc, par_succ (k + d) r l hr (by omega), ih (by omega)]
theorem par_any {k k' r : Nat} {l : List Tok} (hr : r ≤ 6) (h : need r l ≤ k) (h' : need r l ≤ k') : par k' r l = par k r l := by
 rcases Nat.le_total k k' with hk | hk
 · exact par_fuel hr h hk
 · exact (par_fuel hr h' hk).symm
structure TokOk (t : Tok) : Prop where
 kind : t.kind = 1 ∨ t.kind = 2 ∨ t.kind = 3
 one : t.kind = 1 → t.text ≠ [] ∧ ∀ r ∈ t.text, letB r = true
 two : t.kind = 2 → t.text = []
 three : t.kind = 3 → (∃ r, t.text = [r] ∧ sgnB r = true) ∨ t.text = [33, 61] ∨ t.text = [60, 61]
 ok : ∀ r ∈ t.text, okR r
 num : t.n ≤ 9223372036854775807
theorem keepOn_ok {t t' : Tok} {r : Nat} (h : TokOk t) (hr : okR r) (hk : keepOn t r = .yes t') : TokOk t' := by
 have hk0 := hk
 unfold keepOn at hk
 split at hk
 · rename_i hk1
   split at hk
   · rename_i hl
     cases hk
     have := h.one hk1
     refine ⟨.inl rfl, fun _ => ⟨by simp, ?_⟩, fun h => by simp at h, fun h => by simp at h, ?_, h.num⟩
     · intro x hx
       rcases List.mem_append.1 hx with h1 | h1
       · exact this.2 x h1
       · rw [List.mem_singleton.1 h1]; exact hl
     · intro x hx
       rcases List.mem_append.1 hx with h1 | h1
       · exact h.ok x h1
       · rw [List.mem_singleton.1 h1]; exact hr
   · cases hk
 split at hk
 · rename_i hk2
   split at hk
   · rename_i hd
     split at hk
     · cases hk
     · rename_i hn
       cases hk
       have hd' : 48 ≤ r ∧ r ≤ 57 := by unfold digB at hd; simpa using hd
       refine ⟨.inr (.inl rfl), fun h => by simp at h, fun _ => h.two hk2, fun h => by simp at h, h.ok, ?_⟩
       simp only
       omega
   · cases hk
 · rename_i h1 h2
   split at hk
   · rename_i hs
     cases hk
     refine ⟨.inr (.inr rfl), fun h => by simp at h, fun h => by simp at h, fun _ => .inr hs, ?_, h.num⟩
     intro x hx
     rcases List.mem_append.1 hx with h1 | h1
     · exact h.ok x h1
     · rw [List.mem_singleton.1 h1]; exact hr
   · cases hk
theorem beg_ok {r p : Nat} {t : Tok} (hr : okR r) (hg : beg r p = some t) : TokOk t := by
 unfold beg at hg
 split at hg
 · rename_i hl
   cases hg
   exact ⟨.inl rfl, fun _ => ⟨by simp, by simpa using hl⟩, fun h => by simp at h, fun h => by simp at h, by simpa using hr, by simp⟩
 split at hg
 · rename_i hd
   cases hg
   have hd' : 48 ≤ r ∧ r ≤ 57 := by unfold digB at hd; simpa using hd
   exact ⟨.inr (.inl rfl), fun h => by simp at h, fun _ => rfl, fun h => by simp at h, by simp, by simp; omega⟩
 split at hg
 · rename_i hs
   cases hg
   exact ⟨.inr (.inr rfl), fun h => by simp at h, fun h => by simp at h, fun _ => .inl ⟨r, rfl, hs⟩, by simpa using hr, by simp⟩
 · cases hg
theorem scan_ok : ∀ (L : List Nat) (done : List Tok) (cur : Option Tok) (p : Nat), (∀ r ∈ L, okR r ∨ True) → (∀ r ∈ L, okR r) → (∀ t ∈ done, TokOk t) → (∀ t, cur = some t → TokOk t) →
  (∀ t ∈ (scan done cur p L).1, TokOk t) ∧ (scan done cur p L).1.length ≤ done.length + cur.toList.length + L.length
 | [], done, cur, p, _, _, hd, hc => by
  rw [scan_nil]
  refine ⟨fun t ht => ?_, by simp⟩
  rcases List.mem_append.1 ht with h | h
  · exact hd t h
  · exact hc t (Option.mem_toList.1 h)
 | r :: rest, done, cur, p, h0, hL, hd, hc => by
  have hr := hL r (by simp)
  have hL' : ∀ x ∈ rest, okR x := fun x hx => hL x (by simp [hx])
  have hd' : ∀ t ∈ done ++ cur.toList, TokOk t := fun t ht => by
   rcases List.mem_append.1 ht with h | h
   · exact hd t h
   · exact hc t (Option.mem_toList.1 h)
  cases hk : keepO cur r with
  | yes t =>
   rw [scan_yes hk]
   cases cur with
   | none => cases hk
   | some t0 =>
    have := scan_ok rest done (some t) (p + 1) (fun _ _ => .inr trivial) hL' hd (fun t1 e => by cases e; exact keepOn_ok (hc t0 rfl) hr hk)
    refine ⟨this.1, ?_⟩
    have h2 := this.2
    simp at h2 ⊢
    omega
  | big => rw [scan_big hk]; exact ⟨fun t ht => (by cases ht), by simp⟩
  | no =>
   cases hb : blkB r with
   | true =>
    rw [scan_blank hk hb]
    have := scan_ok rest (done ++ cur.toList) none (p + 1) (fun _ _ => .inr trivial) hL' hd' (fun t e => by cases e)
    refine ⟨this.1, ?_⟩
    have h2 := this.2
    simp at h2 ⊢
    omega
   | false =>
    cases hg : beg r p with
    | none => rw [scan_bad hk hb hg]; exact ⟨fun t ht => (by cases ht), by simp⟩
    | some t =>
     rw [scan_beg hk hb hg]
     have := scan_ok rest (done ++ cur.toList) (some t) (p + 1) (fun _ _ => .inr trivial) hL' hd' (fun t1 e => by cases e; exact beg_ok hr hg)
     refine ⟨this.1, ?_⟩
     have h2 := this.2
     simp at h2 ⊢
     omega
end
section
open lex nam
theorem runeCountFrom_rn (s : ByteArray) : ∀ (f pos : Nat), s.size ≤ pos + f → Lib.runeCountFrom s f pos = (rn s pos).length
 | 0, pos, h => by rw [rn_end s pos (by omega)]; rfl
 | f + 1, pos, h => by
  unfold Lib.runeCountFrom
  by_cases hp : pos < s.size
  · have hw := width_pos s pos hp
    rw [if_pos hp, rn_step s pos hp, runeCountFrom_rn s f _ (by omega), List.length_cons]; omega
  · rw [if_neg hp, rn_end s pos hp]; rfl
theorem runeCount_rn (s : ByteArray) : Lib.runeCount s = (rn s 0).length := runeCountFrom_rn s _ _ (by omega)
def Good (n : Nat) (P : List Tok → Prop) : Out → Prop
 | .bad l => P l
 | .ok x l => x.size + l.length ≤ n ∧ Fit x ∧ P l
theorem op_range {r : Nat} (hr : r < 5) {s : List Nat} (h : opAt r s ≠ 0) : 7 ≤ opAt r s ∧ opAt r s ≤ 17 := by
 rcases (show r = 0 ∨ r = 1 ∨ r = 2 ∨ r = 3 ∨ r = 4 by omega) with rfl | rfl | rfl | rfl | rfl
 · unfold opAt at *; by_cases h1 : s = [124] <;> simp [h1] at h ⊢
 · unfold opAt at *; by_cases h1 : s = [38] <;> simp [h1] at h ⊢
 · unfold opAt at *
   simp at *
   by_cases h1 : s = [60]
   · simp [h1]
   by_cases h2 : s = [60, 61]
   · simp [h2]
   by_cases h3 : s = [61]
   · simp [h3]
   by_cases h4 : s = [33, 61]
   · simp [h4]
   · simp [h1, h2, h3, h4] at h
 · unfold opAt at *
   simp at *
   by_cases h1 : s = [43]
   · simp [h1]
   by_cases h2 : s = [45]
   · simp [h2]
   · simp [h1, h2] at h
 · unfold opAt at *
   simp at *
   by_cases h1 : s = [42]
   · simp [h1]
   by_cases h2 : s = [47]
   · simp [h2]
   by_cases h3 : s = [37]
   · simp [h3]
   · simp [h1, h2, h3] at h
theorem fit_mk {o : Nat} {n : Int} {l : List Ex} (h : fitsB o n l.length = true) (hl : ∀ x ∈ l, Fit x) : Fit (.mk o n l) := (fit_eq _).2 ⟨h, hl⟩
theorem fitsB_iff' (o : Nat) (n : Int) (m : Nat) : fitsB o n m = true ↔ 0 ≤ n ∧ (0 < n → o = 1) ∧ ((1 ≤ o ∧ o ≤ 4 ∧ m = 0) ∨ ((o = 5 ∨ o = 6) ∧ m = 1) ∨ (o = 18 ∧ m = 3) ∨ (7 ≤ o ∧ o ≤ 17 ∧ m = 2)) := by
 unfold fitsB
 split
 · simp; omega
 split
 · simp; omega
 split
 · simp; omega
 split
 · simp; omega
 · simp; omega
theorem leaf_good {l : List Tok} (hl : l ≠ []) {o : Nat} {n : Int} (h : fitsB o n 0 = true) : Good l.length (fun _ => True) (.ok (.mk o n []) l.tail) := by
 refine ⟨?_, fit_mk h (fun x hx => by cases hx), trivial⟩
 rw [size_mk, sizes_nil]
 cases l with
 | nil => exact absurd rfl hl
 | cons t l => simp; omega
theorem loopP_good {f : List Tok → Out} {r n : Nat} (hr : r < 5) (hf : ∀ l, Good l.length (fun _ => True) (f l)) : ∀ (m : Nat) (x : Ex) (l : List Tok), x.size + l.length ≤ n → Fit x → Good n (fun _ => True) (loopP f r m x l)
 | 0, x, l, hl, hx => ⟨hl, hx, trivial⟩
 | m + 1, x, l, hl, hx => by
  by_cases h : opAt r (txt l) = 0
  · rw [loopP_none h]; exact ⟨hl, hx, trivial⟩
  · have ht := tail_lt (op_ne h)
    have hh := hf l.tail
    cases e : f l.tail with
    | bad l' => rw [loopP_bad h e]; trivial
    | ok y l' =>
     rw [loopP_ok h e]
     rw [e] at hh
     obtain ⟨h1, h2, _⟩ := hh
     have ho := op_range hr h
     refine loopP_good hr hf m _ l' ?_ (fit_mk ?_ ?_)
     · rw [size_mk, sizes_cons, sizes_cons, sizes_nil]; omega
     · rw [fitsB_iff']; refine ⟨by omega, by omega, ?_⟩; simp; omega
     · intro z hz
       rcases List.mem_cons.1 hz with rfl | hz
       · exact hx
       · rw [List.mem_singleton.1 hz]; exact h2
theorem txt_nil {l : List Tok} (h : txt l ≠ []) : l ≠ [] := fun e => h (by rw [e]; rfl)
theorem oneP_good {f : List Tok → Out} (hf : ∀ l, Good l.length (fun _ => True) (f l)) (l : List Tok) : Good l.length (fun _ => True) (oneP f l) := by
 unfold oneP
 split
 · rename_i h
   refine leaf_good (fun e => by rw [e] at h; simp [knd] at h) ?_
   rw [fitsB_iff']
   refine ⟨by omega, fun _ => rfl, .inl ⟨by omega, by omega, rfl⟩⟩
 split
 · rename_i h; exact leaf_good (txt_nil (by rw [h]; simp)) (by decide)
 split
 · rename_i h; exact leaf_good (txt_nil (by rw [h]; simp)) (by decide)
 split
 · rename_i h; exact leaf_good (txt_nil (by rw [h]; simp)) (by decide)
 split
 · rename_i h
   have ht := tail_lt (l := l) (by rw [h]; simp)
   have hh := hf l.tail
   cases e : f l.tail with
   | bad l' => trivial
   | ok x l' =>
    rw [e] at hh
    simp only []
    split
    · rename_i h2
      have := tail_lt (l := l') (by rw [h2]; simp)
      exact ⟨by have := hh.1; omega, hh.2.1, trivial⟩
    · trivial
 split
 · rename_i h
   have ht := tail_lt (l := l) (by rw [h]; simp [wIf])
   have hh := hf l.tail
   unfold ifP
   cases e : f l.tail with
   | bad l' => trivial
   | ok a l1 =>
    rw [e] at hh
    simp only []
    split
    · rename_i h2
      have ht1 := tail_lt (l := l1) (by rw [h2]; simp [wThen])
      have hh1 := hf l1.tail
      cases e1 : f l1.tail with
      | bad l' => trivial
      | ok b l2 =>
       rw [e1] at hh1
       simp only []
       split
       · rename_i h3
         have ht2 := tail_lt (l := l2) (by rw [h3]; simp [wElse])
         have hh2 := hf l2.tail
         cases e2 : f l2.tail with
         | bad l' => trivial
         | ok c l3 =>
          rw [e2] at hh2
          obtain ⟨a1, a2, _⟩ := hh
          obtain ⟨b1, b2, _⟩ := hh1
          obtain ⟨c1, c2, _⟩ := hh2
          refine ⟨?_, fit_mk (show fitsB 18 0 3 = true by decide) ?_, trivial⟩
          · rw [size_mk, sizes_cons, sizes_cons, sizes_cons, sizes_nil]; omega
          · intro z hz
            simp only [List.mem_cons, List.not_mem_nil, or_false] at hz
            rcases hz with rfl | rfl | rfl
            · exact a2
            · exact b2
            · exact c2
       · trivial
    · trivial
 · trivial
theorem par_good : ∀ (k r : Nat) (l : List Tok), Good l.length (fun _ => True) (par k r l) := by
 intro k
 induction k with
 | zero => intro r l; trivial
 | succ k ih =>
  intro r l
  unfold par
  split
  · rename_i h5
    have hh := ih (r + 1) l
    cases e : par k (r + 1) l with
    | bad l' => trivial
    | ok x l' =>
     rw [e] at hh
     exact loopP_good h5 (fun l2 => ih (r + 1) l2) _ x l' hh.1 hh.2.1
  split
  · split
    · rename_i h
      have ht := tail_lt (l := l) (by rw [h]; simp)
      have hh := ih 5 l.tail
      cases e : par k 5 l.tail with
      | bad l' => trivial
      | ok x l' =>
       rw [e] at hh
       exact ⟨by rw [size_mk, sizes_cons, sizes_nil]; have := hh.1; omega, fit_mk (show fitsB 5 0 1 = true by decide) (fun z hz => by rw [List.mem_singleton.1 hz]; exact hh.2.1), trivial⟩
    split
    · rename_i h
      have ht := tail_lt (l := l) (by rw [h]; simp)
      have hh := ih 5 l.tail
      cases e : par k 5 l.tail with
      | bad l' => trivial
      | ok x l' =>
       rw [e] at hh
       exact ⟨by rw [size_mk, sizes_cons, sizes_nil]; have := hh.1; omega, fit_mk (show fitsB 6 0 1 = true by decide) (fun z hz => by rw [List.mem_singleton.1 hz]; exact hh.2.1), trivial⟩
    · exact ih 6 l
  · exact oneP_good (fun l' => ih 0 l') l
theorem par_size {k r : Nat} {l l' : List Tok} {x : Ex} (h : par k r l = .ok x l') : x.size ≤ l.length ∧ Fit x := by
 have := par_good k r l
 rw [h] at this
 exact ⟨by have := this.1; omega, this.2.1⟩
theorem toks_ok (s : ByteArray) : (∀ t ∈ (toksO s).1, TokOk t) ∧ (toksO s).1.length ≤ 400 := by
 unfold toksO
 split
 · exact ⟨fun t h => (by cases h), by simp⟩
 · rename_i h
   have := scan_ok (rn s 0) [] none 0 (fun _ _ => .inr trivial) (rn_ok s 0) (fun t h => by cases h) (fun t h => by cases h)
   refine ⟨this.1, ?_⟩
   have h1 := this.2
   have h2 := rn_length s 0
   simp at h1
   omega
end
section
open Go.RowKit nam lex
structure Src where
 B : Nat
 tv : Value
 toks : List Tok
 en : Nat
 rb : Nat
structure Rs (S : Src) (w : World) (i : Nat) : Prop where
 row : Toks w S.B S.tv S.toks
 box : w.heap[S.rb]? = some (.cells #[S.tv, .int .i64 (i : Int), .int .i64 (S.en : Int)] 237 (0, 0))
 le : i ≤ S.toks.length
 few : S.toks.length ≤ 400
 ok : ∀ t ∈ S.toks, TokOk t
def Src.at (S : Src) (i : Nat) : List Tok := S.toks.drop i
def Mine (S : Src) (k : Nat) : Prop := k = S.rb
theorem Rs.lt {S : Src} {w : World} {i : Nat} (h : Rs S w i) : S.rb < w.heap.size := (Array.getElem?_eq_some_iff.1 h.box).1
theorem Rs.frame {S : Src} {w w' : World} {i : Nat} (h : Rs S w i) (hf : ∀ b, b < w.heap.size → w'.heap[b]? = w.heap[b]?) : Rs S w' i := by
 refine ⟨?_, (hf _ h.lt).trans h.box, h.le, h.few, h.ok⟩
 have h1 := h.row
 rcases h1 with ⟨h2, h3 | ⟨g, cap, cur, h4, h5, h6, h7⟩⟩
 · exact ⟨h2, .inl h3⟩
 · exact ⟨h2, .inr ⟨g, cap, cur, h4, h5, (hf g (Array.getElem?_eq_some_iff.1 h6).1).trans h6, h7⟩⟩
theorem Rs.under {S : Src} {w w' : World} {i : Nat} (h : Rs S w i) (hb : Below w.heap.size w w') : Rs S w' i := h.frame fun b hb' => hb.block b hb'
theorem Rs.drew {S : Src} {w : World} {i : Nat} (h : Rs S w i) : Rs S w.drew i := h.frame fun _ _ => rfl
theorem Rs.set {S : Src} {w : World} {i : Nat} (h : Rs S w i) {j : Nat} (hj : j ≤ S.toks.length) : Rs S (w.setCell ⟨S.rb, 1, none⟩ (.int .i64 (j : Int))) j := by
 refine ⟨?_, heap_setCell_same w S.rb 1 _ 237 _ h.box, hj, h.few, h.ok⟩
 rcases h.row with ⟨h2, h3 | ⟨g, cap, cur, h4, h5, h6, h7⟩⟩
 · exact ⟨h2, .inl h3⟩
 · have hne : g ≠ S.rb := by
    rintro rfl
    have := h.box
    rw [h6] at this
    simp at this
   exact ⟨h2, .inr ⟨g, cap, cur, h4, h5, (Below.heap_setCell w ⟨S.rb, 1, none⟩ _ g hne).trans h6, h7⟩⟩
theorem Rs.cells {S : Src} {w : World} {i : Nat} (h : Rs S w i) : w.cell? ⟨S.rb, 0, none⟩ = some S.tv ∧ w.cell? ⟨S.rb, 1, none⟩ = some (.int .i64 (i : Int)) ∧ w.cell? ⟨S.rb, 2, none⟩ = some (.int .i64 (S.en : Int)) ∧ w.frozen? ⟨S.rb, 1, none⟩ = false :=
 ⟨cell_of h.box rfl, cell_of h.box rfl, cell_of h.box rfl, by simp [World.frozen?, h.box]⟩
def tokA (l : List Tok) (en : Nat) : Value := .agg #[.int .u8 (knd l : Int), .string (textOf (txt l)), .int .i64 (num l : Int), .int .i64 (placeOf l en : Int)]
theorem at_nil {S : Src} {i : Nat} (h : i = S.toks.length) : S.at i = [] := by unfold Src.at; rw [List.drop_eq_nil_of_le (by omega)]
theorem at_cons {S : Src} {i : Nat} (h : i < S.toks.length) : S.at i = S.toks[i] :: S.at (i + 1) := List.drop_eq_getElem_cons h
theorem at_tail (S : Src) (i : Nat) : (S.at i).tail = S.at (i + 1) := by unfold Src.at; rw [List.tail_drop]
theorem at_len (S : Src) (i : Nat) : (S.at i).length = S.toks.length - i := by unfold Src.at; rw [List.length_drop]
theorem at_ok {S : Src} {w : World} {i : Nat} (h : Rs S w i) : ∀ r ∈ txt (S.at i), okR r := by
 by_cases hi : i < S.toks.length
 · rw [at_cons hi]
   exact (h.ok _ (List.getElem_mem hi)).ok
 · rw [at_nil (by have := h.le; omega)]
   intro r hr
   cases hr
theorem at_lt {S : Src} {i : Nat} (h : txt (S.at i) ≠ []) : i < S.toks.length := by
 by_cases hi : i < S.toks.length
 · exact hi
 · exact absurd (by unfold Src.at; rw [List.drop_eq_nil_of_le (by omega)]; rfl) h
set_option maxHeartbeats 1600000 in
set_option maxRecDepth 1000000 in
theorem token_at {S : Src} {w : World} {i : Nat} (h0 : Rs S w i) : Calls Tryz.prog 163 #[ptr S.rb] w fun e w' => e = .returned (tokA (S.at i) S.en) ∧ Below w.heap.size w w' := by
 obtain ⟨W, hW⟩ : ∃ W, w.alloc (.cells #[.int .u8 0, .string ⟨#[]⟩, .int .i64 0, .int .i64 0] 241) = W := ⟨_, rfl⟩
 obtain ⟨N, hN⟩ : ∃ N, w.heap.size = N := ⟨_, rfl⟩
 have hwb : Below w.heap.size w W := by rw [← hW]; exact (Below.refl _ _).alloc (Nat.le_refl _) _
 have hbx : W.heap[N]? = some (.cells #[.int .u8 0, .string ⟨#[]⟩, .int .i64 0, .int .i64 0] 241 (0, 0)) := by rw [← hW]; exact heap_last hN.symm
 have h := h0.under hwb
 obtain ⟨c0, c1, c2, _⟩ := h.cells
 obtain ⟨a, c, hv, ha⟩ := toks_form h.row
 have hfew := h.few
 have hle := h.le
 have hrow := h.row
 rw [hv] at c0 hrow
 unfold ptr
 obtain ⟨n, hn⟩ : ∃ n, S.toks.length = n := ⟨_, rfl⟩
 rw [hn] at c0 hfew hle hrow ha
 have z0 : W.cell? ⟨N, 0, none⟩ = some (.int .u8 0) := cell_of hbx rfl
 have z1 : W.cell? ⟨N, 1, none⟩ = some (.string ⟨#[]⟩) := cell_of hbx rfl
 have z2 : W.cell? ⟨N, 2, none⟩ = some (.int .i64 0) := cell_of hbx rfl
 have z3 : W.cell? ⟨N, 3, none⟩ = some (.int .i64 0) := cell_of hbx rfl
 have zf : ∀ j, W.frozen? ⟨N, j, none⟩ = false := fun j => by simp [World.frozen?, hbx]
 have zf0 := zf 0; have zf1 := zf 1; have zf2 := zf 2; have zf3 := zf 3
 have HWB : Hid (∀ (W' : World) (a b c d : Value), W'.heap = (((((W.setCell ⟨N, 0, none⟩ a).setCell ⟨N, 1, none⟩ b).setCell ⟨N, 2, none⟩ c).setCell ⟨N, 3, none⟩ d)).heap → W'.os = W.os → W'.tape = W.tape → W'.output = W.output → Below w.heap.size w W') := Lib.hid (by
  intro W' a b c d e1 e2 e3 e4
  have hb := (((hwb.setCell (p := ⟨N, 0, none⟩) (by show w.heap.size ≤ N; omega) a).setCell (p := ⟨N, 1, none⟩) (by show w.heap.size ≤ N; omega) b).setCell (p := ⟨N, 2, none⟩) (by show w.heap.size ≤ N; omega) c).setCell (p := ⟨N, 3, none⟩) (by show w.heap.size ≤ N; omega) d
  exact ⟨e2.trans hb.os, e3.trans hb.tape, e4.trans hb.output, by rw [e1]; exact hb.size, fun k hk => by rw [e1]; exact hb.block k hk⟩)
 by_cases hi : i < n
 · obtain ⟨g, rfl⟩ := ha (by omega)
   have hi' : i < S.toks.length := by omega
   have hr := toks_range (j := i) (t := S.toks[i]) hrow (by omega) (by simp [hi'])
   have e0 : W.cell? ⟨g, i * 4, none⟩ = some (.int .u8 (S.toks[i].kind : Int)) := hr 0 _ rfl
   have e1 : W.cell? ⟨g, i * 4 + 1, none⟩ = some (.string (textOf S.toks[i].text)) := hr 1 _ rfl
   have e2 : W.cell? ⟨g, i * 4 + 2, none⟩ = some (.int .i64 (S.toks[i].n : Int)) := hr 2 _ rfl
   have e3 : W.cell? ⟨g, i * 4 + 3, none⟩ = some (.int .i64 (S.toks[i].place : Int)) := hr 3 _ rfl
   have hA : tokA (S.at i) S.en = .agg #[.int .u8 (S.toks[i].kind : Int), .string (textOf S.toks[i].text), .int .i64 (S.toks[i].n : Int), .int .i64 (S.toks[i].place : Int)] := by rw [at_cons hi']; rfl
   rw [hA]
   generalize S.toks[i] = t at e0 e1 e2 e3
   have hne : ((i : Int) == (n : Int)) = false := by simp; omega
   have hin : (i : Int) < (n : Int) := by omega
   have hHN := Lib.hid hn
   clear h h0 hA hr hrow hn hbx hwb zf
   go_enter Tryz.func163, Tryz.ntmps163
   go_wp2_with fail
   go_quiet (fail)
   go_wp2_with fail
   go_region
   all_goals (go_wp2_with fail; refine bodyPost_ret (v := .agg #[.int .u8 (t.kind : Int), .string (textOf t.text), .int .i64 (t.n : Int), .int .i64 (t.place : Int)]) (by simp [results, Tryz.f163, go_sem, z0, z1, z2, z3]) rfl ⟨rfl, HWB.out _ _ _ _ _ rfl rfl rfl rfl⟩)
 · have hin : i = n := by omega
   have hA : tokA (S.at i) S.en = .agg #[.int .u8 0, .string ⟨#[]⟩, .int .i64 0, .int .i64 (S.en : Int)] := by rw [at_nil (by omega)]; rfl
   rw [hA]
   have hne : ((i : Int) == (n : Int)) = true := by simp; omega
   have hHN := Lib.hid hn
   have HI := Lib.hid hin
   clear h h0 hA hrow hn ha hin hbx hwb zf
   go_enter Tryz.func163, Tryz.ntmps163
   go_wp2_with fail
   go_quiet (fail)
   go_wp2_with fail
   refine bodyPost_ret (v := .agg #[.int .u8 0, .string ⟨#[]⟩, .int .i64 0, .int .i64 (S.en : Int)]) (by simp [results, Tryz.f163, go_sem, z0, z1, z2, z3]) rfl ⟨rfl, HWB.out _ _ _ _ _ rfl rfl rfl rfl⟩
end
section
open Go.RowKit nam lex
theorem Rs.next {S : Src} {w : World} {i : Nat} (h : Rs S w i) (hi : i < S.toks.length) : Rs S (w.setCell ⟨S.rb, 1, none⟩ (.int .i64 ((i : Int) + 1))) (i + 1) := by
 rw [show ((i : Int) + 1) = ((i + 1 : Nat) : Int) by omega]
 exact h.set (by omega)
theorem field_txt (a b c : Value) (X : ByteArray) (w : World) : (Instr.field 241 (.agg #[a, .string X, b, c]) 1).run Tryz.prog w = .ok (.string X) w := by kernel_rfl
theorem field_at (a b c : Value) (n : Int) (w : World) : (Instr.field 241 (.agg #[a, b, c, .int .i64 n]) 3).run Tryz.prog w = .ok (.int .i64 n) w := by kernel_rfl
theorem str_eq {a b : ByteArray} (h : a = b) : (a.toList == b.toList) = true := by subst h; simp
theorem str_ne {a b : ByteArray} (h : a ≠ b) : (a.toList == b.toList) = false := by
 rw [beq_eq_false_iff_ne]
 intro e
 rw [ByteArray.toList_eq, ByteArray.toList_eq] at e
 exact h (WideShapes.bytes_inj e)
theorem txt_ne' {l : List Nat} {t : List Nat} {T : ByteArray} (hl : ∀ r ∈ l, okR r) (ht : ∀ r ∈ t, okR r) (hT : textOf t = T) (h : l ≠ t) : textOf l ≠ T := fun e => h (textOf_inj hl ht (e.trans hT.symm))
set_option maxRecDepth 1000000 in
theorem takes_no {S : Src} {w : World} {i : Nat} (h : Rs S w i) {t : List Nat} (hto : ∀ r ∈ t, okR r) {T : ByteArray} (hT : textOf t = T) (hn : txt (S.at i) ≠ t) :
  Calls Tryz.prog 231 #[ptr S.rb, .string T] w fun e w' => e = .returned (.bool false) ∧ Rs S w' i ∧ Below w.heap.size w w' := by
 have hx := str_ne (txt_ne' (at_ok h) hto hT hn)
 have HT := Lib.hid (token_at h)
 have hft := field_txt
 have HR := Lib.hid h
 unfold tokA at HT
 unfold ptr at *
 generalize textOf (txt (S.at i)) = X at hx HT
 clear h hn
 go_enter Tryz.func231, Tryz.ntmps231
 go_wp2_with fail
 refine HT.out.mono ?_
 rintro e w' ⟨rfl, hb⟩
 have HB := Lib.hid hb; clear hb
 go_wp2_with fail
 go_ret
 exact ⟨rfl, HR.out.under HB.out, HB.out⟩
set_option maxRecDepth 1000000 in
theorem takes_yes {S : Src} {w : World} {i : Nat} (h : Rs S w i) {t : List Nat} (ht : t ≠ []) {T : ByteArray} (hT : textOf t = T) (hn : txt (S.at i) = t) :
  Calls Tryz.prog 231 #[ptr S.rb, .string T] w fun e w' => e = .returned (.bool true) ∧ Rs S w' (i + 1) ∧ Only (Mine S) w w' := by
 have hi : i < S.toks.length := at_lt (by rw [hn]; exact ht)
 have hx := str_eq (a := textOf (txt (S.at i))) (b := T) (by rw [hn, hT])
 have HT := Lib.hid (token_at h)
 have hft := field_txt
 have HR := Lib.hid h
 have hfew := h.few
 have hi400 : (i : Int) < 400 := by omega
 unfold tokA at HT
 unfold ptr at *
 generalize textOf (txt (S.at i)) = X at hx HT
 clear h hn
 go_enter Tryz.func231, Tryz.ntmps231
 go_wp2_with fail
 refine HT.out.mono ?_
 rintro e w' ⟨rfl, hb⟩
 have hr := HR.out.under hb
 obtain ⟨c0, c1, c2, cf⟩ := hr.cells
 have HR2 := Lib.hid hr
 have HB := Lib.hid hb; clear hb hr
 go_wp2_with fail
 go_ret
 exact ⟨rfl, HR2.out.next hi, (Only.of_below HB.out).then (Only.setCell _ _ _ _ rfl)⟩
def sgs (r : Nat) : List (List Nat) :=
 if r = 0 then [[124]] else if r = 1 then [[38]] else if r = 2 then [[60], [60, 61], [61], [33, 61]] else if r = 3 then [[43], [45]] else [[42], [47], [37]]
theorem opAt_sgs {r : Nat} (hr : r < 5) (s : List Nat) : opAt r s ≠ 0 ↔ s ∈ sgs r := by
 rcases (show r = 0 ∨ r = 1 ∨ r = 2 ∨ r = 3 ∨ r = 4 by omega) with rfl | rfl | rfl | rfl | rfl
 · unfold opAt sgs; by_cases h : s = [124] <;> simp [h]
 · unfold opAt sgs; by_cases h : s = [38] <;> simp [h]
 · unfold opAt sgs
   by_cases h1 : s = [60]
   · simp [h1]
   by_cases h2 : s = [60, 61]
   · simp [h2]
   by_cases h3 : s = [61]
   · simp [h3]
   by_cases h4 : s = [33, 61]
   · simp [h4]
   · simp [h1, h2, h3, h4]
 · unfold opAt sgs
   by_cases h1 : s = [43]
   · simp [h1]
   by_cases h2 : s = [45]
   · simp [h2]
   · simp [h1, h2]
 · unfold opAt sgs
   by_cases h1 : s = [42]
   · simp [h1]
   by_cases h2 : s = [47]
   · simp [h2]
   by_cases h3 : s = [37]
   · simp [h3]
   · simp [h1, h2, h3]
theorem lit1 (a : Nat) (ha : a < 128) : textOf [a] = ⟨#[UInt8.ofNat a]⟩ := by
 apply byteArray_ext
 rw [textOf_toList]
 simp [enc, ha]
theorem lit2 (a b : Nat) (ha : a < 128) (hb : b < 128) : textOf [a, b] = ⟨#[UInt8.ofNat a, UInt8.ofNat b]⟩ := by
 apply byteArray_ext
 rw [textOf_toList]
 simp [enc, ha, hb]
theorem lit3 (a b c : Nat) (ha : a < 128) (hb : b < 128) (hc : c < 128) : textOf [a, b, c] = ⟨#[UInt8.ofNat a, UInt8.ofNat b, UInt8.ofNat c]⟩ := by
 apply byteArray_ext
 rw [textOf_toList]
 simp [enc, ha, hb, hc]
theorem lit4 (a b c d : Nat) (ha : a < 128) (hb : b < 128) (hc : c < 128) (hd : d < 128) : textOf [a, b, c, d] = ⟨#[UInt8.ofNat a, UInt8.ofNat b, UInt8.ofNat c, UInt8.ofNat d]⟩ := by
 apply byteArray_ext
 rw [textOf_toList]
 simp [enc, ha, hb, hc, hd]
set_option maxHeartbeats 1600000 in
set_option maxRecDepth 1000000 in
theorem ofTwo_any {r : Nat} (hr : r < 5) {s : List Nat} (h : opAt r s ≠ 0) (w : World) : Calls Tryz.prog 214 #[.string (textOf s)] w fun e w' => e = .returned (.int .u8 (opAt r s : Int)) ∧ w = w' := by
 have hs := (opAt_sgs hr s).1 h
 rcases (show r = 0 ∨ r = 1 ∨ r = 2 ∨ r = 3 ∨ r = 4 by omega) with rfl | rfl | rfl | rfl | rfl
 all_goals (simp [sgs] at hs)
 · subst hs
   rw [lit1 _ (by omega)]
   go_enter Tryz.func214, Tryz.ntmps214
   go_wp2
   go_ret
   exact ⟨rfl, rfl⟩
 · subst hs
   rw [lit1 _ (by omega)]
   go_enter Tryz.func214, Tryz.ntmps214
   go_wp2
   go_ret
   exact ⟨rfl, rfl⟩
 · rcases hs with rfl | rfl | rfl | rfl
   · rw [lit1 _ (by omega)]
     go_enter Tryz.func214, Tryz.ntmps214
     go_wp2
     go_ret
     exact ⟨rfl, rfl⟩
   · rw [lit2 _ _ (by omega) (by omega)]
     go_enter Tryz.func214, Tryz.ntmps214
     go_wp2
     go_ret
     exact ⟨rfl, rfl⟩
   · rw [lit1 _ (by omega)]
     go_enter Tryz.func214, Tryz.ntmps214
     go_wp2
     go_ret
     exact ⟨rfl, rfl⟩
   · rw [lit2 _ _ (by omega) (by omega)]
     go_enter Tryz.func214, Tryz.ntmps214
     go_wp2
     go_ret
     exact ⟨rfl, rfl⟩
 · rcases hs with rfl | rfl
   · rw [lit1 _ (by omega)]
     go_enter Tryz.func214, Tryz.ntmps214
     go_wp2
     go_ret
     exact ⟨rfl, rfl⟩
   · rw [lit1 _ (by omega)]
     go_enter Tryz.func214, Tryz.ntmps214
     go_wp2
     go_ret
     exact ⟨rfl, rfl⟩
 · rcases hs with rfl | rfl | rfl
   · rw [lit1 _ (by omega)]
     go_enter Tryz.func214, Tryz.ntmps214
     go_wp2
     go_ret
     exact ⟨rfl, rfl⟩
   · rw [lit1 _ (by omega)]
     go_enter Tryz.func214, Tryz.ntmps214
     go_wp2
     go_ret
     exact ⟨rfl, rfl⟩
   · rw [lit1 _ (by omega)]
     go_enter Tryz.func214, Tryz.ntmps214
     go_wp2
     go_ret
     exact ⟨rfl, rfl⟩
end
section
open Go.RowKit nam lex
def Tells (S : Src) (F : Nat → Prop) (o : Out) (w' : World) (A N : Int) (p : Option Addr) (n c : Nat) (b : Bool) (i : Nat) : Prop :=
 match o with
 | .bad l => b = false ∧ S.at i = l
 | .ok x l => b = true ∧ A = (x.op : Int) ∧ N = x.n ∧ n = x.args.length ∧ Lies w' F (.slice p n c) x.args ∧ S.at i = l
def From (w : World) (b : Nat) : Prop := w.heap.size ≤ b
def PPost (S : Src) (o : Out) (w : World) (e : Ending) (w' : World) : Prop :=
 ∃ (A N : Int) (p : Option Addr) (n c : Nat) (b : Bool) (i : Nat), e = .returned (.tuple #[.agg #[.int .u8 A, .int .i64 N, .slice p n c], .bool b]) ∧ Rs S w' i ∧ Only (Mine S) w w' ∧ Tells S (From w) o w' A N p n c b i
def Bx (w : World) (b : Nat) (A N : Int) (p : Option Addr) (n c : Nat) : Prop := w.heap[b]? = some (.cells #[.int .u8 A, .int .i64 N, .slice p n c] 46 (0, 0))
theorem Bx.cells {w : World} {b n c : Nat} {A N : Int} {p : Option Addr} (h : Bx w b A N p n c) : w.cell? ⟨b, 0, none⟩ = some (.int .u8 A) ∧ w.cell? ⟨b, 1, none⟩ = some (.int .i64 N) ∧ w.cell? ⟨b, 2, none⟩ = some (.slice p n c) ∧
  w.frozen? ⟨b, 0, none⟩ = false ∧ w.frozen? ⟨b, 1, none⟩ = false ∧ w.frozen? ⟨b, 2, none⟩ = false :=
 ⟨cell_of h rfl, cell_of h rfl, cell_of h rfl, by simp [World.frozen?, show w.heap[b]? = _ from h], by simp [World.frozen?, show w.heap[b]? = _ from h], by simp [World.frozen?, show w.heap[b]? = _ from h]⟩
theorem Bx.lt {w : World} {b n c : Nat} {A N : Int} {p : Option Addr} (h : Bx w b A N p n c) : b < w.heap.size := (Array.getElem?_eq_some_iff.1 h).1
theorem Bx.under {w w' : World} {b n c : Nat} {A N : Int} {p : Option Addr} (h : Bx w b A N p n c) (hb : Below w.heap.size w w') : Bx w' b A N p n c := (hb.block b h.lt).trans h
theorem Bx.only {S : Src} {w w' : World} {b n c i : Nat} {A N : Int} {p : Option Addr} (h : Bx w b A N p n c) (hb : Only (Mine S) w w') (hr : Rs S w i) : Bx w' b A N p n c :=
 (hb.block b h.lt (fun e => by
  have h1 := hr.box
  have h2 : w.heap[b]? = _ := h
  rw [show b = S.rb from e, h1] at h2
  simp at h2)).trans h
def set3 (w : World) (b : Nat) (A N : Int) (p : Option Addr) (n c : Nat) : World := ((w.setCell ⟨b, 0, none⟩ (.int .u8 A)).setCell ⟨b, 1, none⟩ (.int .i64 N)).setCell ⟨b, 2, none⟩ (.slice p n c)
theorem Bx.set {w : World} {b n c : Nat} {A N : Int} {p : Option Addr} (h : Bx w b A N p n c) (A' N' : Int) (p' : Option Addr) (n' c' : Nat) : Bx (set3 w b A' N' p' n' c') b A' N' p' n' c' := by
 have h1 := heap_setCell_same w b 0 _ 46 (.int .u8 A') h
 have h2 := heap_setCell_same _ b 1 _ 46 (.int .i64 N') h1
 exact heap_setCell_same _ b 2 _ 46 (.slice p' n' c') h2
theorem set3_other {w : World} {b k n c : Nat} {A N : Int} {p : Option Addr} (hk : k ≠ b) : (set3 w b A N p n c).heap[k]? = w.heap[k]? := by
 unfold set3
 rw [Below.heap_setCell _ _ _ _ hk, Below.heap_setCell _ _ _ _ hk, Below.heap_setCell _ _ _ _ hk]
theorem set3_only {F : Nat → Prop} {w w' : World} {b n c : Nat} {A N : Int} {p : Option Addr} (h : Only F w w') (hb : w.heap.size ≤ b) : Only F w (set3 w' b A N p n c) := by
 refine ⟨h.os, h.tape, h.output, ?_, fun k hk hn => ?_⟩
 · have := h.size; simp [set3]; exact this
 · rw [set3_other (by omega)]; exact h.block k hk hn
theorem lies_two {w : World} {F : Nat → Prop} {b c1 c2 n1 n2 : Nat} {p1 p2 : Option Addr} {x y : Ex} (hF : F b) (hb : w.heap[b]? = some (.cells #[.int .u8 (x.op : Int), .int .i64 x.n, .slice p1 n1 c1, .int .u8 (y.op : Int), .int .i64 y.n, .slice p2 n2 c2] 46 (0, 0)))
  (h1 : Lies w F (.slice p1 n1 c1) x.args) (h2 : Lies w F (.slice p2 n2 c2) y.args) : Lies w F (.slice (some ⟨b, 0, none⟩) 2 2) [x, y] := by
 refine .row b 2 2 _ [x, y] (fun i => if i = 0 then .slice p1 n1 c1 else .slice p2 n2 c2) hF hb rfl ?_ ?_
 · intro i hi
   match i, hi with
   | 0, _ => exact ⟨rfl, rfl, rfl⟩
   | 1, _ => exact ⟨rfl, rfl, rfl⟩
 · intro i hi
   match i, hi with
   | 0, _ => exact h1
   | 1, _ => exact h2
def Sgs (w : World) (sb : Nat) (zs : List ByteArray) : Prop := ∃ cur, w.heap[sb]? = some (.cells cur 9 (0, 0)) ∧ ∀ j (h : j < zs.length), cur[j]? = some (.string zs[j])
theorem Sgs.cell {w : World} {sb : Nat} {zs : List ByteArray} (h : Sgs w sb zs) : ∀ j, j < zs.length → w.cell? ⟨sb, 0 + j, none⟩ = some (.string (zs.getD j ByteArray.empty)) := by
 obtain ⟨cur, h1, h2⟩ := h
 intro j hj
 rw [Nat.zero_add]
 exact cell_of h1 (by rw [h2 j hj]; simp [hj])
theorem Sgs.only {S : Src} {w w' : World} {sb i : Nat} {zs : List ByteArray} (h : Sgs w sb zs) (hb : Only (Mine S) w w') (hr : Rs S w i) : Sgs w' sb zs := by
 obtain ⟨cur, h1, h2⟩ := h
 refine ⟨cur, (hb.block sb (Array.getElem?_eq_some_iff.1 h1).1 (fun e => ?_)).trans h1, h2⟩
 have h3 := hr.box
 rw [show sb = S.rb from e, h3] at h1
 simp at h1
theorem level_sgn {S : Src} {w : World} {i sb c r : Nat} {zs : List ByteArray} (hr : r < 5) (hz : zs = (sgs r).map textOf) (h : Sgs w sb zs) (hs : Rs S w i) :
  Calls Tryz.prog 213 #[.slice (some ⟨sb, 0, none⟩) zs.length c, .string (textOf (txt (S.at i)))] w fun e w' => e = .returned (.bool (decide (opAt r (txt (S.at i)) ≠ 0))) ∧ w = w' := by
 have hl : zs.length ≤ 4 := by
  rw [hz, List.length_map]
  unfold sgs
  split
  · simp
  split
  · simp
  split
  · simp
  split
  · simp
  · simp
 have hc := Tryz.slices_Contains_string sb 0 zs.length c zs (textOf (txt (S.at i))) w (Nat.le_refl _) (by omega) h.cell
 rw [List.take_length] at hc
 refine hc.mono ?_
 rintro e w' ⟨rfl, rfl⟩
 refine ⟨ret_bool ?_, rfl⟩
 rw [Bool.eq_iff_iff, Lib.containsS_iff, decide_eq_true_eq, opAt_sgs hr, hz, List.mem_map]
 constructor
 · rintro ⟨s, h1, h2⟩
   have : s = txt (S.at i) := textOf_inj (fun x hx => ?_) (at_ok hs) h2
   · exact this ▸ h1
   · have : ∀ s ∈ sgs r, ∀ x ∈ s, okR x := by
      rcases (show r = 0 ∨ r = 1 ∨ r = 2 ∨ r = 3 ∨ r = 4 by omega) with rfl | rfl | rfl | rfl | rfl <;> simp [sgs, okR]
     exact this s h1 x hx
 · exact fun h => ⟨_, h, rfl⟩
theorem tok_txt {S : Src} {w : World} {i : Nat} (h : Rs S w i) {X : ByteArray} (hX : textOf (txt (S.at i)) = X) : Calls Tryz.prog 163 #[ptr S.rb] w fun e w' => ∃ a b c, e = .returned (.agg #[a, .string X, b, c]) ∧ Below w.heap.size w w' := by
 refine (token_at h).mono ?_
 rintro e w' ⟨rfl, hb⟩
 exact ⟨_, _, _, by unfold tokA; rw [hX], hb⟩
theorem sgn_txt {S : Src} {w : World} {i sb c r : Nat} {zs : List ByteArray} (hr : r < 5) (hz : zs = (sgs r).map textOf) (h : Sgs w sb zs) (hs : Rs S w i) {X : ByteArray} (hX : textOf (txt (S.at i)) = X) {b : Bool} (hb : decide (opAt r (txt (S.at i)) ≠ 0) = b) :
  Calls Tryz.prog 213 #[.slice (some ⟨sb, 0, none⟩) zs.length c, .string X] w fun e w' => e = .returned (.bool b) ∧ w = w' := by
 have := level_sgn (c := c) hr hz h hs
 rw [hX, hb] at this
 exact this
theorem two_txt {r : Nat} (hr : r < 5) {s : List Nat} (h : opAt r s ≠ 0) {X : ByteArray} (hX : textOf s = X) {o : Nat} (ho : opAt r s = o) (w : World) : Calls Tryz.prog 214 #[.string X] w fun e w' => e = .returned (.int .u8 (o : Int)) ∧ w = w' := by
 have := ofTwo_any hr h w
 rw [hX, ho] at this
 exact this
theorem Rs.set3 {S : Src} {w : World} {i b n c n' c' : Nat} {A N A' N' : Int} {p p' : Option Addr} (hr : Rs S w i) (h1 : Bx w b A N p n c) : Rs S (set3 w b A' N' p' n' c') i := by
 unfold Bx at h1
 have hne : S.rb ≠ b := fun e => by
  rw [← e, hr.box] at h1
  simp at h1
 refine ⟨?_, (set3_other hne).trans hr.box, hr.le, hr.few, hr.ok⟩
 rcases hr.row with ⟨h2, h3 | ⟨g, cap, cur, h4, h5, h6, h7⟩⟩
 · exact ⟨h2, .inl h3⟩
 · refine ⟨h2, .inr ⟨g, cap, cur, h4, h5, (set3_other fun e => ?_).trans h6, h7⟩⟩
   rw [← e, h6] at h1
   simp at h1
def rowO (f : List Tok → Out) (r m : Nat) (l : List Tok) : Out :=
 match f l with
 | .bad l' => .bad l'
 | .ok x l' => loopP f r m x l'
def Fx (w : World) (N0 N1 : Nat) (b : Nat) : Prop := w.heap.size ≤ b ∧ b ≠ N0 ∧ b ≠ N1
structure Lv (S : Src) (w : World) (f : List Tok → Out) (r L N0 N1 : Nat) (O : Out) (m : Nat) (b : Bool) (wr : World) (A N : Int) (p : Option Addr) (n c i : Nat) : Prop where
 only : Only (Mine S) w wr
 box0 : Bx wr N0 0 0 none 0 0
 box1 : Bx wr N1 A N p n c
 rs : Rs S wr i
 yes : b = true → ∃ x : Ex, A = (x.op : Int) ∧ N = x.n ∧ n = x.args.length ∧ Lies wr (Fx w N0 N1) (.slice p n c) x.args ∧ loopP f r m x (S.at i) = O ∧ (S.at i).length < L
 no : b = false → O = .bad (S.at i)
theorem Lv.under {S : Src} {w : World} {f : List Tok → Out} {r L N0 N1 : Nat} {O : Out} {m : Nat} {b : Bool} {wr w5 : World} {A N : Int} {p : Option Addr} {n c i : Nat} (h : Lv S w f r L N0 N1 O m b wr A N p n c i) (hb : Below wr.heap.size wr w5) : Lv S w f r L N0 N1 O m b w5 A N p n c i :=
 ⟨h.only.then (.of_below hb), h.box0.under hb, h.box1.under hb, h.rs.under hb, fun hy => by obtain ⟨x, h1, h2, h3, h4, h5⟩ := h.yes hy; exact ⟨x, h1, h2, h3, h4.under hb, h5⟩, h.no⟩
theorem lv_end {S : Src} {w : World} {f : List Tok → Out} {r L N0 N1 : Nat} {O : Out} {m : Nat} {b : Bool} {wr : World} {A N : Int} {p : Option Addr} {n c i : Nat} (h : Lv S w f r L N0 N1 O m b wr A N p n c i) (hN0 : w.heap.size = N0) (hN1 : N0 < N1)
  (hx : b = true → opAt r (txt (S.at i)) = 0 ∨ m = 0) : PPost S O w (.returned (.tuple #[.agg #[.int .u8 A, .int .i64 N, .slice p n c], .bool b])) (set3 wr N0 A N p n c) := by
 have hrs : Rs S (set3 wr N0 A N p n c) i := h.rs.set3 h.box0
 refine ⟨A, N, p, n, c, b, i, rfl, hrs, set3_only h.only (by omega), ?_⟩
 cases b with
 | false => rw [h.no rfl]; exact ⟨rfl, rfl⟩
 | true =>
  obtain ⟨x, h1, h2, h3, h4, h5, h6⟩ := h.yes rfl
  have ho : O = .ok x (S.at i) := by
   rw [← h5]
   rcases hx rfl with h7 | rfl
   · exact loopP_none h7
   · rfl
  rw [ho]
  exact ⟨rfl, h1, h2, h3, (h4.frame fun k cc hk hcc => set3_other (fun e => hk.2.1 e)).mono fun k hk => hk.1, rfl⟩
theorem Lv.cells {S : Src} {w : World} {f : List Tok → Out} {r L N0 N1 : Nat} {O : Out} {m : Nat} {b : Bool} {wr : World} {A N : Int} {p : Option Addr} {n c i : Nat} (h : Lv S w f r L N0 N1 O m b wr A N p n c i) :
  wr.cell? ⟨N0, 0, none⟩ = some (.int .u8 0) ∧ wr.cell? ⟨N0, 1, none⟩ = some (.int .i64 0) ∧ wr.cell? ⟨N0, 2, none⟩ = some (.slice none 0 0) ∧ wr.frozen? ⟨N0, 0, none⟩ = false ∧ wr.frozen? ⟨N0, 1, none⟩ = false ∧ wr.frozen? ⟨N0, 2, none⟩ = false ∧
  wr.cell? ⟨N1, 0, none⟩ = some (.int .u8 A) ∧ wr.cell? ⟨N1, 1, none⟩ = some (.int .i64 N) ∧ wr.cell? ⟨N1, 2, none⟩ = some (.slice p n c) := by
 obtain ⟨a1, a2, a3, a4, a5, a6⟩ := h.box0.cells
 obtain ⟨b1, b2, b3, _⟩ := h.box1.cells
 exact ⟨a1, a2, a3, a4, a5, a6, b1, b2, b3⟩
structure Stp (S : Src) (f : List Tok → Out) (wb wd we : World) (i3 N2 : Nat) (A2 M2 : Int) (p2 : Option Addr) (n2 c2 : Nat) (b2 : Bool) (i4 : Nat) : Prop where
 eq : (wb.setCell ⟨S.rb, 1, none⟩ (.int .i64 ((i3 : Int) + 1))).alloc (.cells #[.int .u8 0, .int .i64 0, .slice none 0 0] 46) = wd
 size : wb.heap.size = N2
 rs : Rs S we i4
 only : Only (Mine S) wd we
 tells : Tells S (From wd) (f (S.at (i3 + 1))) we A2 M2 p2 n2 c2 b2 i4
theorem Stp.pre {S : Src} {w : World} {f : List Tok → Out} {r L N0 N1 : Nat} {O : Out} {m : Nat} {wb wd : World} {A N : Int} {p : Option Addr} {n c i3 N2 : Nat} (h : Lv S w f r L N0 N1 O m true wb A N p n c i3) (hop : opAt r (txt (S.at i3)) ≠ 0)
  (hw : (wb.setCell ⟨S.rb, 1, none⟩ (.int .i64 ((i3 : Int) + 1))).alloc (.cells #[.int .u8 0, .int .i64 0, .slice none 0 0] 46) = wd) (hN2 : wb.heap.size = N2) :
  Rs S wd (i3 + 1) ∧ (S.at (i3 + 1)).length ≤ L ∧ Bx wd N2 0 0 none 0 0 ∧ Only (Mine S) wb wd ∧ Bx wd N0 0 0 none 0 0 ∧ Bx wd N1 A N p n c ∧ wd.heap.size = N2 + 1 := by
 have hi := at_lt (op_ne hop)
 obtain ⟨x, _, _, _, _, _, hl⟩ := h.yes rfl
 have hs : (wb.setCell ⟨S.rb, 1, none⟩ (.int .i64 ((i3 : Int) + 1))).heap.size = wb.heap.size := by simp
 have hon : Only (Mine S) wb (wb.setCell ⟨S.rb, 1, none⟩ (.int .i64 ((i3 : Int) + 1))) := Only.setCell _ _ _ _ rfl
 have hb : Below (wb.setCell ⟨S.rb, 1, none⟩ (.int .i64 ((i3 : Int) + 1))).heap.size (wb.setCell ⟨S.rb, 1, none⟩ (.int .i64 ((i3 : Int) + 1))) wd := by rw [← hw]; exact (Below.refl _ _).alloc (Nat.le_refl _) _
 refine ⟨(h.rs.next hi).under hb, ?_, by rw [← hw]; exact heap_last (by rw [hs]; exact hN2.symm), hon.then (.of_below hb), (h.box0.only hon h.rs).under hb, (h.box1.only hon h.rs).under hb, by rw [← hw]; simp [hN2]⟩
 rw [at_len] at *; omega
theorem lv_step {S : Src} {w : World} {f : List Tok → Out} {r L N0 N1 : Nat} {O : Out} {m : Nat} {wb wd we wf wg : World} {A N : Int} {p : Option Addr} {n c i3 N2 : Nat} {A2 M2 : Int} {p2 : Option Addr} {n2 c2 : Nat} {b2 : Bool} {i4 o N3 : Nat}
  (h : Lv S w f r L N0 N1 O (m + 1) true wb A N p n c i3) (hop : opAt r (txt (S.at i3)) ≠ 0) (ho : opAt r (txt (S.at i3)) = o) (hN0 : w.heap.size = N0) (hN01 : N0 < N1) (hfl : ∀ l, Less l.length (f l))
  (hs : Stp S f wb wd we i3 N2 A2 M2 p2 n2 c2 b2 i4) (hwf : exp.set3 we N2 A2 M2 p2 n2 c2 = wf) (hN3 : wf.heap.size = N3) (hwg : wf.alloc (.cells #[.int .u8 A, .int .i64 N, .slice p n c, .int .u8 A2, .int .i64 M2, .slice p2 n2 c2] 46) = wg) :
  Bx we N2 0 0 none 0 0 ∧ Bx wf N1 A N p n c ∧ Bx wf N2 A2 M2 p2 n2 c2 ∧ Bx wg N1 A N p n c ∧
  Lv S w f r L N0 N1 O m b2 (exp.set3 wg N1 (o : Int) 0 (some ⟨N3, 0, none⟩) 2 2) (o : Int) 0 (some ⟨N3, 0, none⟩) 2 2 i4 := by
 obtain ⟨k1, k2, k3, k4, k5, k6, k7⟩ := Stp.pre h hop hs.eq hs.size
 have hlt1 := h.box1.lt
 have hlt0 := h.box0.lt
 have hs2 := hs.size
 have e2 : Bx we N2 0 0 none 0 0 := k3.only hs.only k1
 have e0 : Bx we N0 0 0 none 0 0 := k5.only hs.only k1
 have e1 : Bx we N1 A N p n c := k6.only hs.only k1
 have hwes := hs.only.size
 have f2 : Bx wf N2 A2 M2 p2 n2 c2 := by rw [← hwf]; exact e2.set _ _ _ _ _
 have f1 : Bx wf N1 A N p n c := by rw [← hwf]; exact (set3_other (by omega)).trans e1
 have f0 : Bx wf N0 0 0 none 0 0 := by rw [← hwf]; exact (set3_other (by omega)).trans e0
 have hwfs : wf.heap.size = we.heap.size := by rw [← hwf]; simp [exp.set3]
 have hbg : Below wf.heap.size wf wg := by rw [← hwg]; exact (Below.refl _ _).alloc (Nat.le_refl _) _
 have g1 : Bx wg N1 A N p n c := f1.under hbg
 have hgr : wg.heap[N3]? = some (.cells #[.int .u8 A, .int .i64 N, .slice p n c, .int .u8 A2, .int .i64 M2, .slice p2 n2 c2] 46 (0, 0)) := by rw [← hwg]; exact heap_last hN3.symm
 refine ⟨e2, f1, f2, g1, ?_⟩
 have hrf : Rs S wf i4 := by rw [← hwf]; exact hs.rs.set3 e2
 have hwsz := h.only.size
 have hof : Only (Mine S) w wf := by rw [← hwf]; exact set3_only ((h.only.then k4).then hs.only) (by omega)
 refine ⟨set3_only (hof.then (.of_below hbg)) (by omega), (set3_other (by omega)).trans (f0.under hbg), g1.set _ _ _ _ _, (hrf.under hbg).set3 g1, fun hb2 => ?_, fun hb2 => ?_⟩
 · obtain ⟨x, h1, h2, h3, h4, h5, h6⟩ := h.yes rfl
   have ht := hs.tells
   cases hfo : f (S.at (i3 + 1)) with
   | bad l => rw [hfo] at ht; rw [ht.1] at hb2; cases hb2
   | ok y l =>
    rw [hfo] at ht
    obtain ⟨_, t1, t2, t3, t4, t5⟩ := ht
    have hless := hfl (S.at (i3 + 1))
    rw [hfo] at hless
    simp only [Less] at hless
    refine ⟨.mk o 0 [x, y], rfl, rfl, rfl, ?_, ?_, ?_⟩
    · have hx : Lies (exp.set3 wg N1 (o : Int) 0 (some ⟨N3, 0, none⟩) 2 2) (Fx w N0 N1) (.slice p n c) x.args := by
       refine (h4.here.frame fun k cc hk hcc => ?_).mono fun k hk => hk.1
       have hk2 : k < N2 := by have := hk.2; omega
       rw [set3_other hk.1.2.2, hbg.block k (by omega), ← hwf, set3_other (by omega), hs.only.block k (by omega) (fun e => ?_), k4.block k hk.2 (fun e => ?_)]
       · have := h.rs.box; rw [show k = S.rb from e, this] at hcc; simp at hcc
       · have := h.rs.box; rw [show k = S.rb from e, this] at hcc; simp at hcc
      have hy : Lies (exp.set3 wg N1 (o : Int) 0 (some ⟨N3, 0, none⟩) 2 2) (Fx w N0 N1) (.slice p2 n2 c2) y.args := by
       refine (t4.here.frame fun k cc hk hcc => ?_).mono fun k hk => ?_
       · have hk1 : wd.heap.size ≤ k := hk.1
         rw [set3_other (by omega), hbg.block k (by have := hk.2; omega), ← hwf, set3_other (by omega)]
       · have hk1 : wd.heap.size ≤ k := hk.1
         exact ⟨by omega, by omega, by omega⟩
      subst h1; subst h2; subst h3; subst t1; subst t2; subst t3
      exact lies_two (x := x) (y := y) ⟨by omega, by omega, by omega⟩ ((set3_other (by omega)).trans hgr) hx hy
    · rw [← h5, loopP_ok hop (by rw [at_tail]; exact hfo), ho, t5]
    · rw [t5]; rw [at_len] at *; omega
 · obtain ⟨x, h1, h2, h3, h4, h5, h6⟩ := h.yes rfl
   have ht := hs.tells
   cases hfo : f (S.at (i3 + 1)) with
   | bad l => rw [hfo] at ht; rw [ht.2, ← h5, loopP_bad hop (by rw [at_tail]; exact hfo)]
   | ok y l => rw [hfo] at ht; rw [ht.1] at hb2; cases hb2
end
section
open Go.RowKit nam lex
set_option maxHeartbeats 1600000 in
set_option maxRecDepth 1000000 in
theorem level_any {S : Src} {f : List Tok → Out} {r K L m0 i sb cs : Nat} {zs : List ByteArray} {w : World} (hr : r < 5) (hent : ∀ args w, (callFunc K args).run Tryz.prog w = .ok (.enter K args) w)
  (hf : ∀ (w' : World) (i' : Nat), Rs S w' i' → (S.at i').length ≤ L → Calls Tryz.prog K #[ptr S.rb] w' (PPost S (f (S.at i')) w')) (hfl : ∀ l, Less l.length (f l)) (hs : Rs S w i) (hL : (S.at i).length ≤ L) (hm : m0 ≤ 400)
  (hz : zs = (sgs r).map textOf) (hsb : Sgs w sb zs) :
  Calls Tryz.prog 192 #[ptr S.rb, .func (.func K) #[ptr S.rb] #[], .int .i64 (m0 : Int), .slice (some ⟨sb, 0, none⟩) zs.length cs] w (PPost S (rowO f r m0 (S.at i)) w) := by
 obtain ⟨W, hW⟩ : ∃ W, w.alloc (.cells #[.int .u8 0, .int .i64 0, .slice none 0 0] 46) = W := ⟨_, rfl⟩
 obtain ⟨N0, hN0⟩ : ∃ N, w.heap.size = N := ⟨_, rfl⟩
 have hwb : Below w.heap.size w W := by rw [← hW]; exact (Below.refl _ _).alloc (Nat.le_refl _) _
 have hb0 : Bx W N0 0 0 none 0 0 := by rw [← hW]; exact heap_last hN0.symm
 have hsW := hs.under hwb
 have HF := Lib.hid (hf W i hsW hL)
 have HW := Lib.hid hwb; have HB0 := Lib.hid hb0; have HS := Lib.hid hs; have HSW := Lib.hid hsW; have HSB := Lib.hid hsb; have HZ := Lib.hid hz
 have HFF := Lib.hid hf; have HFL := Lib.hid hfl; have HLL := Lib.hid hL; have HN0 := Lib.hid hN0
 clear hwb hb0 hs hsW hsb hz hf hfl hL
 obtain ⟨O, hO⟩ : ∃ O, rowO f r m0 (S.at i) = O := ⟨_, rfl⟩
 rw [hO]
 have HO := Lib.hid hO; clear hO
 unfold ptr at *
 go_enter Tryz.func192, Tryz.ntmps192
 go_wp2_with fail
 refine HF.out.mono ?_
 rintro e w2 ⟨A, N, p, n, c, b, i2, rfl, hs2, ho2, ht2⟩
 have HS2 := Lib.hid hs2; have HO2 := Lib.hid ho2; have HT2 := Lib.hid ht2
 clear hs2 ho2 ht2
 go_wp2_with fail
 obtain ⟨N1, hN1⟩ : ∃ N, w2.heap.size = N := ⟨_, rfl⟩
 obtain ⟨w3, hw3⟩ : ∃ w3, w2.alloc (.cells #[.int .u8 A, .int .i64 N, .slice p n c] 46) = w3 := ⟨_, rfl⟩
 rw [hw3, hN1]
 have hO := HO.out
 have HLV : Hid (Lv S w f r L N0 N1 O m0 b w3 A N p n c i2) := Lib.hid (by
  have h23 : Below w2.heap.size w2 w3 := by rw [← hw3]; exact (Below.refl _ _).alloc (Nat.le_refl _) _
  have hWb := HW.out
  have hO2 := HO2.out
  have hsz := hWb.size
  have hsz2 := hO2.size
  have hWs : W.heap.size = N0 + 1 := by rw [← hW]; simp [HN0.out]
  refine ⟨((Only.of_below hWb).then hO2).then (Only.of_below h23), (HB0.out.only hO2 HSW.out).under h23, by rw [← hw3]; exact heap_last hN1.symm, HS2.out.under h23, fun hb => ?_, fun hb => ?_⟩
  · have ht := HT2.out
    unfold rowO at hO
    cases hfo : f (S.at i) with
    | bad l => rw [hfo] at ht; rw [ht.1] at hb; cases hb
    | ok x l =>
     rw [hfo] at ht hO
     obtain ⟨_, h1, h2, h3, h4, h5⟩ := ht
     have hless := HFL.out (S.at i)
     rw [hfo] at hless
     simp only [Less] at hless
     have hLL := HLL.out
     refine ⟨x, h1, h2, h3, (h4.here.mono fun k hk => ⟨by have := hk.1; unfold From at this; omega, by have := hk.1; unfold From at this; omega, by have := hk.2; omega⟩).under h23, by rw [h5]; exact hO, by rw [h5]; omega⟩
  · have ht := HT2.out
    unfold rowO at hO
    cases hfo : f (S.at i) with
    | bad l => rw [hfo] at ht hO; rw [ht.2]; exact hO.symm
    | ok x l => rw [hfo] at ht; rw [ht.1] at hb; cases hb)
 have HK := Lib.hid (And.intro hN1 hw3)
 have HN01 : Hid (N0 < N1) := Lib.hid (by have := HO2.out.size; have h2 : W.heap.size = N0 + 1 := by rw [← hW]; simp [HN0.out]
                                          omega)
 clear hO hN1 hw3 HT2 HO2 HS2
 go_loopg [2, 11, 12, 13] (m0 + 1) (fun g v2 v11 v12 v13 wr => ∃ (m : Nat) (b : Bool) (A N : Int) (p : Option Addr) (n c i : Nat), g = m + 1 ∧ m ≤ m0 ∧ v2 = .int .i64 (m : Int) ∧ v11 = .bool b ∧ Lv S w f r L N0 N1 O m b wr A N p n c i)
 case atStart => exact ⟨m0, b, A, N, p, n, c, i2, rfl, Nat.le_refl _, rfl, rfl, HLV.out⟩
 case round =>
  rename World => wr
  obtain ⟨m, b, A, N, p, n, c, i3, hg, hmm, rfl, rfl, hlv⟩ := hrel
  have HR := Lib.hid hlv; clear hlv
  have hN01 := HN01.out
  cases b with
  | false =>
   obtain ⟨a1, a2, a3, a4, a5, a6, b1, b2, b3⟩ := HR.out.cells
   have HP := Lib.hid (lv_end HR.out HN0.out hN01 (fun h => by cases h))
   go_wp2_with fail
   try rw [Exit.noGoto_ret]
   refine bodyPost_ret (v := .tuple #[.agg #[.int .u8 A, .int .i64 N, .slice p n c], .bool false]) (by simp [results, Tryz.f192, go_sem, a1, a2, a3]) rfl HP.out
  | true =>
   by_cases hm0 : m = 0
   · obtain ⟨a1, a2, a3, a4, a5, a6, b1, b2, b3⟩ := HR.out.cells
     have HP := Lib.hid (lv_end HR.out HN0.out hN01 (fun h => .inr hm0))
     have hmi : ¬ (m : Int) > 0 := by omega
     have HM := Lib.hid hm0; clear hm0
     go_wp2_with fail
     try rw [Exit.noGoto_ret]
     refine bodyPost_ret (v := .tuple #[.agg #[.int .u8 A, .int .i64 N, .slice p n c], .bool true]) (by simp [results, Tryz.f192, go_sem, a1, a2, a3]) rfl HP.out
   · have hmi : (m : Int) > 0 := by omega
     obtain ⟨X, hX⟩ : ∃ X, textOf (txt (S.at i3)) = X := ⟨_, rfl⟩
     have HX := Lib.hid hX; clear hX
     go_wp2_with fail
     refine (tok_txt HR.out.rs HX.out).mono ?_
     rintro e wa ⟨ta, tb, tc, rfl, hba⟩
     have HRA := Lib.hid (HR.out.under hba); clear hba
     have hft := field_txt
     go_wp2_with fail
     obtain ⟨bo, hbo⟩ : ∃ bo, decide (opAt r (txt (S.at i3)) ≠ 0) = bo := ⟨_, rfl⟩
     have HBO := Lib.hid hbo; clear hbo
     refine (sgn_txt hr HZ.out (HSB.out.only HRA.out.only HS.out) HRA.out.rs HX.out HBO.out).mono ?_
     rintro e wx ⟨rfl, rfl⟩
     cases bo with
     | false =>
      obtain ⟨a1, a2, a3, a4, a5, a6, b1, b2, b3⟩ := HRA.out.cells
      have HP := Lib.hid (lv_end HRA.out HN0.out hN01 (fun h => .inl (by have := HBO.out; simpa using this)))
      go_wp2_with fail
      try rw [Exit.noGoto_ret]
      refine bodyPost_ret (v := .tuple #[.agg #[.int .u8 A, .int .i64 N, .slice p n c], .bool true]) (by simp [results, Tryz.f192, go_sem, a1, a2, a3]) rfl HP.out
     | true =>
      have HOP : Hid (opAt r (txt (S.at i3)) ≠ 0) := Lib.hid (by have := HBO.out; simpa using this)
      go_wp2_with fail
      refine (tok_txt HRA.out.rs HX.out).mono ?_
      rintro e wb ⟨ta2, tb2, tc2, rfl, hbb⟩
      have HRB := Lib.hid (HRA.out.under hbb); clear hbb
      obtain ⟨o, ho⟩ : ∃ o, opAt r (txt (S.at i3)) = o := ⟨_, rfl⟩
      have HOO := Lib.hid ho; clear ho
      go_wp2_with fail
      refine (two_txt hr HOP.out HX.out HOO.out _).mono ?_
      rintro e wx ⟨rfl, rfl⟩
      obtain ⟨c0, c1, c2, cf⟩ := HRB.out.rs.cells
      have hi3 : (i3 : Int) < 400 := by have := at_lt (op_ne HOP.out); have := HRB.out.rs.few; omega
      obtain ⟨m', rfl⟩ : ∃ m', m = m' + 1 := ⟨m - 1, by omega⟩
      obtain ⟨N2, hN2⟩ : ∃ N2, wb.heap.size = N2 := ⟨_, rfl⟩
      obtain ⟨wd, hwd⟩ : ∃ wd, (wb.setCell ⟨S.rb, 1, none⟩ (.int .i64 ((i3 : Int) + 1))).alloc (.cells #[.int .u8 0, .int .i64 0, .slice none 0 0] 46) = wd := ⟨_, rfl⟩
      have HPRE := Lib.hid (Stp.pre HRB.out HOP.out hwd hN2)
      go_wp2_with fail
      refine (HFF.out wd (i3 + 1) HPRE.out.1 HPRE.out.2.1).mono ?_
      rintro e we ⟨A2, M2, p2, n2, c2, b2, i4, rfl, hs4, ho4, ht4⟩
      obtain ⟨wf, hwf⟩ : ∃ wf, exp.set3 we N2 A2 M2 p2 n2 c2 = wf := ⟨_, rfl⟩
      obtain ⟨N3, hN3⟩ : ∃ N3, wf.heap.size = N3 := ⟨_, rfl⟩
      obtain ⟨wg, hwg⟩ : ∃ wg, wf.alloc (.cells #[.int .u8 A, .int .i64 N, .slice p n c, .int .u8 A2, .int .i64 M2, .slice p2 n2 c2] 46) = wg := ⟨_, rfl⟩
      obtain ⟨e2, f1, f2, g1, hlv⟩ := lv_step HRB.out HOP.out HOO.out HN0.out hN01 HFL.out ⟨hwd, hN2, hs4, ho4, ht4⟩ hwf hN3 hwg
      have HNX := Lib.hid hlv
      obtain ⟨q0, q1, q2, q3, q4, q5⟩ := e2.cells
      obtain ⟨s0, s1, s2, _, _, _⟩ := f1.cells
      obtain ⟨t0, t1, t2, _, _, _⟩ := f2.cells
      obtain ⟨v0, v1, v2, v3, v4, v5⟩ := g1.cells
      unfold exp.set3 at hwf
      clear hlv hs4 ho4 ht4 e2 f1 f2 g1
      go_wp2_with fail
      go_roundg (m' + 1)
      case measure => omega
      case rel => exact ⟨m', b2, (o : Int), 0, _, 2, 2, i4, rfl, by omega, rfl, rfl, HNX.out⟩
end
end Go.Proofs.YtepdecnegihhhaaGreatDoor.exp
