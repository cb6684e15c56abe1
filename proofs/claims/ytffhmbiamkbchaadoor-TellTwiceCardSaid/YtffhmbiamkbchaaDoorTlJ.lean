/- Plain facts: a line's tokens, and what they are read as. No program's run in this file. -/
import Derived.Test.YtffhmbiamkbchaaDoorTlP
import Derived.Test.YtffhmbiamkbchaaDoorExPa
import Derived.Test.YtffhmbiamkbchaaDoorMLy
namespace Go.Proofs.YtffhmbiamkbchaaDoor.exp
set_option linter.unusedSimpArgs false
set_option linter.unusedVariables false
open nam lex

def tSg (l : List Nat) : Tok := ⟨3, l, 0, 0⟩
def tWd (l : List Nat) : Tok := ⟨1, l, 0, 0⟩
def sgnT (o : Nat) : List Nat :=
  if o = 7 then [43] else if o = 8 then [45] else if o = 9 then [42] else if o = 10 then [47] else if o = 11 then [37] else if o = 12 then [60] else if o = 13 then [60, 61] else if o = 14 then [61] else if o = 15 then [33, 61] else if o = 16 then [38] else [124]
def headsK (o : Nat) : List (List Tok) :=
  if o = 5 then [[tSg [40], tSg [45]]] else if o = 6 then [[tSg [40], tSg [33]]] else if o = 18 then [[tSg [40], tWd wIf], [tWd wThen], [tWd wElse]] else [[tSg [40]], [tSg (sgnT o)]]
def weaveK : List (List Tok) → List (List Tok) → List Tok
  | s :: ss, a :: al => s ++ (a ++ weaveK ss al)
  | _, _ => [tSg [41]]
def toksE (o : Nat) (n : Int) (al : List (List Tok)) : List Tok :=
  if o = 1 then [⟨2, [], n.toNat, 0⟩] else if o = 2 then [tWd [107, 101, 121]] else if o = 3 then [tWd [118, 97, 108]] else if o = 4 then [tWd [97, 99, 99]] else weaveK (headsK o) al
mutual
/-- The tokens of a line. -/
def Ex.toks : Ex → List Tok
  | .mk o n l => toksE o n (toksL l)
def toksL : List Ex → List (List Tok)
  | [] => []
  | x :: l => x.toks :: toksL l
end
theorem toks_eq (x : Ex) : x.toks = toksE x.op x.n (toksL x.args) := by cases x; rw [Ex.toks]; rfl
theorem toksL_nil : toksL [] = [] := by rw [toksL]
theorem toksL_cons (x : Ex) (l : List Ex) : toksL (x :: l) = x.toks :: toksL l := by rw [toksL]

/-! The runes, told into tokens. -/
def St (rest : List Nat) : Prop := ∀ r, rest.head? = some r → r = 32 ∨ r = 41
def Ne (rest : List Nat) : Prop := ∀ r, rest.head? = some r → r ≠ 61
/-- A piece is read as these tokens. -/
def Rd (ok : List Nat → Prop) (s : List Nat) (k : List Tok) : Prop := ∀ (done : List Tok) (p : Nat) (rest : List Nat), ok rest → ∃ m, bares m = k ∧ scan done none p (s ++ rest) = scan (done ++ m) none (p + s.length) rest
theorem rd_app {ok ok1 : List Nat → Prop} {s1 s2 : List Nat} {k1 k2 : List Tok} (h1 : Rd ok1 s1 k1) (h2 : Rd ok s2 k2) (h : ∀ rest, ok rest → ok1 (s2 ++ rest)) : Rd ok (s1 ++ s2) (k1 ++ k2) := fun done p rest hr => by
  obtain ⟨m1, a1, b1⟩ := h1 done p (s2 ++ rest) (h rest hr)
  obtain ⟨m2, a2, b2⟩ := h2 (done ++ m1) (p + s1.length) rest hr
  refine ⟨m1 ++ m2, by unfold bares at *; rw [List.map_append, a1, a2], ?_⟩
  rw [List.append_assoc, b1, b2, List.append_assoc, List.length_append, Nat.add_assoc]
theorem rd_blank : Rd (fun _ => True) [32] [] := fun done p rest _ => ⟨[], rfl, by
  rw [List.cons_append, List.nil_append, scan_blank rfl rfl]; simp⟩
theorem rd_sign {c : Nat} (hc : sgnB c = true) : Rd Ne [c] [tSg [c]] := fun done p rest hr => ⟨[⟨3, [c], 0, p⟩], rfl, by
  rw [List.cons_append, List.nil_append, scan_sign hc (fun r h => by have := hr r h; simp [this])]; rfl⟩
theorem rd_sign' {c : Nat} (hc : sgnB c = true) (h1 : c ≠ 33) (h2 : c ≠ 60) : Rd (fun _ => True) [c] [tSg [c]] := fun done p rest _ => ⟨[⟨3, [c], 0, p⟩], rfl, by
  rw [List.cons_append, List.nil_append, scan_sign hc (fun r h => by simp [h1, h2])]; rfl⟩
theorem rd_sign2 {c : Nat} (hc : c = 33 ∨ c = 60) : Rd (fun _ => True) [c, 61] [tSg [c, 61]] := fun done p rest _ => ⟨[⟨3, [c, 61], 0, p⟩], rfl, by
  rw [List.cons_append, List.cons_append, List.nil_append, scan_sign2 hc]; rfl⟩
theorem rd_word {s : List Nat} (h0 : s ≠ []) (h : ∀ r ∈ s, letB r = true) : Rd St s [tWd s] := fun done p rest hr => ⟨[⟨1, s, 0, p⟩], rfl, by
  rw [scan_name h0 h (fun r hh => by rcases hr r hh with rfl | rfl <;> rfl)]⟩
theorem rd_num {u : Nat} (hu : u ≤ 9223372036854775807) : Rd St (digR u) [⟨2, [], u, 0⟩] := fun done p rest hr => by
  obtain ⟨h1, h2, h3⟩ := digR_facts u
  refine ⟨[⟨2, [], u, p⟩], rfl, ?_⟩
  rw [scan_number h2 h1 (by omega) (fun r hh => by rcases hr r hh with rfl | rfl <;> rfl), h3]
theorem rd_mono {ok ok' : List Nat → Prop} {s : List Nat} {k : List Tok} (h : Rd ok s k) (ho : ∀ r, ok' r → ok r) : Rd ok' s k := fun done p rest hr => h done p rest (ho rest hr)
/-- A sign between blanks. -/
theorem rd_sgn (o : Nat) : Rd (fun _ => True) (sgnR o) [tSg (sgnT o)] := by
  have one : ∀ c, sgnB c = true → Rd (fun _ => True) [32, c, 32] [tSg [c]] := fun c hc =>
    rd_app (s1 := [32]) (s2 := [c, 32]) (k1 := []) (k2 := [tSg [c]]) rd_blank (rd_app (s1 := [c]) (s2 := [32]) (k1 := [tSg [c]]) (k2 := []) (rd_sign hc) rd_blank (fun rest _ r h => by simp at h; omega)) (fun _ _ => trivial)
  have two : ∀ c, c = 33 ∨ c = 60 → Rd (fun _ => True) [32, c, 61, 32] [tSg [c, 61]] := fun c hc =>
    rd_app (s1 := [32]) (s2 := [c, 61, 32]) (k1 := []) (k2 := [tSg [c, 61]]) rd_blank (rd_app (s1 := [c, 61]) (s2 := [32]) (k1 := [tSg [c, 61]]) (k2 := []) (rd_sign2 hc) rd_blank (fun _ _ => trivial)) (fun _ _ => trivial)
  unfold sgnR sgnT
  split
  · exact one _ rfl
  split
  · exact one _ rfl
  split
  · exact one _ rfl
  split
  · exact one _ rfl
  split
  · exact one _ rfl
  split
  · exact one _ rfl
  split
  · exact two _ (.inr rfl)
  split
  · exact one _ rfl
  split
  · exact two _ (.inl rfl)
  split
  · exact one _ rfl
  · exact one _ rfl
inductive Prs : List (List Nat) → List (List Tok) → Prop
  | nil : Prs [] []
  | cons {s : List Nat} {k : List Tok} {ss : List (List Nat)} {kk : List (List Tok)} (h : Rd Ne s k) (t : Prs ss kk) : Prs (s :: ss) (k :: kk)
theorem any_ne {s : List Nat} {k : List Tok} (h : Rd (fun _ => True) s k) : Rd Ne s k := rd_mono h (fun _ _ => trivial)
theorem heads_rd (o : Nat) : Prs (aheads o) (headsK o) := by
  have op : Rd (fun _ => True) [40] [tSg [40]] := rd_sign' rfl (by decide) (by decide)
  have wd : ∀ (s : List Nat), s ≠ [] → (∀ r ∈ s, letB r = true) → Rd (fun _ => True) (s ++ [32]) [tWd s] := fun s h0 h =>
    rd_app (k1 := [tWd s]) (k2 := []) (rd_word h0 h) rd_blank (fun rest _ r hh => by simp at hh; omega)
  unfold aheads headsK
  split
  · exact .cons (any_ne (rd_app (s1 := [40]) (s2 := [45]) (k1 := [tSg [40]]) (k2 := [tSg [45]]) op (rd_sign' rfl (by decide) (by decide)) (fun _ _ => trivial))) .nil
  split
  · exact .cons (rd_app (s1 := [40]) (s2 := [33]) (k1 := [tSg [40]]) (k2 := [tSg [33]]) op (rd_sign rfl) (fun _ _ => trivial)) .nil
  split
  · refine .cons (any_ne (rd_app (s1 := [40]) (s2 := [105, 102, 32]) (k1 := [tSg [40]]) (k2 := [tWd wIf]) op (wd wIf (by decide) (by decide)) (fun _ _ => trivial))) (.cons (any_ne ?_) (.cons (any_ne ?_) .nil))
    · exact rd_app (s1 := [32]) (s2 := [116, 104, 101, 110, 32]) (k1 := []) (k2 := [tWd wThen]) rd_blank (wd wThen (by decide) (by decide)) (fun _ _ => trivial)
    · exact rd_app (s1 := [32]) (s2 := [101, 108, 115, 101, 32]) (k1 := []) (k2 := [tWd wElse]) rd_blank (wd wElse (by decide) (by decide)) (fun _ _ => trivial)
  · exact .cons (any_ne op) (.cons (any_ne (rd_sgn o)) .nil)
theorem sgn_head (o : Nat) : (sgnR o).head? = some 32 := by
  unfold sgnR
  repeat' split
  all_goals rfl
theorem heads_blank (o : Nat) : ∀ s ∈ (aheads o).tail, s.head? = some 32 := by
  have h := sgn_head o
  unfold aheads
  generalize sgnR o = S at h ⊢
  split
  · intro s hs; cases hs
  split
  · intro s hs; cases hs
  split
  · intro s hs
    simp at hs
    rcases hs with rfl | rfl <;> rfl
  · intro s hs
    simp at hs
    rw [hs]; exact h
/-- A part's line. -/
def LnR (x : Ex) : Prop := Rd St x.line x.toks ∧ ∀ rest, Ne (x.line ++ rest)
theorem weave_rd : ∀ {ss : List (List Nat)} {kk : List (List Tok)} (h : Prs ss kk) (l : List Ex), ss.length = l.length → (∀ s ∈ ss.tail, s.head? = some 32) → (∀ y ∈ l, LnR y) → Rd (fun _ => True) (weave ss (lines l)) (weaveK kk (toksL l)) := by
  intro ss kk h
  induction h with
  | nil =>
    intro l hl _ _
    cases l with
    | nil => rw [lines_nil, toksL_nil]; exact rd_sign' rfl (by decide) (by decide)
    | cons y l => simp at hl
  | @cons s k ss kk h t ih =>
    intro l hl h32 hy
    cases l with
    | nil => simp at hl
    | cons y l =>
      have hl' : ss.length = l.length := by simpa using hl
      have hi := ih l hl' (fun z hz => h32 z (List.mem_of_mem_tail hz)) (fun z hz => hy z (List.mem_cons_of_mem _ hz))
      obtain ⟨y1, y2⟩ := hy y List.mem_cons_self
      rw [lines_cons, toksL_cons, weave, weaveK]
      refine rd_app h (rd_app y1 hi ?_) (fun rest _ => by rw [List.append_assoc]; exact y2 _)
      intro rest _ r hr
      cases ss with
      | nil =>
        cases l with
        | nil =>
          rw [lines_nil] at hr
          have : r = 41 := by simpa [weave] using hr.symm
          exact .inr this
        | cons z l => simp at hl'
      | cons s2 ss =>
        cases l with
        | nil => simp at hl'
        | cons z l =>
          rw [lines_cons, weave] at hr
          have h2 := h32 s2 (by simp)
          cases s2 with
          | nil => simp at h2
          | cons c s2 =>
            simp at h2 hr
            exact .inl (by omega)
theorem ne_of {l : List Nat} {c : Nat} (h : l.head? = some c) (hc : c ≠ 61) : ∀ rest, Ne (l ++ rest) := fun rest r hr => by
  cases l with
  | nil => simp at h
  | cons a l =>
    simp at h hr
    omega
theorem line_rd : ∀ x : Ex, Fit x → Num x → LnR x := by
  refine Ex.ind fun x ih hf hn => ?_
  have hF := (fit_eq x).1 hf
  have hN := (num_eq x).1 hn
  have hB := hF.1
  rw [fitsB_iff'] at hB
  have e1 := line_eq x
  have e2 := toks_eq x
  unfold lineO at e1
  unfold toksE at e2
  unfold LnR
  by_cases h1 : x.op = 1
  · rw [if_pos h1] at e1 e2
    rw [e1, e2]
    refine ⟨rd_num (by omega), fun rest r hr => ?_⟩
    obtain ⟨g1, g2, _⟩ := digR_facts x.n.toNat
    cases hd : digR x.n.toNat with
    | nil => exact absurd hd g2
    | cons a l =>
      rw [hd] at hr g1
      have := dig_range (g1 a List.mem_cons_self)
      simp at hr
      omega
  rw [if_neg h1] at e1 e2
  by_cases h2 : x.op = 2
  · rw [if_pos h2] at e1 e2
    rw [e1, e2]
    exact ⟨rd_word (by decide) (by decide), ne_of (c := 107) rfl (by decide)⟩
  rw [if_neg h2] at e1 e2
  by_cases h3 : x.op = 3
  · rw [if_pos h3] at e1 e2
    rw [e1, e2]
    exact ⟨rd_word (by decide) (by decide), ne_of (c := 118) rfl (by decide)⟩
  rw [if_neg h3] at e1 e2
  by_cases h4 : x.op = 4
  · rw [if_pos h4] at e1 e2
    rw [e1, e2]
    exact ⟨rd_word (by decide) (by decide), ne_of (c := 97) rfl (by decide)⟩
  rw [if_neg h4] at e1 e2
  rw [e1, e2]
  have hlen := aheads_len hF.1 (by omega)
  refine ⟨rd_mono (weave_rd (heads_rd _) _ hlen (heads_blank _) (fun y hy => ih y hy (hF.2 y hy) (hN.2 y hy))) (fun _ _ => trivial), ?_⟩
  have hh : ∃ s ss, aheads x.op = (40 :: s) :: ss := by
    unfold aheads
    split
    · exact ⟨_, _, rfl⟩
    split
    · exact ⟨_, _, rfl⟩
    split
    · exact ⟨_, _, rfl⟩
    · exact ⟨_, _, rfl⟩
  obtain ⟨s, ss, hs⟩ := hh
  rw [hs]
  cases hl : lines x.args with
  | nil => exact ne_of (c := 41) rfl (by decide)
  | cons a al => exact ne_of (c := 40) (by rw [weave]; rfl) (by decide)
/-- The tokens of a line that is not too wide. -/
theorem toks_line {x : Ex} (hf : Fit x) (hn : Num x) (hw : ¬ 400 < x.line.length) : ∃ m, toksO (textOf x.line) = (m, 0, 0) ∧ bares m = x.toks := by
  have ha := (told_any x hf hn).1
  obtain ⟨m, h1, h2⟩ := (line_rd x hf hn).1 [] 0 [] (fun r h => by cases h)
  refine ⟨m, ?_, h1⟩
  rw [toksO_textOf (fun r hr => by have := ha r hr; unfold okR; omega) (by rw [asc_size ha]; exact hw)]
  rw [List.append_nil] at h2
  rw [h2, scan_nil]
  simp
end Go.Proofs.YtffhmbiamkbchaaDoor.exp
