/- Plain facts: an expression's line, told piece by piece and no further than a line may be; numbers are no greater than their tokens'. No program's run in this file. -/
import Derived.Test.YtffhmbiamkbchaaDoorMTt
import Derived.Test.YtffhmbiamkbchaaDoorMLy
namespace Go.Proofs.YtffhmbiamkbchaaDoor.exp
set_option linter.unusedSimpArgs false
set_option linter.unusedVariables false
open nam lex

def sgnR (o : Nat) : List Nat :=
  if o = 7 then [32, 43, 32] else if o = 8 then [32, 45, 32] else if o = 9 then [32, 42, 32] else if o = 10 then [32, 47, 32] else if o = 11 then [32, 37, 32] else if o = 12 then [32, 60, 32] else if o = 13 then [32, 60, 61, 32] else if o = 14 then [32, 61, 32] else if o = 15 then [32, 33, 61, 32] else if o = 16 then [32, 38, 32] else [32, 124, 32]
/-- What stands ahead of each part. -/
def aheads (o : Nat) : List (List Nat) :=
  if o = 5 then [[40, 45]] else if o = 6 then [[40, 33]] else if o = 18 then [[40, 105, 102, 32], [32, 116, 104, 101, 110, 32], [32, 101, 108, 115, 101, 32]] else [[40], sgnR o]
def weave : List (List Nat) → List (List Nat) → List Nat
  | s :: ss, a :: al => s ++ (a ++ weave ss al)
  | _, _ => [41]
def lineO (o : Nat) (n : Int) (al : List (List Nat)) : List Nat :=
  if o = 1 then digR n.toNat else if o = 2 then [107, 101, 121] else if o = 3 then [118, 97, 108] else if o = 4 then [97, 99, 99] else weave (aheads o) al
mutual
/-- An expression's line. -/
def Ex.line : Ex → List Nat
  | .mk o n l => lineO o n (lines l)
def lines : List Ex → List (List Nat)
  | [] => []
  | x :: l => x.line :: lines l
end
theorem line_eq (x : Ex) : x.line = lineO x.op x.n (lines x.args) := by cases x; rw [Ex.line]; rfl
theorem lines_nil : lines [] = [] := by rw [lines]
theorem lines_cons (x : Ex) (l : List Ex) : lines (x :: l) = x.line :: lines l := by rw [lines]
/-- What is told, behind T: no piece more once T is too wide. -/
def weaveT : List (List Nat) → List (ByteArray → ByteArray) → ByteArray → ByteArray
  | s :: ss, f :: fs, T => if 400 < T.size then T else weaveT ss fs (f (T ++ textOf s))
  | _, _, T => T ++ textOf [41]
def tellO (o : Nat) (n : Int) (fs : List (ByteArray → ByteArray)) (T : ByteArray) : ByteArray :=
  if o = 1 then T ++ textOf (digR n.toNat) else if o = 2 then T ++ textOf [107, 101, 121] else if o = 3 then T ++ textOf [118, 97, 108] else if o = 4 then T ++ textOf [97, 99, 99] else weaveT (aheads o) fs T
mutual
def Ex.tell : Ex → ByteArray → ByteArray
  | .mk o n l => tellO o n (tellsL l)
def tellsL : List Ex → List (ByteArray → ByteArray)
  | [] => []
  | x :: l => x.tell :: tellsL l
end
theorem tell_eq (x : Ex) : x.tell = tellO x.op x.n (tellsL x.args) := by cases x; rw [Ex.tell]; rfl
theorem tellsL_nil : tellsL [] = [] := by rw [tellsL]
theorem tellsL_cons (x : Ex) (l : List Ex) : tellsL (x :: l) = x.tell :: tellsL l := by rw [tellsL]
theorem tellsL_map (l : List Ex) : tellsL l = l.map Ex.tell := by
  induction l with
  | nil => rw [tellsL_nil]; rfl
  | cons x l ih => rw [tellsL_cons, ih]; rfl

/-! Numbers. -/
def Num : Ex → Prop := fun x => good (fun _ n _ _ => decide (n ≤ 9223372036854775807)) x 0 = true
theorem num_eq (x : Ex) : Num x ↔ x.n ≤ 9223372036854775807 ∧ ∀ y ∈ x.args, Num y := by
  unfold Num
  rw [good_eq, Bool.and_eq_true, goods_mem]
  constructor
  · rintro ⟨h1, h2⟩
    exact ⟨by simpa using h1, fun y hy => (good_const (G := fun _ n _ => decide (n ≤ 9223372036854775807)) y _ _) ▸ h2 y hy⟩
  · rintro ⟨h1, h2⟩
    exact ⟨by simpa using h1, fun y hy => (good_const (G := fun _ n _ => decide (n ≤ 9223372036854775807)) y _ _) ▸ h2 y hy⟩
theorem num_mk {o : Nat} {n : Int} {l : List Ex} (h : n ≤ 9223372036854775807) (hl : ∀ x ∈ l, Num x) : Num (.mk o n l) := (num_eq _).2 ⟨h, hl⟩
def Tn (l : List Tok) : Prop := ∀ t ∈ l, t.n ≤ 9223372036854775807
theorem Tn.tail {l : List Tok} (h : Tn l) : Tn l.tail := fun t ht => h t (List.mem_of_mem_tail ht)
def Nu : Out → Prop
  | .bad _ => True
  | .ok x l => Num x ∧ Tn l
theorem leaf_nu {l : List Tok} (hl : Tn l) {o : Nat} {n : Int} (h : n ≤ 9223372036854775807) : Nu (.ok (.mk o n []) l.tail) := ⟨num_mk h (fun x hx => by cases hx), hl.tail⟩
theorem loopP_nu {f : List Tok → Out} {r : Nat} (hf : ∀ l, Tn l → Nu (f l)) : ∀ (m : Nat) (x : Ex) (l : List Tok), Tn l → Num x → Nu (loopP f r m x l)
  | 0, x, l, hl, hx => ⟨hx, hl⟩
  | m + 1, x, l, hl, hx => by
    by_cases h : opAt r (txt l) = 0
    · rw [loopP_none h]; exact ⟨hx, hl⟩
    · have hh := hf l.tail hl.tail
      cases e : f l.tail with
      | bad l' => rw [loopP_bad h e]; trivial
      | ok y l' =>
        rw [loopP_ok h e]
        rw [e] at hh
        refine loopP_nu hf m _ l' hh.2 (num_mk (by decide) ?_)
        intro z hz
        rcases List.mem_cons.1 hz with rfl | hz
        · exact hx
        · rw [List.mem_singleton.1 hz]; exact hh.1
theorem oneP_nu {f : List Tok → Out} (hf : ∀ l, Tn l → Nu (f l)) (l : List Tok) (hl : Tn l) : Nu (oneP f l) := by
  unfold oneP
  split
  · refine leaf_nu hl ?_
    cases l with
    | nil => show ((0 : Nat) : Int) ≤ _; omega
    | cons t l => have := hl t List.mem_cons_self; show ((t.n : Nat) : Int) ≤ _; omega
  split
  · exact leaf_nu hl (by decide)
  split
  · exact leaf_nu hl (by decide)
  split
  · exact leaf_nu hl (by decide)
  split
  · have hh := hf l.tail hl.tail
    cases e : f l.tail with
    | bad l' => trivial
    | ok x l' =>
      rw [e] at hh
      simp only []
      split
      · exact ⟨hh.1, hh.2.tail⟩
      · trivial
  split
  · have hh := hf l.tail hl.tail
    unfold ifP
    cases e : f l.tail with
    | bad l' => trivial
    | ok a l1 =>
      rw [e] at hh
      simp only []
      split
      · have hh1 := hf l1.tail hh.2.tail
        cases e1 : f l1.tail with
        | bad l' => trivial
        | ok b l2 =>
          rw [e1] at hh1
          simp only []
          split
          · have hh2 := hf l2.tail hh1.2.tail
            cases e2 : f l2.tail with
            | bad l' => trivial
            | ok c l3 =>
              rw [e2] at hh2
              refine ⟨num_mk (by decide) ?_, hh2.2⟩
              intro z hz
              simp only [List.mem_cons, List.not_mem_nil, or_false] at hz
              rcases hz with rfl | rfl | rfl
              · exact hh.1
              · exact hh1.1
              · exact hh2.1
          · trivial
      · trivial
  · trivial
theorem par_nu : ∀ (k r : Nat) (l : List Tok), Tn l → Nu (par k r l) := by
  intro k
  induction k with
  | zero => intro r l _; trivial
  | succ k ih =>
    intro r l hl
    unfold par
    split
    · have hh := ih (r + 1) l hl
      cases e : par k (r + 1) l with
      | bad l' => trivial
      | ok x l' =>
        rw [e] at hh
        exact loopP_nu (fun l2 => ih (r + 1) l2) _ x l' hh.2 hh.1
    split
    · split
      · have hh := ih 5 l.tail hl.tail
        cases e : par k 5 l.tail with
        | bad l' => trivial
        | ok x l' =>
          rw [e] at hh
          exact ⟨num_mk (by decide) (fun z hz => by rw [List.mem_singleton.1 hz]; exact hh.1), hh.2⟩
      split
      · have hh := ih 5 l.tail hl.tail
        cases e : par k 5 l.tail with
        | bad l' => trivial
        | ok x l' =>
          rw [e] at hh
          exact ⟨num_mk (by decide) (fun z hz => by rw [List.mem_singleton.1 hz]; exact hh.1), hh.2⟩
      · exact ih 6 l hl
    · exact oneP_nu (fun l' => ih 0 l') l hl
theorem parseO_num (s : ByteArray) : Num (parseO s).1 := by
  have hz : Num Ex.zero := num_mk (by decide) (fun x hx => by cases hx)
  unfold parseO
  split
  · exact hz
  · have h := par_nu 4000 0 (toksO s).1 (fun t ht => ((toks_ok s).1 t ht).num)
    cases e : par 4000 0 (toksO s).1 with
    | bad l => exact hz
    | ok x l =>
      rw [e] at h
      cases l with
      | nil =>
        simp only []
        split
        · exact hz
        · exact h.1
      | cons t l => exact hz

/-! Sizes. -/
def Asc (l : List Nat) : Prop := ∀ r ∈ l, r < 128
theorem asc_app {a b : List Nat} (ha : Asc a) (hb : Asc b) : Asc (a ++ b) := fun r hr => by
  rcases List.mem_append.1 hr with h | h
  · exact ha r h
  · exact hb r h
theorem asc_size {l : List Nat} (h : Asc l) : (textOf l).size = l.length := by
  rw [textOf_size]
  induction l with
  | nil => rfl
  | cons r l ih =>
    rw [List.flatMap_cons, List.length_append, ih (fun x hx => h x (List.mem_cons_of_mem _ hx)), List.length_cons]
    have : (enc r).length = 1 := by unfold enc; rw [if_pos (h r List.mem_cons_self)]; rfl
    omega
theorem asc_dig (u : Nat) : Asc (digR u) := fun r hr => by have := dig_range ((digR_facts u).1 r hr); omega
theorem asc_lit {l : List Nat} (h : l.all (· < 128) = true) : Asc l := fun r hr => by simpa using List.all_eq_true.1 h r hr
theorem app_size (T s : ByteArray) : (T ++ s).size = T.size + s.size := ByteArray.size_append
/-- What is known of a line told behind T. -/
structure Told (x : Ex) (T : ByteArray) : Prop where
  fits : T.size + x.line.length ≤ 400 → x.tell T = T ++ textOf x.line
  wide : 400 < T.size + x.line.length → 400 < (x.tell T).size
  most : (x.tell T).size + 10 ≤ T.size + 40 * x.size
structure Wove (ss : List (List Nat)) (l : List Ex) (T : ByteArray) : Prop where
  fits : T.size + (weave ss (lines l)).length ≤ 400 → weaveT ss (tellsL l) T = T ++ textOf (weave ss (lines l))
  wide : 400 < T.size + (weave ss (lines l)).length → 400 < (weaveT ss (tellsL l) T).size
  most : (weaveT ss (tellsL l) T).size ≤ T.size + 40 * sizes l + 1
theorem shut1 : (textOf [41]).size = 1 := rfl
theorem wove_end (T : ByteArray) : Wove [] [] T := by
  refine ⟨fun _ => ?_, fun h => ?_, ?_⟩
  · rw [lines_nil, tellsL_nil]; rfl
  · rw [lines_nil] at h
    rw [tellsL_nil]
    change 400 < T.size + 1 at h
    show 400 < (T ++ textOf [41]).size
    rw [app_size, shut1]
    omega
  · rw [tellsL_nil]
    show (T ++ textOf [41]).size ≤ _
    rw [app_size, shut1]
    omega
theorem wove_any : ∀ (ss : List (List Nat)) (l : List Ex), ss.length = l.length → (∀ s ∈ ss, Asc s ∧ s.length ≤ 10) → (∀ y ∈ l, Asc y.line ∧ ∀ T, Told y T) → Asc (weave ss (lines l)) ∧ ∀ T, Wove ss l T
  | [], [], _, _, _ => ⟨by rw [lines_nil]; exact asc_lit rfl, wove_end⟩
  | [], _ :: _, h, _, _ => by simp at h
  | _ :: _, [], h, _, _ => by simp at h
  | s :: ss, y :: l, h, hs, hy => by
    obtain ⟨hs1, hs2⟩ := hs s List.mem_cons_self
    obtain ⟨hy1, hy2⟩ := hy y List.mem_cons_self
    obtain ⟨ha, hw⟩ := wove_any ss l (by simpa using h) (fun x hx => hs x (List.mem_cons_of_mem _ hx)) (fun x hx => hy x (List.mem_cons_of_mem _ hx))
    have e : weave (s :: ss) (lines (y :: l)) = s ++ (y.line ++ weave ss (lines l)) := by rw [lines_cons, weave]
    refine ⟨by rw [e]; exact asc_app hs1 (asc_app hy1 ha), fun T => ?_⟩
    have eT : weaveT (s :: ss) (tellsL (y :: l)) T = if 400 < T.size then T else weaveT ss (tellsL l) (y.tell (T ++ textOf s)) := by rw [tellsL_cons, weaveT]
    have hz : (T ++ textOf s).size = T.size + s.length := by rw [app_size, asc_size hs1]
    obtain ⟨y1, y2, y3⟩ := hy2 (T ++ textOf s)
    obtain ⟨w1, w2, w3⟩ := hw (y.tell (T ++ textOf s))
    rw [hz] at y1 y2 y3
    have es := sizes_cons y l
    have hp := size_pos y
    refine ⟨fun h => ?_, fun h => ?_, ?_⟩
    · rw [e] at h ⊢
      rw [List.length_append, List.length_append] at h
      rw [eT, if_neg (by omega)]
      have hy := y1 (by omega)
      rw [hy] at w1 ⊢
      have hl : (T ++ textOf s ++ textOf y.line).size = T.size + s.length + y.line.length := by rw [app_size, hz, asc_size hy1]
      rw [hl] at w1
      rw [w1 (by omega), ← textOf_app, ← textOf_app, ByteArray.append_assoc, ByteArray.append_assoc]
    · rw [e, List.length_append, List.length_append] at h
      rw [eT]
      by_cases hb : 400 < T.size
      · rw [if_pos hb]; exact hb
      · rw [if_neg hb]
        by_cases hc : T.size + s.length + y.line.length ≤ 400
        · have hy := y1 hc
          have hl : (y.tell (T ++ textOf s)).size = T.size + s.length + y.line.length := by rw [hy, app_size, hz, asc_size hy1]
          exact w2 (by omega)
        · have := y2 (by omega)
          exact w2 (by omega)
    · rw [eT]
      by_cases hb : 400 < T.size
      · rw [if_pos hb]; omega
      · rw [if_neg hb]; omega
theorem sgnR_ok (o : Nat) : ((sgnR o).all (· < 128) && decide ((sgnR o).length ≤ 10)) = true := by
  unfold sgnR
  repeat' split
  all_goals rfl
theorem aheads_ok (o : Nat) : ∀ s ∈ aheads o, Asc s ∧ s.length ≤ 10 := by
  intro s hs
  have hall : (aheads o).all (fun s => s.all (· < 128) && decide (s.length ≤ 10)) = true := by
    have h := sgnR_ok o
    unfold aheads
    generalize sgnR o = S at h ⊢
    split
    · rfl
    split
    · rfl
    split
    · rfl
    · rw [List.all_cons]; exact Bool.and_eq_true_iff.2 ⟨rfl, by rw [List.all_cons, h]; rfl⟩
  have := List.all_eq_true.1 hall s hs
  rw [Bool.and_eq_true] at this
  exact ⟨asc_lit this.1, by simpa using this.2⟩
theorem leaf_told {x : Ex} {L : List Nat} (h1 : x.line = L) (h2 : ∀ T, x.tell T = T ++ textOf L) (h3 : Asc L) (h4 : L.length ≤ 20) : Asc x.line ∧ ∀ T, Told x T := by
  have hp := size_pos x
  refine ⟨by rw [h1]; exact h3, fun T => ?_⟩
  have hz : (x.tell T).size = T.size + L.length := by rw [h2, app_size, asc_size h3]
  exact ⟨fun _ => by rw [h2, h1], fun h => by rw [hz, ← h1]; exact h, by rw [hz]; omega⟩
theorem aheads_len {o : Nat} {n : Int} {m : Nat} (h : fitsB o n m = true) (h4 : 4 < o) : (aheads o).length = m := by
  rw [fitsB_iff'] at h
  obtain ⟨_, _, h⟩ := h
  unfold aheads
  split
  · simp; omega
  split
  · simp; omega
  split
  · simp; omega
  · simp; omega
theorem told_any : ∀ x : Ex, Fit x → Num x → Asc x.line ∧ ∀ T, Told x T := by
  refine Ex.ind fun x ih hf hn => ?_
  have hF := (fit_eq x).1 hf
  have hN := (num_eq x).1 hn
  have hB := hF.1
  rw [fitsB_iff'] at hB
  have e1 := line_eq x
  have e2 := tell_eq x
  unfold lineO at e1
  unfold tellO at e2
  by_cases h1 : x.op = 1
  · rw [if_pos h1] at e1
    have hd := digR_len (u := x.n.toNat) (by omega)
    exact leaf_told e1 (fun T => by rw [e2]; simp only [h1, if_true]) (asc_dig _) hd
  rw [if_neg h1] at e1
  by_cases h2 : x.op = 2
  · rw [if_pos h2] at e1
    exact leaf_told e1 (fun T => by rw [e2]; simp only [h2, if_true]; rfl) (asc_lit rfl) (by decide)
  rw [if_neg h2] at e1
  by_cases h3 : x.op = 3
  · rw [if_pos h3] at e1
    exact leaf_told e1 (fun T => by rw [e2]; simp only [h3, if_true]; rfl) (asc_lit rfl) (by decide)
  rw [if_neg h3] at e1
  by_cases h4 : x.op = 4
  · rw [if_pos h4] at e1
    exact leaf_told e1 (fun T => by rw [e2]; simp only [h4, if_true]; rfl) (asc_lit rfl) (by decide)
  rw [if_neg h4] at e1
  have eT : ∀ T, x.tell T = weaveT (aheads x.op) (tellsL x.args) T := fun T => by rw [e2]; simp only [h1, h2, h3, h4, if_false]
  obtain ⟨ha, hw⟩ := wove_any (aheads x.op) x.args (aheads_len hF.1 (by omega)) (aheads_ok _) (fun y hy => ih y hy (hF.2 y hy) (hN.2 y hy))
  refine ⟨by rw [e1]; exact ha, fun T => ?_⟩
  obtain ⟨w1, w2, w3⟩ := hw T
  have es := size_eq x
  exact ⟨fun h => by rw [eT, e1]; rw [e1] at h; exact w1 h, fun h => by rw [eT]; rw [e1] at h; exact w2 h, by rw [eT]; omega⟩
end Go.Proofs.YtffhmbiamkbchaaDoor.exp
