/- Plain facts on what is told: how great it is, that it fits; runes counted. No program's run in this file. -/
import Derived.Test.YteicfdgadloheaaExT
import Derived.Test.YteicfdgadloheaaLxR
import Derived.Lib.RuneCount
namespace Go.Proofs.Yteicfdgadloheaa.exp
set_option linter.unusedSimpArgs false
set_option linter.unusedVariables false
open lex nam

theorem runeCountFrom_rn (s : ByteArray) : ∀ (f pos : Nat), s.size ≤ pos + f → Lib.runeCountFrom s f pos = (rn s pos).length
  | 0, pos, h => by rw [rn_end s pos (by omega)]; rfl
  | f + 1, pos, h => by
    unfold Lib.runeCountFrom
    by_cases hp : pos < s.size
    · have hw := width_pos s pos hp
      rw [if_pos hp, rn_step s pos hp, runeCountFrom_rn s f _ (by omega), List.length_cons]; omega
    · rw [if_neg hp, rn_end s pos hp]; rfl
theorem runeCount_rn (s : ByteArray) : Lib.runeCount s = (rn s 0).length := runeCountFrom_rn s _ _ (by omega)

/-- A rule tells no more parts than it takes tokens; each fits. -/
def Good (n : Nat) (P : List Tok → Prop) : Out → Prop
  | .bad l => P l
  | .ok x l => x.size + l.length ≤ n ∧ Fit x ∧ P l
theorem Good.mono {n m : Nat} {P : List Tok → Prop} {o : Out} (h : Good n P o) (hm : n ≤ m) : Good m P o := by
  cases o with
  | bad l => exact h
  | ok x l => exact ⟨by have := h.1; omega, h.2⟩
def Nums (l : List Tok) : Prop := ∀ t ∈ l, 0 ≤ (t.n : Int)
theorem op_range {r : Nat} (hr : r < 5) {s : List Nat} (h : opAt r s ≠ 0) : 7 ≤ opAt r s ∧ opAt r s ≤ 17 := by
  rcases (show r = 0 ∨ r = 1 ∨ r = 2 ∨ r = 3 ∨ r = 4 by omega) with rfl | rfl | rfl | rfl | rfl
  · unfold opAt at *; by_cases h1 : s = [124] <;> simp [h1] at h ⊢
  · unfold opAt at *; by_cases h1 : s = [38] <;> simp [h1] at h ⊢
  · unfold opAt at *
    simp at *
    by_cases h1 : s = [60]
    · simp [h1]
    by_cases h2 : s = [60, 61]
    · simp [h2]
    by_cases h3 : s = [61]
    · simp [h3]
    by_cases h4 : s = [33, 61]
    · simp [h4]
    · simp [h1, h2, h3, h4] at h
  · unfold opAt at *
    simp at *
    by_cases h1 : s = [43]
    · simp [h1]
    by_cases h2 : s = [45]
    · simp [h2]
    · simp [h1, h2] at h
  · unfold opAt at *
    simp at *
    by_cases h1 : s = [42]
    · simp [h1]
    by_cases h2 : s = [47]
    · simp [h2]
    by_cases h3 : s = [37]
    · simp [h3]
    · simp [h1, h2, h3] at h
theorem fit_mk {o : Nat} {n : Int} {l : List Ex} (h : fitsB o n l.length = true) (hl : ∀ x ∈ l, Fit x) : Fit (.mk o n l) := (fit_eq _).2 ⟨h, hl⟩
theorem fitsB_iff' (o : Nat) (n : Int) (m : Nat) : fitsB o n m = true ↔ 0 ≤ n ∧ (0 < n → o = 1) ∧ ((1 ≤ o ∧ o ≤ 4 ∧ m = 0) ∨ ((o = 5 ∨ o = 6) ∧ m = 1) ∨ (o = 18 ∧ m = 3) ∨ (7 ≤ o ∧ o ≤ 17 ∧ m = 2)) := by
  unfold fitsB
  split
  · simp; omega
  split
  · simp; omega
  split
  · simp; omega
  split
  · simp; omega
  · simp; omega
theorem leaf_good {l : List Tok} (hl : l ≠ []) {o : Nat} {n : Int} (h : fitsB o n 0 = true) : Good l.length (fun _ => True) (.ok (.mk o n []) l.tail) := by
  refine ⟨?_, fit_mk h (fun x hx => by cases hx), trivial⟩
  rw [size_mk, sizes_nil]
  cases l with
  | nil => exact absurd rfl hl
  | cons t l => simp; omega
theorem loopP_good {f : List Tok → Out} {r n : Nat} (hr : r < 5) (hf : ∀ l, Good l.length (fun _ => True) (f l)) : ∀ (m : Nat) (x : Ex) (l : List Tok), x.size + l.length ≤ n → Fit x → Good n (fun _ => True) (loopP f r m x l)
  | 0, x, l, hl, hx => ⟨hl, hx, trivial⟩
  | m + 1, x, l, hl, hx => by
    by_cases h : opAt r (txt l) = 0
    · rw [loopP_none h]; exact ⟨hl, hx, trivial⟩
    · have ht := tail_lt (op_ne h)
      have hh := hf l.tail
      cases e : f l.tail with
      | bad l' => rw [loopP_bad h e]; trivial
      | ok y l' =>
        rw [loopP_ok h e]
        rw [e] at hh
        obtain ⟨h1, h2, _⟩ := hh
        have ho := op_range hr h
        refine loopP_good hr hf m _ l' ?_ (fit_mk ?_ ?_)
        · rw [size_mk, sizes_cons, sizes_cons, sizes_nil]; omega
        · rw [fitsB_iff']; refine ⟨by omega, by omega, ?_⟩; simp; omega
        · intro z hz
          rcases List.mem_cons.1 hz with rfl | hz
          · exact hx
          · rw [List.mem_singleton.1 hz]; exact h2
theorem txt_nil {l : List Tok} (h : txt l ≠ []) : l ≠ [] := fun e => h (by rw [e]; rfl)
theorem oneP_good {f : List Tok → Out} (hf : ∀ l, Good l.length (fun _ => True) (f l)) (l : List Tok) : Good l.length (fun _ => True) (oneP f l) := by
  unfold oneP
  split
  · rename_i h
    refine leaf_good (fun e => by rw [e] at h; simp [knd] at h) ?_
    rw [fitsB_iff']
    refine ⟨by omega, fun _ => rfl, .inl ⟨by omega, by omega, rfl⟩⟩
  split
  · rename_i h; exact leaf_good (txt_nil (by rw [h]; simp)) (by decide)
  split
  · rename_i h; exact leaf_good (txt_nil (by rw [h]; simp)) (by decide)
  split
  · rename_i h; exact leaf_good (txt_nil (by rw [h]; simp)) (by decide)
  split
  · rename_i h
    have ht := tail_lt (l := l) (by rw [h]; simp)
    have hh := hf l.tail
    cases e : f l.tail with
    | bad l' => trivial
    | ok x l' =>
      rw [e] at hh
      simp only []
      split
      · rename_i h2
        have := tail_lt (l := l') (by rw [h2]; simp)
        exact ⟨by have := hh.1; omega, hh.2.1, trivial⟩
      · trivial
  split
  · rename_i h
    have ht := tail_lt (l := l) (by rw [h]; simp [wIf])
    have hh := hf l.tail
    unfold ifP
    cases e : f l.tail with
    | bad l' => trivial
    | ok a l1 =>
      rw [e] at hh
      simp only []
      split
      · rename_i h2
        have ht1 := tail_lt (l := l1) (by rw [h2]; simp [wThen])
        have hh1 := hf l1.tail
        cases e1 : f l1.tail with
        | bad l' => trivial
        | ok b l2 =>
          rw [e1] at hh1
          simp only []
          split
          · rename_i h3
            have ht2 := tail_lt (l := l2) (by rw [h3]; simp [wElse])
            have hh2 := hf l2.tail
            cases e2 : f l2.tail with
            | bad l' => trivial
            | ok c l3 =>
              rw [e2] at hh2
              obtain ⟨a1, a2, _⟩ := hh
              obtain ⟨b1, b2, _⟩ := hh1
              obtain ⟨c1, c2, _⟩ := hh2
              refine ⟨?_, fit_mk (show fitsB 18 0 3 = true by decide) ?_, trivial⟩
              · rw [size_mk, sizes_cons, sizes_cons, sizes_cons, sizes_nil]; omega
              · intro z hz
                simp only [List.mem_cons, List.not_mem_nil, or_false] at hz
                rcases hz with rfl | rfl | rfl
                · exact a2
                · exact b2
                · exact c2
          · trivial
      · trivial
  · trivial
theorem par_good : ∀ (k r : Nat) (l : List Tok), Good l.length (fun _ => True) (par k r l) := by
  intro k
  induction k with
  | zero => intro r l; trivial
  | succ k ih =>
    intro r l
    unfold par
    split
    · rename_i h5
      have hh := ih (r + 1) l
      cases e : par k (r + 1) l with
      | bad l' => trivial
      | ok x l' =>
        rw [e] at hh
        exact loopP_good h5 (fun l2 => ih (r + 1) l2) _ x l' hh.1 hh.2.1
    split
    · split
      · rename_i h
        have ht := tail_lt (l := l) (by rw [h]; simp)
        have hh := ih 5 l.tail
        cases e : par k 5 l.tail with
        | bad l' => trivial
        | ok x l' =>
          rw [e] at hh
          exact ⟨by rw [size_mk, sizes_cons, sizes_nil]; have := hh.1; omega, fit_mk (show fitsB 5 0 1 = true by decide) (fun z hz => by rw [List.mem_singleton.1 hz]; exact hh.2.1), trivial⟩
      split
      · rename_i h
        have ht := tail_lt (l := l) (by rw [h]; simp)
        have hh := ih 5 l.tail
        cases e : par k 5 l.tail with
        | bad l' => trivial
        | ok x l' =>
          rw [e] at hh
          exact ⟨by rw [size_mk, sizes_cons, sizes_nil]; have := hh.1; omega, fit_mk (show fitsB 6 0 1 = true by decide) (fun z hz => by rw [List.mem_singleton.1 hz]; exact hh.2.1), trivial⟩
      · exact ih 6 l
    · exact oneP_good (fun l' => ih 0 l') l
theorem par_size {k r : Nat} {l l' : List Tok} {x : Ex} (h : par k r l = .ok x l') : x.size ≤ l.length ∧ Fit x := by
  have := par_good k r l
  rw [h] at this
  exact ⟨by have := this.1; omega, this.2.1⟩
/-- The tokens of a text: what each has, and that they are few. -/
theorem toks_ok (s : ByteArray) : (∀ t ∈ (toksO s).1, TokOk t) ∧ (toksO s).1.length ≤ 400 := by
  unfold toksO
  split
  · exact ⟨fun t h => (by cases h), by simp⟩
  · rename_i h
    have := scan_ok (rn s 0) [] none 0 (fun _ _ => .inr trivial) (rn_ok s 0) (fun t h => by cases h) (fun t h => by cases h)
    refine ⟨this.1, ?_⟩
    have h1 := this.2
    have h2 := rn_length s 0
    simp at h1
    omega
end Go.Proofs.Yteicfdgadloheaa.exp
