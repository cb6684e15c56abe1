/- Plain facts on expressions: size, depth, which may be. No program's run in this file. -/
import Init
namespace Go.Proofs.YtjmfneljgogohaaDoor.exp
set_option linter.unusedSimpArgs false
set_option linter.unusedVariables false

inductive Ex where
  | mk (op : Nat) (n : Int) (args : List Ex)
def Ex.op : Ex → Nat
  | .mk o _ _ => o
def Ex.n : Ex → Int
  | .mk _ n _ => n
def Ex.args : Ex → List Ex
  | .mk _ _ l => l
def Ex.zero : Ex := .mk 0 0 []
instance : Inhabited Ex := ⟨Ex.zero⟩
theorem Ex.eta (x : Ex) : x = .mk x.op x.n x.args := by cases x; rfl
theorem Ex.ext' {x y : Ex} (ho : x.op = y.op) (hn : x.n = y.n) (ha : x.args = y.args) : x = y := by
  cases x; cases y; simp only [Ex.op, Ex.n, Ex.args] at ho hn ha; subst ho; subst hn; subst ha; rfl

mutual
def Ex.size : Ex → Nat
  | .mk _ _ l => 1 + sizes l
def sizes : List Ex → Nat
  | [] => 0
  | x :: l => x.size + sizes l
end
mutual
/-- How deep. -/
def Ex.dep : Ex → Nat
  | .mk _ _ l => 1 + deps l
def deps : List Ex → Nat
  | [] => 0
  | x :: l => max x.dep (deps l)
end
mutual
/-- F holds of all parts, each with how deep it stands. -/
def good (F : Nat → Int → Nat → Nat → Bool) : Ex → Nat → Bool
  | .mk o n l, d => F o n l.length d && goods F l (d + 1)
def goods (F : Nat → Int → Nat → Nat → Bool) : List Ex → Nat → Bool
  | [], _ => true
  | x :: l, d => good F x d && goods F l d
end
theorem size_mk (o : Nat) (n : Int) (l : List Ex) : (Ex.mk o n l).size = 1 + sizes l := by rw [Ex.size]
theorem sizes_nil : sizes [] = 0 := by rw [sizes]
theorem sizes_cons (x : Ex) (l : List Ex) : sizes (x :: l) = x.size + sizes l := by rw [sizes]
theorem dep_mk (o : Nat) (n : Int) (l : List Ex) : (Ex.mk o n l).dep = 1 + deps l := by rw [Ex.dep]
theorem deps_nil : deps [] = 0 := by rw [deps]
theorem deps_cons (x : Ex) (l : List Ex) : deps (x :: l) = max x.dep (deps l) := by rw [deps]
theorem good_mk (F : Nat → Int → Nat → Nat → Bool) (o : Nat) (n : Int) (l : List Ex) (d : Nat) : good F (.mk o n l) d = (F o n l.length d && goods F l (d + 1)) := by rw [good]
theorem goods_nil (F : Nat → Int → Nat → Nat → Bool) (d : Nat) : goods F [] d = true := by rw [goods]
theorem goods_cons (F : Nat → Int → Nat → Nat → Bool) (x : Ex) (l : List Ex) (d : Nat) : goods F (x :: l) d = (good F x d && goods F l d) := by rw [goods]
theorem size_pos (x : Ex) : 1 ≤ x.size := by cases x; rw [size_mk]; omega
theorem dep_pos (x : Ex) : 1 ≤ x.dep := by cases x; rw [dep_mk]; omega
theorem size_eq (x : Ex) : x.size = 1 + sizes x.args := by cases x; rw [size_mk]; rfl
theorem dep_eq (x : Ex) : x.dep = 1 + deps x.args := by cases x; rw [dep_mk]; rfl
theorem good_eq (F : Nat → Int → Nat → Nat → Bool) (x : Ex) (d : Nat) : good F x d = (F x.op x.n x.args.length d && goods F x.args (d + 1)) := by cases x; rw [good_mk]; rfl
theorem sizes_mem {x : Ex} {l : List Ex} (h : x ∈ l) : x.size ≤ sizes l := by
  induction l with
  | nil => cases h
  | cons y l ih =>
    rw [sizes_cons]
    rcases List.mem_cons.1 h with rfl | h'
    · omega
    · have := ih h'; omega
theorem sizes_len (l : List Ex) : l.length ≤ sizes l := by
  induction l with
  | nil => simp
  | cons x l ih => rw [sizes_cons, List.length_cons]; have := size_pos x; omega
theorem size_arg {x y : Ex} (h : y ∈ x.args) : y.size < x.size := by
  rw [size_eq x]; have := sizes_mem h; omega
theorem Ex.ind {P : Ex → Prop} (h : ∀ x, (∀ y ∈ x.args, P y) → P x) : ∀ x, P x := by
  have : ∀ (k : Nat) (x : Ex), x.size ≤ k → P x := by
    intro k
    induction k with
    | zero => intro x hx; have := size_pos x; omega
    | succ k ih => exact fun x hx => h x fun y hy => ih y (by have := size_arg hy; omega)
  exact fun x => this _ x (Nat.le_refl _)

/-- What of the function's own arguments the depth may be: it may be less. -/
def Falls (F : Nat → Int → Nat → Nat → Bool) : Prop := ∀ o n m d d', d ≤ d' → F o n m d' = true → F o n m d = true
theorem goods_mem {F : Nat → Int → Nat → Nat → Bool} {l : List Ex} {d : Nat} : goods F l d = true ↔ ∀ x ∈ l, good F x d = true := by
  induction l with
  | nil => simp [goods_nil]
  | cons y l ih => simp [goods_cons, ih]
theorem good_falls {F : Nat → Int → Nat → Nat → Bool} (hF : Falls F) : ∀ (x : Ex) (d d' : Nat), d ≤ d' → good F x d' = true → good F x d = true := by
  refine Ex.ind fun x ih d d' hd h => ?_
  rw [good_eq, Bool.and_eq_true] at *
  refine ⟨hF _ _ _ _ _ hd h.1, goods_mem.2 fun y hy => ih y hy (d + 1) (d' + 1) (by omega) (goods_mem.1 h.2 y hy)⟩
theorem goods_take {F : Nat → Int → Nat → Nat → Bool} {l : List Ex} {d k : Nat} (hk : k < l.length) (h : goods F (l.take k) d = true) (hg : good F l[k] d = true) : goods F (l.take (k + 1)) d = true := by
  rw [List.take_succ_eq_append_getElem hk]
  refine goods_mem.2 fun x hx => ?_
  rcases List.mem_append.1 hx with h' | h'
  · exact goods_mem.1 h x h'
  · rw [List.mem_singleton.1 h']; exact hg
theorem deps_take {l : List Ex} {k : Nat} (hk : k < l.length) : deps (l.take (k + 1)) = max (deps (l.take k)) (l[k].dep) := by
  induction l generalizing k with
  | nil => simp at hk
  | cons x l ih =>
    cases k with
    | zero => simp [deps_cons, deps_nil]
    | succ k =>
      simp only [List.take_succ_cons, deps_cons, List.getElem_cons_succ]
      rw [ih (by simpa using hk)]
      omega
theorem deps_mem {x : Ex} {l : List Ex} (h : x ∈ l) : x.dep ≤ deps l := by
  induction l with
  | nil => cases h
  | cons y l ih =>
    rw [deps_cons]
    rcases List.mem_cons.1 h with rfl | h'
    · omega
    · have := ih h'; omega
theorem deps_le {l : List Ex} {k : Nat} (h : ∀ x ∈ l, x.dep ≤ k) : deps l ≤ k := by
  induction l with
  | nil => rw [deps_nil]; omega
  | cons y l ih =>
    rw [deps_cons]
    have := h y (by simp)
    have := ih fun x hx => h x (by simp [hx])
    omega

/-- Of how many an expression is, and its number. -/
def fitsB (o : Nat) (n : Int) (many : Nat) : Bool :=
  if n < 0 ∨ 0 < n ∧ o ≠ 1 then false
  else if o = 1 ∨ o = 2 ∨ o = 3 ∨ o = 4 then many == 0
  else if o = 5 ∨ o = 6 then many == 1
  else if o = 18 then many == 3
  else decide (7 ≤ o ∧ o ≤ 17 ∧ many = 2)
def FM (o : Nat) (n : Int) (m d : Nat) : Bool := decide (d ≤ 16) && fitsB o n m
def FD (_ : Nat) (_ : Int) (_ d : Nat) : Bool := decide (d ≤ 16)
theorem falls_FM : Falls FM := by
  intro o n m d d' hd h
  simp only [FM, Bool.and_eq_true, decide_eq_true_eq] at *
  exact ⟨by omega, h.2⟩
theorem falls_FD : Falls FD := by
  intro o n m d d' hd h
  simp only [FD, decide_eq_true_eq] at *
  omega
/-- All parts fit. -/
def Fit : Ex → Prop := fun x => good (fun o n m _ => fitsB o n m) x 0 = true
theorem good_const {G : Nat → Int → Nat → Bool} : ∀ (x : Ex) (d d' : Nat), good (fun o n m _ => G o n m) x d = good (fun o n m _ => G o n m) x d' := by
  refine Ex.ind fun x ih d d' => ?_
  rw [good_eq, good_eq]
  congr 1
  rw [Bool.eq_iff_iff, goods_mem, goods_mem]
  exact ⟨fun h y hy => (ih y hy _ _) ▸ h y hy, fun h y hy => (ih y hy _ _) ▸ h y hy⟩
theorem fit_eq (x : Ex) : Fit x ↔ fitsB x.op x.n x.args.length = true ∧ ∀ y ∈ x.args, Fit y := by
  unfold Fit
  rw [good_eq, Bool.and_eq_true, goods_mem]
  constructor
  · rintro ⟨h1, h2⟩
    exact ⟨h1, fun y hy => (good_const y _ _) ▸ h2 y hy⟩
  · rintro ⟨h1, h2⟩
    exact ⟨h1, fun y hy => (good_const y _ _) ▸ h2 y hy⟩
theorem good_FD : ∀ (x : Ex) (d : Nat), good FD x d = decide (d + x.dep ≤ 17) := by
  refine Ex.ind fun x ih d => ?_
  rw [good_eq, Bool.eq_iff_iff, Bool.and_eq_true, goods_mem, dep_eq]
  simp only [FD, decide_eq_true_eq]
  constructor
  · rintro ⟨h1, h2⟩
    have : deps x.args ≤ 16 - d := deps_le fun y hy => by
      have := h2 y hy
      rw [ih y hy] at this
      simp only [decide_eq_true_eq] at this
      omega
    omega
  · intro h
    refine ⟨by omega, fun y hy => ?_⟩
    rw [ih y hy]
    have := deps_mem hy
    simp only [decide_eq_true_eq]
    omega
theorem good_FM : ∀ (x : Ex) (d : Nat), good FM x d = true ↔ d + x.dep ≤ 17 ∧ Fit x := by
  refine Ex.ind fun x ih d => ?_
  rw [good_eq, Bool.and_eq_true, goods_mem, dep_eq, fit_eq]
  simp only [FM, Bool.and_eq_true, decide_eq_true_eq]
  constructor
  · rintro ⟨h1, h2⟩
    have : deps x.args ≤ 16 - d := deps_le fun y hy => by
      have := (ih y hy _).1 (h2 y hy)
      omega
    exact ⟨by omega, h1.2, fun y hy => ((ih y hy _).1 (h2 y hy)).2⟩
  · rintro ⟨h1, h2, h3⟩
    refine ⟨⟨by omega, h2⟩, fun y hy => (ih y hy _).2 ⟨?_, h3 y hy⟩⟩
    have := deps_mem hy
    omega
end Go.Proofs.YtjmfneljgogohaaDoor.exp
