/- Plain facts on the types of expressions. No program's run in this file. -/
import Derived.Test.YtjmfneljgogohaaDoorExP
namespace Go.Proofs.YtjmfneljgogohaaDoor.exp
set_option linter.unusedSimpArgs false
set_option linter.unusedVariables false

/-- An Op, and its Args' types. -/
abbrev Rw := Nat × Nat × Nat × Nat
def put1 (m : Rw → Option Nat) (a : Rw) (v : Nat) : Rw → Option Nat := fun x => if x = a then some v else m x
def tabL : List (Rw × Nat) := [((1, 0, 0, 0), 1), ((2, 0, 0, 0), 1), ((3, 0, 0, 0), 1), ((4, 0, 0, 0), 1), ((5, 1, 0, 0), 1), ((7, 1, 1, 0), 1), ((8, 1, 1, 0), 1), ((9, 1, 1, 0), 1), ((10, 1, 1, 0), 1), ((11, 1, 1, 0), 1), ((6, 2, 0, 0), 2), ((16, 2, 2, 0), 2), ((17, 2, 2, 0), 2), ((12, 1, 1, 0), 2), ((13, 1, 1, 0), 2), ((14, 1, 1, 0), 2), ((14, 2, 2, 0), 2), ((15, 1, 1, 0), 2), ((15, 2, 2, 0), 2), ((18, 2, 1, 1), 1), ((18, 2, 2, 2), 2)]
def tabO : List (Rw × Nat) → (Rw → Option Nat) → Rw → Option Nat
  | [], m => m
  | p :: l, m => tabO l (put1 m p.1 p.2)
/-- The type of each row that has one. -/
def tab : Rw → Option Nat := tabO tabL fun _ => none
def rw3 (o : Nat) (l : List Nat) : Rw := (o, l.getD 0 0, l.getD 1 0, l.getD 2 0)
def tyRow (o : Nat) (l : List Nat) : Nat := (tab (rw3 o l)).getD 0
mutual
/-- An expression's type; 0: none. -/
def Ex.ty : Ex → Nat
  | .mk o _ l => tyRow o (tys l)
def tys : List Ex → List Nat
  | [] => []
  | x :: l => x.ty :: tys l
end
mutual
/-- Is there an ExAcc in it? -/
def Ex.acc : Ex → Bool
  | .mk o _ l => o == 4 || accs l
def accs : List Ex → Bool
  | [] => false
  | x :: l => x.acc || accs l
end
theorem ty_eq (x : Ex) : x.ty = tyRow x.op (tys x.args) := by cases x; rw [Ex.ty]; rfl
theorem acc_eq (x : Ex) : x.acc = (x.op == 4 || accs x.args) := by cases x; rw [Ex.acc]; rfl
theorem tys_nil : tys [] = [] := by rw [tys]
theorem tys_cons (x : Ex) (l : List Ex) : tys (x :: l) = x.ty :: tys l := by rw [tys]
theorem accs_nil : accs [] = false := by rw [accs]
theorem accs_cons (x : Ex) (l : List Ex) : accs (x :: l) = (x.acc || accs l) := by rw [accs]
theorem tys_map (l : List Ex) : tys l = l.map Ex.ty := by
  induction l with
  | nil => rw [tys_nil]; rfl
  | cons x l ih => rw [tys_cons, ih]; rfl
theorem accs_any (l : List Ex) : accs l = l.any Ex.acc := by
  induction l with
  | nil => rw [accs_nil]; rfl
  | cons x l ih => rw [accs_cons, ih]; rfl
theorem tys_len (l : List Ex) : (tys l).length = l.length := by rw [tys_map, List.length_map]
theorem tys_take {l : List Ex} {k : Nat} (hk : k < l.length) : tys (l.take (k + 1)) = tys (l.take k) ++ [l[k].ty] := by
  rw [tys_map, tys_map, List.take_succ_eq_append_getElem hk, List.map_append]; rfl
theorem accs_take {l : List Ex} {k : Nat} (hk : k < l.length) : accs (l.take (k + 1)) = (accs (l.take k) || l[k].acc) := by
  rw [accs_any, accs_any, List.take_succ_eq_append_getElem hk, List.any_append]; simp
theorem rw3_snoc {o k : Nat} {l : List Nat} {t : Nat} (hl : l.length = k) (hk : k < 3) : rw3 o (l ++ [t]) = if k = 0 then (o, t, 0, 0) else if k = 1 then (o, l.getD 0 0, t, 0) else (o, l.getD 0 0, l.getD 1 0, t) := by
  match k, l, hl with
  | 0, [], _ => rfl
  | 1, [a], _ => rfl
  | 2, [a, b], _ => rfl
  | k + 3, _, _ => omega
theorem rw3_short {o k : Nat} {l : List Nat} (hl : l.length = k) : rw3 o l = if k = 0 then (o, 0, 0, 0) else if k = 1 then (o, l.getD 0 0, 0, 0) else if k = 2 then (o, l.getD 0 0, l.getD 1 0, 0) else rw3 o l := by
  match k, l, hl with
  | 0, [], _ => rfl
  | 1, [a], _ => rfl
  | 2, [a, b], _ => rfl
  | k + 3, l, _ => simp
/-- Of what it may be, an expression has at most three parts. -/
theorem fitsB_three {o m : Nat} {n : Int} (h : fitsB o n m = true) : m ≤ 3 := by
  unfold fitsB at h
  split at h
  · cases h
  split at h
  · simp at h; omega
  split at h
  · simp at h; omega
  split at h
  · simp at h; omega
  · simp at h; omega
theorem tab_small {r : Rw} {v : Nat} (h : tab r = some v) : v = 1 ∨ v = 2 := by
  have : ∀ (l : List (Rw × Nat)) (m : Rw → Option Nat), (∀ p ∈ l, p.2 = 1 ∨ p.2 = 2) → (∀ r v, m r = some v → v = 1 ∨ v = 2) → ∀ r v, tabO l m r = some v → v = 1 ∨ v = 2 := by
    intro l
    induction l with
    | nil => intro m _ hm; exact hm
    | cons p l ih =>
      intro m hp hm
      refine ih _ (fun q hq => hp q (List.mem_cons_of_mem _ hq)) fun r v hr => ?_
      unfold put1 at hr
      split at hr
      · cases hr; exact hp p (by simp)
      · exact hm r v hr
  exact this tabL _ (by decide) (fun r v h => by cases h) r v h
/-- What Of tells: the type, the error. -/
def kindO (x : Ex) (acc : Bool) : Nat × Int := if good FM x 1 = false then (0, 2) else if x.acc = true ∧ acc = false then (0, 90) else if x.ty = 0 then (0, 91) else (x.ty, 0)
end Go.Proofs.YtjmfneljgogohaaDoor.exp
