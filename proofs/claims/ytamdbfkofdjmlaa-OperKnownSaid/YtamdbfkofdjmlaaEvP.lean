/- Plain facts: what expressions come to. No program's run in this file. -/
import Derived.Test.YtamdbfkofdjmlaaMKd
import Derived.Test.YtamdbfkofdjmlaaMEx
namespace Go.Proofs.Ytamdbfkofdjmlaa.exp
set_option linter.unusedSimpArgs false
set_option linter.unusedVariables false

/-- A number, or a truth. -/
inductive Vl where
  | num (n : Int)
  | tru (b : Bool)
def Vl.n : Vl → Int
  | .num n => n
  | .tru _ => 0
def Vl.b : Vl → Bool
  | .num _ => false
  | .tru b => b
def Vl.ty : Vl → Nat
  | .num _ => 1
  | .tru _ => 2
def Vl.same : Vl → Vl → Bool
  | .num a, .num b => a == b
  | .tru a, .tru b => a == b
  | _, _ => false
/-- As it is handed on. -/
def Vl.v : Vl → Value
  | .num n => .iface 2 (.int .i64 n)
  | .tru b => .iface 4 (.bool b)
structure En where
  key : Int
  val : Int
  acc : Int
def w64 (n : Int) : Int := Go.RowKit.wrap64 n
def quoO (a b : Int) : Int := if b = 0 then 0 else w64 (a.tdiv b)
def remO (a b : Int) : Int := if b = 0 then 0 else a.tmod b
def opO (o : Nat) (a b : Int) : Vl :=
  if o = 7 then .num (w64 (a + b)) else if o = 8 then .num (w64 (a - b)) else if o = 9 then .num (w64 (a * b)) else if o = 10 then .num (quoO a b) else if o = 11 then .num (remO a b) else if o = 12 then .tru (decide (a < b)) else .tru (decide (a ≤ b))
def arg (l : List Vl) (i : Nat) : Vl := l.getD i (.num 0)
def doO (E : En) (o : Nat) (n : Int) (l : List Vl) : Vl :=
  if o = 1 then .num n else if o = 2 then .num E.key else if o = 3 then .num E.val else if o = 4 then .num E.acc
  else if o = 5 then .num (w64 (-(arg l 0).n)) else if o = 6 then .tru (!(arg l 0).b)
  else if o = 16 then .tru ((arg l 0).b && (arg l 1).b) else if o = 17 then .tru ((arg l 0).b || (arg l 1).b)
  else if o = 14 then .tru ((arg l 0).same (arg l 1)) else if o = 15 then .tru (!((arg l 0).same (arg l 1)))
  else if o = 18 then (if (arg l 0).b = true then arg l 1 else arg l 2)
  else opO o (arg l 0).n (arg l 1).n
mutual
/-- What an expression comes to. -/
def Ex.come (E : En) : Ex → Vl
  | .mk o n l => doO E o n (comes E l)
def comes (E : En) : List Ex → List Vl
  | [] => []
  | x :: l => x.come E :: comes E l
end
theorem come_eq (E : En) (x : Ex) : x.come E = doO E x.op x.n (comes E x.args) := by cases x; rw [Ex.come]; rfl
theorem comes_nil (E : En) : comes E [] = [] := by rw [comes]
theorem comes_cons (E : En) (x : Ex) (l : List Ex) : comes E (x :: l) = x.come E :: comes E l := by rw [comes]
theorem comes_map (E : En) (l : List Ex) : comes E l = l.map (Ex.come E) := by
  induction l with
  | nil => rw [comes_nil]; rfl
  | cons x l ih => rw [comes_cons, ih]; rfl
theorem arg_come (E : En) {l : List Ex} {i : Nat} (h : i < l.length) : arg (comes E l) i = l[i].come E := by
  unfold arg
  rw [comes_map, List.getD_eq_getElem?_getD, List.getElem?_map, List.getElem?_eq_getElem h]; rfl

theorem tabOL_in {r : Rw} {v : Nat} : ∀ (l : List (Rw × Nat)) (m : Rw → Option Nat), tabO l m r = some v → m r = some v ∨ (r, v) ∈ l := by
  intro l
  induction l with
  | nil => intro m h; exact .inl h
  | cons p l ih =>
    intro m h
    rcases ih _ h with h1 | h1
    · unfold put1 at h1
      split at h1
      · rename_i hr
        cases h1
        exact .inr (by rw [hr]; simp)
      · exact .inl h1
    · exact .inr (List.mem_cons_of_mem _ h1)
theorem tabL_in {r : Rw} {v : Nat} (h : tab r = some v) : (r, v) ∈ tabL := by
  rcases tabOL_in tabL _ h with h | h
  · cases h
  · exact h
theorem tab_row {o a b c v : Nat} (h : tab (o, a, b, c) = some v) : (1 ≤ o ∧ o ≤ 4 ∧ a = 0 ∧ b = 0 ∧ c = 0 ∧ v = 1) ∨ (o = 5 ∧ a = 1 ∧ b = 0 ∧ c = 0 ∧ v = 1) ∨ (o = 6 ∧ a = 2 ∧ b = 0 ∧ c = 0 ∧ v = 2) ∨ (7 ≤ o ∧ o ≤ 11 ∧ a = 1 ∧ b = 1 ∧ c = 0 ∧ v = 1) ∨
    (12 ≤ o ∧ o ≤ 13 ∧ a = 1 ∧ b = 1 ∧ c = 0 ∧ v = 2) ∨ (14 ≤ o ∧ o ≤ 15 ∧ (a = 1 ∨ a = 2) ∧ b = a ∧ c = 0 ∧ v = 2) ∨ (16 ≤ o ∧ o ≤ 17 ∧ a = 2 ∧ b = 2 ∧ c = 0 ∧ v = 2) ∨ (o = 18 ∧ a = 2 ∧ (b = 1 ∨ b = 2) ∧ c = b ∧ v = b) := by
  have := tabL_in h
  simp only [tabL, List.mem_cons, Prod.mk.injEq, List.not_mem_nil, or_false] at this
  rcases this with ⟨⟨rfl, rfl, rfl, rfl⟩, rfl⟩ | ⟨⟨rfl, rfl, rfl, rfl⟩, rfl⟩ | ⟨⟨rfl, rfl, rfl, rfl⟩, rfl⟩ | ⟨⟨rfl, rfl, rfl, rfl⟩, rfl⟩ | ⟨⟨rfl, rfl, rfl, rfl⟩, rfl⟩ | ⟨⟨rfl, rfl, rfl, rfl⟩, rfl⟩ | ⟨⟨rfl, rfl, rfl, rfl⟩, rfl⟩ | ⟨⟨rfl, rfl, rfl, rfl⟩, rfl⟩ | ⟨⟨rfl, rfl, rfl, rfl⟩, rfl⟩ | ⟨⟨rfl, rfl, rfl, rfl⟩, rfl⟩ | ⟨⟨rfl, rfl, rfl, rfl⟩, rfl⟩ | ⟨⟨rfl, rfl, rfl, rfl⟩, rfl⟩ | ⟨⟨rfl, rfl, rfl, rfl⟩, rfl⟩ | ⟨⟨rfl, rfl, rfl, rfl⟩, rfl⟩ | ⟨⟨rfl, rfl, rfl, rfl⟩, rfl⟩ | ⟨⟨rfl, rfl, rfl, rfl⟩, rfl⟩ | ⟨⟨rfl, rfl, rfl, rfl⟩, rfl⟩ | ⟨⟨rfl, rfl, rfl, rfl⟩, rfl⟩ | ⟨⟨rfl, rfl, rfl, rfl⟩, rfl⟩ | ⟨⟨rfl, rfl, rfl, rfl⟩, rfl⟩ | ⟨⟨rfl, rfl, rfl, rfl⟩, rfl⟩ <;> decide
theorem two_of {l : List Ex} (h : l.length = 2) : ∃ a b, l = [a, b] := by
  match l, h with
  | [a, b], _ => exact ⟨a, b, rfl⟩
theorem three_of {l : List Ex} (h : l.length = 3) : ∃ a b c, l = [a, b, c] := by
  match l, h with
  | [a, b, c], _ => exact ⟨a, b, c, rfl⟩
/-- What an expression that has a type is made of. -/
theorem shape {x : Ex} (hf : Fit x) (ht : x.ty ≠ 0) :
    (1 ≤ x.op ∧ x.op ≤ 4 ∧ x.args = [] ∧ x.ty = 1) ∨ (x.op = 5 ∧ ∃ a, x.args = [a] ∧ a.ty = 1 ∧ x.ty = 1) ∨ (x.op = 6 ∧ ∃ a, x.args = [a] ∧ a.ty = 2 ∧ x.ty = 2) ∨
    (7 ≤ x.op ∧ x.op ≤ 11 ∧ ∃ a b, x.args = [a, b] ∧ a.ty = 1 ∧ b.ty = 1 ∧ x.ty = 1) ∨ (12 ≤ x.op ∧ x.op ≤ 13 ∧ ∃ a b, x.args = [a, b] ∧ a.ty = 1 ∧ b.ty = 1 ∧ x.ty = 2) ∨
    (14 ≤ x.op ∧ x.op ≤ 15 ∧ ∃ a b, x.args = [a, b] ∧ (a.ty = 1 ∨ a.ty = 2) ∧ b.ty = a.ty ∧ x.ty = 2) ∨ (16 ≤ x.op ∧ x.op ≤ 17 ∧ ∃ a b, x.args = [a, b] ∧ a.ty = 2 ∧ b.ty = 2 ∧ x.ty = 2) ∨
    (x.op = 18 ∧ ∃ a b c, x.args = [a, b, c] ∧ a.ty = 2 ∧ (b.ty = 1 ∨ b.ty = 2) ∧ c.ty = b.ty ∧ x.ty = b.ty) := by
  obtain ⟨v, hv⟩ : ∃ v, x.ty = v := ⟨_, rfl⟩
  rw [hv] at ht ⊢
  have hm := ((fit_eq x).1 hf).1
  rw [fitsB_iff] at hm
  rw [ty_eq, tyRow] at hv
  have htab : ∀ {r : Rw}, (tab r).getD 0 = v → tab r = some v := by
    intro r h
    cases hr : tab r with
    | none => rw [hr] at h; exact absurd h.symm ht
    | some u => rw [hr] at h; simp only [Option.getD_some] at h; rw [h]
  have hv := htab hv
  rcases hm.2.2 with h | h | h | h
  · have hl : x.args = [] := List.length_eq_zero_iff.1 h.2.2
    rw [hl, tys_nil] at hv
    have := tab_row (show tab (x.op, 0, 0, 0) = some v from hv)
    exact .inl ⟨by omega, by omega, hl, by omega⟩
  · obtain ⟨a, hl⟩ := List.length_eq_one_iff.1 h.2
    rw [hl, tys_cons, tys_nil] at hv
    have := tab_row (show tab (x.op, a.ty, 0, 0) = some v from hv)
    rcases h.1 with h5 | h5
    · exact .inr (.inl ⟨h5, a, hl, by omega, by omega⟩)
    · exact .inr (.inr (.inl ⟨h5, a, hl, by omega, by omega⟩))
  · obtain ⟨a, b, c, hl⟩ := three_of h.2
    rw [hl, tys_cons, tys_cons, tys_cons, tys_nil] at hv
    have := tab_row (show tab (x.op, a.ty, b.ty, c.ty) = some v from hv)
    refine .inr (.inr (.inr (.inr (.inr (.inr (.inr ⟨h.1, a, b, c, hl, by omega, by omega, by omega, by omega⟩))))))
  · obtain ⟨a, b, hl⟩ := two_of h.2.2
    rw [hl, tys_cons, tys_cons, tys_nil] at hv
    have := tab_row (show tab (x.op, a.ty, b.ty, 0) = some v from hv)
    by_cases h1 : x.op ≤ 11
    · exact .inr (.inr (.inr (.inl ⟨h.1, h1, a, b, hl, by omega, by omega, by omega⟩)))
    by_cases h2 : x.op ≤ 13
    · exact .inr (.inr (.inr (.inr (.inl ⟨by omega, h2, a, b, hl, by omega, by omega, by omega⟩))))
    by_cases h3 : x.op ≤ 15
    · exact .inr (.inr (.inr (.inr (.inr (.inl ⟨by omega, h3, a, b, hl, by omega, by omega, by omega⟩)))))
    · exact .inr (.inr (.inr (.inr (.inr (.inr (.inl ⟨by omega, by omega, a, b, hl, by omega, by omega, by omega⟩))))))
theorem Vl.of1 {v : Vl} (h : v.ty = 1) : ∃ n, v = .num n := by cases v; exact ⟨_, rfl⟩; cases h
theorem Vl.of2 {v : Vl} (h : v.ty = 2) : ∃ n, v = .tru n := by cases v; cases h; exact ⟨_, rfl⟩
theorem come_ty (E : En) : ∀ x : Ex, Fit x → x.ty ≠ 0 → (x.come E).ty = x.ty := by
  refine Ex.ind fun x ih hf ht => ?_
  have hA := ((fit_eq x).1 hf).2
  have hi := fun y hy => ih y hy (hA y hy)
  rw [come_eq]
  rcases shape hf ht with ⟨h1, h2, hl, hv⟩ | ⟨h1, a, hl, _, hv⟩ | ⟨h1, a, hl, _, hv⟩ | ⟨h1, h2, a, b, hl, _, _, hv⟩ | ⟨h1, h2, a, b, hl, _, _, hv⟩ | ⟨h1, h2, a, b, hl, _, _, hv⟩ | ⟨h1, h2, a, b, hl, _, _, hv⟩ | ⟨h1, a, b, c, hl, hb, hb2, hc, hv⟩
  · rw [hv]
    rcases (show x.op = 1 ∨ x.op = 2 ∨ x.op = 3 ∨ x.op = 4 by omega) with h | h | h | h <;> rw [h] <;> rfl
  · rw [hv, h1]; rfl
  · rw [hv, h1]; rfl
  · rw [hv]
    rcases (show x.op = 7 ∨ x.op = 8 ∨ x.op = 9 ∨ x.op = 10 ∨ x.op = 11 by omega) with h | h | h | h | h <;> rw [h] <;> rfl
  · rw [hv]
    rcases (show x.op = 12 ∨ x.op = 13 by omega) with h | h <;> rw [h] <;> rfl
  · rw [hv]
    rcases (show x.op = 14 ∨ x.op = 15 by omega) with h | h <;> rw [h] <;> rfl
  · rw [hv]
    rcases (show x.op = 16 ∨ x.op = 17 by omega) with h | h <;> rw [h] <;> rfl
  · rw [hv, h1]
    have kb := hi b (by rw [hl]; simp) (by omega)
    have kc := hi c (by rw [hl]; simp) (by omega)
    rw [hl, comes_cons, comes_cons, comes_cons, comes_nil]
    show (if (a.come E).b = true then b.come E else c.come E).ty = b.ty
    split
    · exact kb
    · rw [kc, hc]
/-- What Do tells: the value, the error. -/
def kindT (x : Ex) : Nat × Int := kindO x true
/-- What Int, Bool tell. -/
def intO (x : Ex) (E : En) : Int := if (kindO x true).2 = 0 then (x.come E).n else 0
def boolO (x : Ex) (E : En) : Bool := if (kindO x true).2 = 0 then (x.come E).b else false
theorem kind_ok {x : Ex} (h : (kindO x true).2 = 0) : Fit x ∧ x.ty ≠ 0 := by
  unfold kindO at h
  split at h
  · cases h
  · rename_i hg
    have hg : good FM x 1 = true := by simpa using hg
    refine ⟨((good_FM x 1).1 hg).2, fun h0 => ?_⟩
    rw [if_neg (by simp), if_pos h0] at h
    cases h
end Go.Proofs.Ytamdbfkofdjmlaa.exp
