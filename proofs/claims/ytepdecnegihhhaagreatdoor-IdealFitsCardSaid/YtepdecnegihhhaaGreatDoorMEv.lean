/- Plain facts: what expressions come to. No program's run in this .. -/
import Derived.Test.YtepdecnegihhhaaGreatDoorMKd
import Derived.Test.YtepdecnegihhhaaGreatDoorMEx
import Derived.Test.YtepdecnegihhhaaGreatDoorMKe
import Derived.Stop.IfaceNil
set_option linter.unusedSimpArgs false
set_option linter.unusedVariables false
section
namespace Go.Proofs.YtepdecnegihhhaaGreatDoor.exp
inductive Vl where
 | num (n : Int)
 | tru (b : Bool)
def Vl.n : Vl → Int
 | .num n => n
 | .tru _ => 0
def Vl.b : Vl → Bool
 | .num _ => false
 | .tru b => b
def Vl.ty : Vl → Nat
 | .num _ => 1
 | .tru _ => 2
def Vl.same : Vl → Vl → Bool
 | .num a, .num b => a == b
 | .tru a, .tru b => a == b
 | _, _ => false
def Vl.v : Vl → Value
 | .num n => .iface 2 (.int .i64 n)
 | .tru b => .iface 4 (.bool b)
structure En where
 key : Int
 val : Int
 acc : Int
def w64 (n : Int) : Int := Go.RowKit.wrap64 n
def quoO (a b : Int) : Int := if b = 0 then 0 else w64 (a.tdiv b)
def remO (a b : Int) : Int := if b = 0 then 0 else a.tmod b
def opO (o : Nat) (a b : Int) : Vl :=
 if o = 7 then .num (w64 (a + b)) else if o = 8 then .num (w64 (a - b)) else if o = 9 then .num (w64 (a * b)) else if o = 10 then .num (quoO a b) else if o = 11 then .num (remO a b) else if o = 12 then .tru (decide (a < b)) else .tru (decide (a ≤ b))
def arg (l : List Vl) (i : Nat) : Vl := l.getD i (.num 0)
def doO (E : En) (o : Nat) (n : Int) (l : List Vl) : Vl :=
 if o = 1 then .num n else if o = 2 then .num E.key else if o = 3 then .num E.val else if o = 4 then .num E.acc
 else if o = 5 then .num (w64 (-(arg l 0).n)) else if o = 6 then .tru (!(arg l 0).b)
 else if o = 16 then .tru ((arg l 0).b && (arg l 1).b) else if o = 17 then .tru ((arg l 0).b || (arg l 1).b)
 else if o = 14 then .tru ((arg l 0).same (arg l 1)) else if o = 15 then .tru (!((arg l 0).same (arg l 1)))
 else if o = 18 then (if (arg l 0).b = true then arg l 1 else arg l 2)
 else opO o (arg l 0).n (arg l 1).n
mutual
def Ex.come (E : En) : Ex → Vl
 | .mk o n l => doO E o n (comes E l)
def comes (E : En) : List Ex → List Vl
 | [] => []
 | x :: l => x.come E :: comes E l
end
theorem come_eq (E : En) (x : Ex) : x.come E = doO E x.op x.n (comes E x.args) := by cases x; rw [Ex.come]; rfl
theorem comes_nil (E : En) : comes E [] = [] := by rw [comes]
theorem comes_cons (E : En) (x : Ex) (l : List Ex) : comes E (x :: l) = x.come E :: comes E l := by rw [comes]
theorem tabOL_in {r : Rw} {v : Nat} : ∀ (l : List (Rw × Nat)) (m : Rw → Option Nat), tabO l m r = some v → m r = some v ∨ (r, v) ∈ l := by
 intro l
 induction l with
 | nil => intro m h; exact .inl h
 | cons p l ih =>
  intro m h
  rcases ih _ h with h1 | h1
  · unfold put1 at h1
    split at h1
    · rename_i hr
      cases h1
      exact .inr (by rw [hr]; simp)
    · exact .inl h1
  · exact .inr (List.mem_cons_of_mem _ h1)
theorem tabL_in {r : Rw} {v : Nat} (h : tab r = some v) : (r, v) ∈ tabL := by
 rcases tabOL_in tabL _ h with h | h
 · cases h
 · exact h
theorem tab_row {o a b c v : Nat} (h : tab (o, a, b, c) = some v) : (1 ≤ o ∧ o ≤ 4 ∧ a = 0 ∧ b = 0 ∧ c = 0 ∧ v = 1) ∨ (o = 5 ∧ a = 1 ∧ b = 0 ∧ c = 0 ∧ v = 1) ∨ (o = 6 ∧ a = 2 ∧ b = 0 ∧ c = 0 ∧ v = 2) ∨ (7 ≤ o ∧ o ≤ 11 ∧ a = 1 ∧ b = 1 ∧ c = 0 ∧ v = 1) ∨
  (12 ≤ o ∧ o ≤ 13 ∧ a = 1 ∧ b = 1 ∧ c = 0 ∧ v = 2) ∨ (14 ≤ o ∧ o ≤ 15 ∧ (a = 1 ∨ a = 2) ∧ b = a ∧ c = 0 ∧ v = 2) ∨ (16 ≤ o ∧ o ≤ 17 ∧ a = 2 ∧ b = 2 ∧ c = 0 ∧ v = 2) ∨ (o = 18 ∧ a = 2 ∧ (b = 1 ∨ b = 2) ∧ c = b ∧ v = b) := by
 have := tabL_in h
 simp only [tabL, List.mem_cons, Prod.mk.injEq, List.not_mem_nil, or_false] at this
 rcases this with ⟨⟨rfl, rfl, rfl, rfl⟩, rfl⟩ | ⟨⟨rfl, rfl, rfl, rfl⟩, rfl⟩ | ⟨⟨rfl, rfl, rfl, rfl⟩, rfl⟩ | ⟨⟨rfl, rfl, rfl, rfl⟩, rfl⟩ | ⟨⟨rfl, rfl, rfl, rfl⟩, rfl⟩ | ⟨⟨rfl, rfl, rfl, rfl⟩, rfl⟩ | ⟨⟨rfl, rfl, rfl, rfl⟩, rfl⟩ | ⟨⟨rfl, rfl, rfl, rfl⟩, rfl⟩ | ⟨⟨rfl, rfl, rfl, rfl⟩, rfl⟩ | ⟨⟨rfl, rfl, rfl, rfl⟩, rfl⟩ | ⟨⟨rfl, rfl, rfl, rfl⟩, rfl⟩ | ⟨⟨rfl, rfl, rfl, rfl⟩, rfl⟩ | ⟨⟨rfl, rfl, rfl, rfl⟩, rfl⟩ | ⟨⟨rfl, rfl, rfl, rfl⟩, rfl⟩ | ⟨⟨rfl, rfl, rfl, rfl⟩, rfl⟩ | ⟨⟨rfl, rfl, rfl, rfl⟩, rfl⟩ | ⟨⟨rfl, rfl, rfl, rfl⟩, rfl⟩ | ⟨⟨rfl, rfl, rfl, rfl⟩, rfl⟩ | ⟨⟨rfl, rfl, rfl, rfl⟩, rfl⟩ | ⟨⟨rfl, rfl, rfl, rfl⟩, rfl⟩ | ⟨⟨rfl, rfl, rfl, rfl⟩, rfl⟩ <;> decide
theorem two_of {l : List Ex} (h : l.length = 2) : ∃ a b, l = [a, b] := by
 match l, h with
 | [a, b], _ => exact ⟨a, b, rfl⟩
theorem three_of {l : List Ex} (h : l.length = 3) : ∃ a b c, l = [a, b, c] := by
 match l, h with
 | [a, b, c], _ => exact ⟨a, b, c, rfl⟩
theorem shape {x : Ex} (hf : Fit x) (ht : x.ty ≠ 0) :
  (1 ≤ x.op ∧ x.op ≤ 4 ∧ x.args = [] ∧ x.ty = 1) ∨ (x.op = 5 ∧ ∃ a, x.args = [a] ∧ a.ty = 1 ∧ x.ty = 1) ∨ (x.op = 6 ∧ ∃ a, x.args = [a] ∧ a.ty = 2 ∧ x.ty = 2) ∨
  (7 ≤ x.op ∧ x.op ≤ 11 ∧ ∃ a b, x.args = [a, b] ∧ a.ty = 1 ∧ b.ty = 1 ∧ x.ty = 1) ∨ (12 ≤ x.op ∧ x.op ≤ 13 ∧ ∃ a b, x.args = [a, b] ∧ a.ty = 1 ∧ b.ty = 1 ∧ x.ty = 2) ∨
  (14 ≤ x.op ∧ x.op ≤ 15 ∧ ∃ a b, x.args = [a, b] ∧ (a.ty = 1 ∨ a.ty = 2) ∧ b.ty = a.ty ∧ x.ty = 2) ∨ (16 ≤ x.op ∧ x.op ≤ 17 ∧ ∃ a b, x.args = [a, b] ∧ a.ty = 2 ∧ b.ty = 2 ∧ x.ty = 2) ∨
  (x.op = 18 ∧ ∃ a b c, x.args = [a, b, c] ∧ a.ty = 2 ∧ (b.ty = 1 ∨ b.ty = 2) ∧ c.ty = b.ty ∧ x.ty = b.ty) := by
 obtain ⟨v, hv⟩ : ∃ v, x.ty = v := ⟨_, rfl⟩
 rw [hv] at ht ⊢
 have hm := ((fit_eq x).1 hf).1
 rw [fitsB_iff] at hm
 rw [ty_eq, tyRow] at hv
 have htab : ∀ {r : Rw}, (tab r).getD 0 = v → tab r = some v := by
  intro r h
  cases hr : tab r with
  | none => rw [hr] at h; exact absurd h.symm ht
  | some u => rw [hr] at h; simp only [Option.getD_some] at h; rw [h]
 have hv := htab hv
 rcases hm.2.2 with h | h | h | h
 · have hl : x.args = [] := List.length_eq_zero_iff.1 h.2.2
   rw [hl, tys_nil] at hv
   have := tab_row (show tab (x.op, 0, 0, 0) = some v from hv)
   exact .inl ⟨by omega, by omega, hl, by omega⟩
 · obtain ⟨a, hl⟩ := List.length_eq_one_iff.1 h.2
   rw [hl, tys_cons, tys_nil] at hv
   have := tab_row (show tab (x.op, a.ty, 0, 0) = some v from hv)
   rcases h.1 with h5 | h5
   · exact .inr (.inl ⟨h5, a, hl, by omega, by omega⟩)
   · exact .inr (.inr (.inl ⟨h5, a, hl, by omega, by omega⟩))
 · obtain ⟨a, b, c, hl⟩ := three_of h.2
   rw [hl, tys_cons, tys_cons, tys_cons, tys_nil] at hv
   have := tab_row (show tab (x.op, a.ty, b.ty, c.ty) = some v from hv)
   refine .inr (.inr (.inr (.inr (.inr (.inr (.inr ⟨h.1, a, b, c, hl, by omega, by omega, by omega, by omega⟩))))))
 · obtain ⟨a, b, hl⟩ := two_of h.2.2
   rw [hl, tys_cons, tys_cons, tys_nil] at hv
   have := tab_row (show tab (x.op, a.ty, b.ty, 0) = some v from hv)
   by_cases h1 : x.op ≤ 11
   · exact .inr (.inr (.inr (.inl ⟨h.1, h1, a, b, hl, by omega, by omega, by omega⟩)))
   by_cases h2 : x.op ≤ 13
   · exact .inr (.inr (.inr (.inr (.inl ⟨by omega, h2, a, b, hl, by omega, by omega, by omega⟩))))
   by_cases h3 : x.op ≤ 15
   · exact .inr (.inr (.inr (.inr (.inr (.inl ⟨by omega, h3, a, b, hl, by omega, by omega, by omega⟩)))))
   · exact .inr (.inr (.inr (.inr (.inr (.inr (.inl ⟨by omega, by omega, a, b, hl, by omega, by omega, by omega⟩))))))
theorem Vl.of1 {v : Vl} (h : v.ty = 1) : ∃ n, v = .num n := by cases v; exact ⟨_, rfl⟩; cases h
theorem Vl.of2 {v : Vl} (h : v.ty = 2) : ∃ n, v = .tru n := by cases v; cases h; exact ⟨_, rfl⟩
theorem come_ty (E : En) : ∀ x : Ex, Fit x → x.ty ≠ 0 → (x.come E).ty = x.ty := by
 refine Ex.ind fun x ih hf ht => ?_
 have hA := ((fit_eq x).1 hf).2
 have hi := fun y hy => ih y hy (hA y hy)
 rw [come_eq]
 rcases shape hf ht with ⟨h1, h2, hl, hv⟩ | ⟨h1, a, hl, _, hv⟩ | ⟨h1, a, hl, _, hv⟩ | ⟨h1, h2, a, b, hl, _, _, hv⟩ | ⟨h1, h2, a, b, hl, _, _, hv⟩ | ⟨h1, h2, a, b, hl, _, _, hv⟩ | ⟨h1, h2, a, b, hl, _, _, hv⟩ | ⟨h1, a, b, c, hl, hb, hb2, hc, hv⟩
 · rw [hv]
   rcases (show x.op = 1 ∨ x.op = 2 ∨ x.op = 3 ∨ x.op = 4 by omega) with h | h | h | h <;> rw [h] <;> rfl
 · rw [hv, h1]; rfl
 · rw [hv, h1]; rfl
 · rw [hv]
   rcases (show x.op = 7 ∨ x.op = 8 ∨ x.op = 9 ∨ x.op = 10 ∨ x.op = 11 by omega) with h | h | h | h | h <;> rw [h] <;> rfl
 · rw [hv]
   rcases (show x.op = 12 ∨ x.op = 13 by omega) with h | h <;> rw [h] <;> rfl
 · rw [hv]
   rcases (show x.op = 14 ∨ x.op = 15 by omega) with h | h <;> rw [h] <;> rfl
 · rw [hv]
   rcases (show x.op = 16 ∨ x.op = 17 by omega) with h | h <;> rw [h] <;> rfl
 · rw [hv, h1]
   have kb := hi b (by rw [hl]; simp) (by omega)
   have kc := hi c (by rw [hl]; simp) (by omega)
   rw [hl, comes_cons, comes_cons, comes_cons, comes_nil]
   show (if (a.come E).b = true then b.come E else c.come E).ty = b.ty
   split
   · exact kb
   · rw [kc, hc]
def intO (x : Ex) (E : En) : Int := if (kindO x true).2 = 0 then (x.come E).n else 0
def boolO (x : Ex) (E : En) : Bool := if (kindO x true).2 = 0 then (x.come E).b else false
theorem kind_ok {x : Ex} (h : (kindO x true).2 = 0) : Fit x ∧ x.ty ≠ 0 := by
 unfold kindO at h
 split at h
 · cases h
 · rename_i hg
   have hg : good FM x 1 = true := by simpa using hg
   refine ⟨((good_FM x 1).1 hg).2, fun h0 => ?_⟩
   rw [if_neg (by simp), if_pos h0] at h
   cases h
end Go.Proofs.YtepdecnegihhhaaGreatDoor.exp
end
section
section
namespace Go.Proofs.YtepdecnegihhhaaGreatDoor.exp
open Go.RowKit nam
theorem as2_2t (v : Value) (w : World) : (Instr.typeAssert (.iface 2 v) 20 2 true).run Tryz.prog w = .ok (.tuple #[v, .bool true]) w := by kernel_rfl
theorem as4_2t (v : Value) (w : World) : (Instr.typeAssert (.iface 4 v) 20 2 true).run Tryz.prog w = .ok (.tuple #[.int .i64 0, .bool false]) w := by kernel_rfl
theorem as0_2t (w : World) : (Instr.typeAssert .nilIface 20 2 true).run Tryz.prog w = .ok (.tuple #[.int .i64 0, .bool false]) w := by kernel_rfl
theorem as2_2 (v : Value) (w : World) : (Instr.typeAssert (.iface 2 v) 20 2 false).run Tryz.prog w = .ok v w := by kernel_rfl
theorem as4_4 (v : Value) (w : World) : (Instr.typeAssert (.iface 4 v) 20 4 false).run Tryz.prog w = .ok v w := by kernel_rfl
set_option maxRecDepth 1000000 in
theorem quo_any (a b : Int) (w : World) : Calls Tryz.prog 221 #[.int .i64 a, .int .i64 b] w fun e w' => e = .returned (.int .i64 (quoO a b)) ∧ w = w' := by
 unfold quoO w64
 by_cases hb : b = 0
 · subst hb
   rw [if_pos rfl]
   go_enter Tryz.func221, Tryz.ntmps221
   go_wp2
   go_ret
   exact ⟨rfl, rfl⟩
 · rw [if_neg hb]
   have hb' : (b == 0) = false := by simpa using hb
   go_enter Tryz.func221, Tryz.ntmps221
   go_wp2
   go_ret
   exact ⟨rfl, rfl⟩
set_option maxRecDepth 1000000 in
theorem rem_any (a b : Int) (w : World) : Calls Tryz.prog 222 #[.int .i64 a, .int .i64 b] w fun e w' => e = .returned (.int .i64 (remO a b)) ∧ w = w' := by
 unfold remO
 by_cases hb : b = 0
 · subst hb
   rw [if_pos rfl]
   go_enter Tryz.func222, Tryz.ntmps222
   go_wp2
   go_ret
   exact ⟨rfl, rfl⟩
 · rw [if_neg hb]
   have hb' : (b == 0) = false := by simpa using hb
   go_enter Tryz.func222, Tryz.ntmps222
   go_wp2
   go_ret
   exact ⟨rfl, rfl⟩
set_option maxRecDepth 1000000 in
theorem of_numbers {o : Nat} (ho : 7 ≤ o ∧ o ≤ 13) (a b : Int) (w : World) : Calls Tryz.prog 200 #[.int .u8 (o : Int), .int .i64 a, .int .i64 b] w fun e w' => e = .returned (opO o a b).v ∧ w = w' := by
 have HQ := Lib.hid (quo_any a b w)
 have HR := Lib.hid (rem_any a b w)
 rcases (show o = 7 ∨ o = 8 ∨ o = 9 ∨ o = 10 ∨ o = 11 ∨ o = 12 ∨ o = 13 by omega) with rfl | rfl | rfl | rfl | rfl | rfl | rfl
 · go_enter Tryz.func200, Tryz.ntmps200
   go_wp2
   go_ret
   exact ⟨rfl, rfl⟩
 · go_enter Tryz.func200, Tryz.ntmps200
   go_wp2
   go_ret
   exact ⟨rfl, rfl⟩
 · go_enter Tryz.func200, Tryz.ntmps200
   go_wp2
   go_ret
   exact ⟨rfl, rfl⟩
 · go_enter Tryz.func200, Tryz.ntmps200
   go_wp2_with fail
   refine HQ.out.mono ?_
   rintro e w1 ⟨rfl, rfl⟩
   go_wp2_with fail
   go_ret
   exact ⟨rfl, rfl⟩
 · go_enter Tryz.func200, Tryz.ntmps200
   go_wp2_with fail
   refine HR.out.mono ?_
   rintro e w1 ⟨rfl, rfl⟩
   go_wp2_with fail
   go_ret
   exact ⟨rfl, rfl⟩
 · go_enter Tryz.func200, Tryz.ntmps200
   go_wp2
   all_goals (go_ret; refine ⟨?_, rfl⟩)
   all_goals (show _ = Ending.returned (.iface 4 (.bool (decide (a < b)))); simp_all)
 · go_enter Tryz.func200, Tryz.ntmps200
   go_wp2
   all_goals (go_ret; refine ⟨?_, rfl⟩)
   all_goals (show _ = Ending.returned (.iface 4 (.bool (decide (a ≤ b)))); simp_all)
end Go.Proofs.YtepdecnegihhhaaGreatDoor.exp
end
section
namespace Go.Proofs.YtepdecnegihhhaaGreatDoor.exp
open Go.RowKit nam
theorem hi20 : Tryz.prog.isIface 20 = true := by kernel_rfl
theorem eqi (d : Nat) (a b : Int) (w : World) : (Op.equalIn (d + 2) 20 (.iface 2 (.int .i64 a)) (.iface 2 (.int .i64 b))).run Tryz.prog w = .ok (a == b) w := by
 obtain ⟨ms, ht⟩ := underlying_of_isIface hi20
 have hu : Tryz.prog.underlying 2 = some (.int .i64) := by kernel_rfl
 have hte : (Tryz.prog.info? 2).map (fun i => i.comparable) = some true := by kernel_rfl
 obtain ⟨i, hi0, hc⟩ := Option.map_eq_some_iff.1 hte
 have hi : (typeInfo 2).run Tryz.prog w = .ok i w := by simp [typeInfo, hi0]
 rw [Op.equalIn]
 simp only [Sem.run_bind, run_underlying ht, Result.andThen_ok]
 simp [hi, hc, run_equalIn_int w d 2 .i64 .i64 _ _ hu]
theorem eqt (d : Nat) (a b : Bool) (w : World) : (Op.equalIn (d + 2) 20 (.iface 4 (.bool a)) (.iface 4 (.bool b))).run Tryz.prog w = .ok (a == b) w := by
 obtain ⟨ms, ht⟩ := underlying_of_isIface hi20
 have hu : Tryz.prog.underlying 4 = some .bool := by kernel_rfl
 have hte : (Tryz.prog.info? 4).map (fun i => i.comparable) = some true := by kernel_rfl
 obtain ⟨i, hi0, hc⟩ := Option.map_eq_some_iff.1 hte
 have hi : (typeInfo 4).run Tryz.prog w = .ok i w := by simp [typeInfo, hi0]
 have hb : (Op.equalIn (d + 1) 4 (.bool a) (.bool b)).run Tryz.prog w = .ok (a == b) w := by simp [Op.equalIn, run_underlying hu]
 rw [Op.equalIn]
 simp only [Sem.run_bind, run_underlying ht, Result.andThen_ok]
 simp [hi, hc, hb]
theorem eql_v {x y : Vl} (h : y.ty = x.ty) (w : World) : (binOp .eql 20 x.v y.v).run Tryz.prog w = .ok (.bool (x.same y)) w := by
 cases x <;> cases y
 · simp only [Vl.v, Vl.same, binOp]
   simp [Op.equal, Op.maxDepth, eqi 9998]
 · cases h
 · cases h
 · simp only [Vl.v, Vl.same, binOp]
   simp [Op.equal, Op.maxDepth, eqt 9998]
theorem neq_v {x y : Vl} (h : y.ty = x.ty) (w : World) : (binOp .neq 20 x.v y.v).run Tryz.prog w = .ok (.bool (!(x.same y))) w := by
 cases x <;> cases y
 · simp only [Vl.v, Vl.same, binOp]
   simp [Op.equal, Op.maxDepth, eqi 9998]
 · cases h
 · cases h
 · simp only [Vl.v, Vl.same, binOp]
   simp [Op.equal, Op.maxDepth, eqt 9998]
theorem undrew {w w' : World} (h : Below w.drew.heap.size w.drew w') : Below w.heap.size w w' := ⟨h.os, h.tape, h.output, h.size, h.block⟩
def enV (E : En) : Value := .agg #[.int .i64 E.key, .int .i64 E.val, .int .i64 E.acc]
def EnC (w : World) (Y : Nat) (E : En) : Prop := w.heap[Y]? = some (.cells #[.int .i64 E.key, .int .i64 E.val, .int .i64 E.acc] 148 (0, 0))
theorem EnC.under {w w' : World} {Y : Nat} {E : En} (h : EnC w Y E) (hb : Below w.heap.size w w') : EnC w' Y E := (hb.block Y (Array.getElem?_eq_some_iff.1 h).1).trans h
theorem EnC.cells {w : World} {Y : Nat} {E : En} (h : EnC w Y E) : w.cell? ⟨Y, 0, none⟩ = some (.int .i64 E.key) ∧ w.cell? ⟨Y, 1, none⟩ = some (.int .i64 E.val) ∧ w.cell? ⟨Y, 2, none⟩ = some (.int .i64 E.acc) := ⟨cell_of h rfl, cell_of h rfl, cell_of h rfl⟩
def RK (E : En) (x : Ex) : Prop := ∀ {v : Value} {B : Nat → Prop} {w : World}, Lies w B v x.args → Calls Tryz.prog 166 #[exV x v, enV E] w fun e w' => e = .returned (x.come E).v ∧ Below w.heap.size w w'
theorem part_at {w : World} {B : Nat → Prop} {X i : Nat} {x y : Ex} (hx : At w B X 0 x) (hi : i < x.args.length) (hy : x.args[i] = y) : ∃ b c a d, w.cell? ⟨X, 2, none⟩ = some (.slice (some ⟨b, 0, none⟩) x.args.length c) ∧
  w.cell? ⟨b, i * 3, none⟩ = some (.int .u8 (y.op : Int)) ∧ w.cell? ⟨b, i * 3 + 1, none⟩ = some (.int .i64 y.n) ∧ w.cell? ⟨b, i * 3 + 2, none⟩ = some (.slice a y.args.length d) ∧ Lies w B (.slice a y.args.length d) y.args := by
 obtain ⟨a, c, h0, h1, h2, hl, hrow⟩ := hx.cells
 simp only [Nat.zero_add] at h2
 obtain ⟨b, rfl, hel⟩ := hrow (by omega)
 have hk := hel i hi
 rw [hy] at hk
 obtain ⟨a', c', e0, e1, e2, hl', _⟩ := hk.cells
 exact ⟨b, c, a', c', h2, e0, e1, e2, hl'⟩
set_option maxRecDepth 1000000 in
theorem num_at {E : En} {x y : Ex} {w : World} {X Y i : Nat} {n : Int} (hr : RK E y) (hx : At w Any X 0 x) (he : EnC w Y E) (hi : i < x.args.length) (hy : x.args[i] = y) (hn : y.come E = .num n) :
  Calls Tryz.prog 198 #[.int .i64 (i : Int), .pointer (some ⟨X, 0, none⟩), .pointer (some ⟨Y, 0, none⟩)] w fun e w' => e = .returned (.int .i64 n) ∧ Below w.heap.size w w' := by
 obtain ⟨b, c, a, d, h2, e0, e1, e2, hl⟩ := part_at hx hi hy
 obtain ⟨k0, k1, k2⟩ := he.cells
 have hin : (i : Int) < (x.args.length : Int) := by omega
 have HC : Hid (Calls Tryz.prog 166 #[.agg #[.int .u8 (y.op : Int), .int .i64 y.n, .slice a y.args.length d], .agg #[.int .i64 E.key, .int .i64 E.val, .int .i64 E.acc]] w.drew fun e w' => e = .returned (.iface 2 (.int .i64 n)) ∧ Below w.heap.size w w') := Lib.hid (by
  refine Calls.mono ?_ fun e w' (h : e = .returned (.iface 2 (.int .i64 n)) ∧ Below w.drew.heap.size w.drew w') => ⟨h.1, undrew h.2⟩
  have := hr (w := w.drew) (hl.frame fun _ _ _ _ => rfl)
  rw [hn] at this
  exact this)
 clear hr hx he hl hy hn
 have has := as2_2 (.int .i64 n)
 go_enter Tryz.func198, Tryz.ntmps198
 go_wp2_with fail
 go_region_with (go_at_call 166; (refine HC.out.mono ?_); rintro e w3 ⟨rfl, hb⟩)
 all_goals (go_wp2_with fail; go_ret; exact ⟨rfl, hb⟩)
end Go.Proofs.YtepdecnegihhhaaGreatDoor.exp
end
end
