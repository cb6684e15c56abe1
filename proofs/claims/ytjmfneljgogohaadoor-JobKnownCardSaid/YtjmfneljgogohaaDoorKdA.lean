/- Keys that are rows: an Op and the types of its Args. -/
import Derived.Test.YtjmfneljgogohaaDoorExQ
import Derived.Test.YtjmfneljgogohaaDoorKdP
import Derived.ChangeKeysEq
import Derived.Laws.StructEq
namespace Go.Proofs.YtjmfneljgogohaaDoor.exp
set_option linter.unusedSimpArgs false
set_option linter.unusedVariables false
open Go.RowKit nam
open Go.ChangeMaps (setBlock heap_setBlock_same heap_setBlock_other)

def kR (r : Rw) : Value := .agg #[.int .u8 (r.1 : Int), .int .u8 (r.2.1 : Int), .int .u8 (r.2.2.1 : Int), .int .u8 (r.2.2.2 : Int)]
def vB (n : Nat) : Value := .int .u8 (n : Int)
set_option maxRecDepth 1000000 in
theorem int_eq (d : Nat) (a b : Nat) (w : World) : (Op.equalIn (d + 1) 5 (.int .u8 (a : Int)) (.int .u8 (b : Int))).run Tryd.prog w = .ok (decide (a = b)) w := by
  have hu : Tryd.prog.underlying 5 = some (.int .u8) := by kernel_rfl
  rw [run_equalIn_int w d 5 .u8 .u8 _ _ hu]
  congr 1
  rw [Bool.eq_iff_iff]
  simp only [beq_iff_eq, decide_eq_true_eq]
  omega
theorem rpart0 (a b c d : Value) (w : World) : (part 5 #[a, b, c, d] 0).run Tryd.prog w = .ok a w := by kernel_rfl
theorem rpart3 (a b c d : Value) (w : World) : (part 93 #[a, b, c, d] 1).run Tryd.prog w = .ok (.agg #[b, c, d]) w := by kernel_rfl
theorem apart0 (b c d : Value) (w : World) : (part 5 #[b, c, d] 0).run Tryd.prog w = .ok b w := by kernel_rfl
theorem apart1 (b c d : Value) (w : World) : (part 5 #[b, c, d] 1).run Tryd.prog w = .ok c w := by kernel_rfl
theorem apart2 (b c d : Value) (w : World) : (part 5 #[b, c, d] 2).run Tryd.prog w = .ok d w := by kernel_rfl
theorem cells5 : Tryd.prog.cellsOf 5 = 1 := by kernel_rfl
theorem und63 : Tryd.prog.underlying 93 = some (.array 3 5) := by kernel_rfl
theorem und65 : Tryd.prog.underlying 95 = some (.struct (Tryd.prog.fieldsOf 95)) := by kernel_rfl
theorem stood65 : Tryd.prog.stoodInHeld 95 = false := by kernel_rfl
theorem fields65 : (Tryd.prog.fieldsOf 95).toList.map (fun f => (f.name == "_", f.type, f.offset)) = [(false, 5, 0), (false, 93, 1)] := by kernel_rfl
theorem run_equalIn_arr (d : Nat) (w : World) (b c e b' c' e' : Nat) : (Op.equalIn (d + 2) 93 (.agg #[.int .u8 (b : Int), .int .u8 (c : Int), .int .u8 (e : Int)]) (.agg #[.int .u8 (b' : Int), .int .u8 (c' : Int), .int .u8 (e' : Int)])).run Tryd.prog w = .ok (decide (b = b' ∧ c = c' ∧ e = e')) w := by
  have hte : (Tryd.prog.info? 5).isSome = true := by kernel_rfl
  obtain ⟨i, hi⟩ := Option.isSome_iff_exists.1 hte
  rw [show d + 2 = (d + 1) + 1 from rfl, run_equalIn_array w (d + 1) _ _ und63 hi, cells5, show List.range 3 = [0, 1, 2] from rfl]
  by_cases h1 : b = b' <;> by_cases h2 : c = c' <;> by_cases h3 : e = e' <;>
    simp [Op.eqItems, apart0, apart1, apart2, int_eq, h1, h2, h3]
theorem two_fields {fs : List Field} (h : fs.map (fun f => (f.name == "_", f.type, f.offset)) = [(false, 5, 0), (false, 93, 1)]) : ∃ f g, fs = [f, g] ∧ f.name ≠ "_" ∧ f.type = 5 ∧ f.offset = 0 ∧ g.name ≠ "_" ∧ g.type = 93 ∧ g.offset = 1 := by
  rcases fs with _ | ⟨f, _ | ⟨g, _ | ⟨k, l⟩⟩⟩
  · simp at h
  · simp at h
  · simp only [List.map_cons, List.map_nil, List.cons.injEq, Prod.mk.injEq, and_true, beq_eq_false_iff_ne] at h
    exact ⟨f, g, rfl, h.1.1, h.1.2.1, h.1.2.2, h.2.1, h.2.2.1, h.2.2.2⟩
  · simp at h
theorem run_equalIn_row (d : Nat) (w : World) (a b : Rw) : (Op.equalIn (d + 3) 95 (kR a) (kR b)).run Tryd.prog w = .ok (decide (a = b)) w := by
  obtain ⟨a0, a1, a2, a3⟩ := a
  obtain ⟨b0, b1, b2, b3⟩ := b
  unfold kR
  rw [show d + 3 = (d + 2) + 1 from rfl, run_equalIn_struct w (d + 2) 95 _ _ und65 stood65]
  obtain ⟨f, g, hfg, n1, t1, o1, n2, t2, o2⟩ := two_fields fields65
  rw [hfg]
  have e1 : ∀ (a b : Nat) w, (Op.equalIn (d + 2) 5 (.int .u8 (a : Int)) (.int .u8 (b : Int))).run Tryd.prog w = .ok (decide (a = b)) w := int_eq (d + 1)
  have e2 := run_equalIn_arr d
  by_cases h1 : a0 = b0
  · by_cases h2 : a1 = b1 ∧ a2 = b2 ∧ a3 = b3
    · simp [Op.eqFields, n1, n2, t1, t2, o1, o2, rpart0, rpart3, e1, e2, h1, h2]
    · simp [Op.eqFields, n1, n2, t1, t2, o1, o2, rpart0, rpart3, e1, e2, h1, h2]
  · simp [Op.eqFields, n1, n2, t1, t2, o1, o2, rpart0, rpart3, e1, e2, h1]
theorem run_checkKey_row (em : Bool) (d : Nat) (a : Rw) (w : World) : (Instr.checkKey em (d + 3) 95 (kR a)).run Tryd.prog w = .ok () w := by
  have hi5 : ∀ k x w, (Instr.checkKey em (k + 1) 5 (.int .u8 x)).run Tryd.prog w = .ok () w := fun k x w => by
    have hu : Tryd.prog.underlying 5 = some (.int .u8) := by kernel_rfl
    simp [Instr.checkKey, run_underlying hu]
  have hte : (Tryd.prog.info? 5).isSome = true := by kernel_rfl
  obtain ⟨i, hi⟩ := Option.isSome_iff_exists.1 hte
  have ha : ∀ b c e w, (Instr.checkKey em (d + 2) 93 (.agg #[.int .u8 b, .int .u8 c, .int .u8 e])).run Tryd.prog w = .ok () w := fun b c e w => by
    rw [show d + 2 = (d + 1) + 1 from rfl, Instr.checkKey]
    simp only [Sem.run_bind, run_underlying und63, Result.andThen_ok]
    simp only [Std.Legacy.Range.forIn_eq_forIn_range', Std.Legacy.Range.size, Nat.sub_zero, Nat.add_one_sub_one, Nat.div_one]
    rw [show List.range' 0 3 1 = [0, 1, 2] from rfl]
    simp only [List.forIn_cons, List.forIn_nil, Sem.run_bind, run_sizeOf w hi, cells5, Nat.zero_mul, Nat.one_mul, Nat.mul_one, apart0, apart1, apart2, Result.andThen_ok, hi5, Sem.run_pure]
  obtain ⟨a0, a1, a2, a3⟩ := a
  unfold kR
  rw [show d + 3 = (d + 2) + 1 from rfl, Instr.checkKey]
  simp only [Sem.run_bind, run_underlying und65, Result.andThen_ok]
  rw [← Array.forIn_toList]
  obtain ⟨f, g, hfg, n1, t1, o1, n2, t2, o2⟩ := two_fields fields65
  rw [hfg]
  simp [n1, n2, t1, t2, o1, o2, rpart0, rpart3, hi5, ha]
theorem keyR (w : World) : KeyT Tryd.prog w kR (fun _ => True) 95 where
  under := ⟨_, und65, fun a v => rfl⟩
  inj a b h := by
    unfold kR at h
    simp only [Value.agg.injEq, Array.mk.injEq, List.cons.injEq, Value.int.injEq, true_and, and_true] at h
    obtain ⟨a0, a1, a2, a3⟩ := a
    obtain ⟨b0, b1, b2, b3⟩ := b
    simp only at h
    obtain ⟨h1, h2, h3, h4⟩ := h
    have := Int.ofNat.inj h1; have := Int.ofNat.inj h2; have := Int.ofNat.inj h3; have := Int.ofNat.inj h4
    subst_vars
    rfl
  eq a b _ _ := ⟨decide (a = b), by unfold Op.equal Op.maxDepth; exact run_equalIn_row 9997 w a b, by simp⟩
  check em a := run_checkKey_row em 9997 a w
  stays a := by
    have : ∀ d, Instr.sameBits (d + 2) (kR a) (kR a) = true := fun d => by simp [Instr.sameBits, kR]
    simp [Instr.keyThatStays, this 9998]
/-- A row's next entry. -/
theorem put_upd (m : Rw → Option Nat) (a : Rw) (v : Nat) : upd m a v = put1 m a v := rfl
end Go.Proofs.YtjmfneljgogohaaDoor.exp
