/- What the quotient, the rest, an Op of two numbers answer; what an assertion tells. Two interface values held against each other; what reckon's closures answer. -/
import Derived.Test.YtamdbfkofdjmlaaEvP
import Derived.Test.YtamdbfkofdjmlaaMKd
import Derived.Stop.IfaceNil
section
namespace Go.Proofs.Ytamdbfkofdjmlaa.exp
set_option linter.unusedSimpArgs false
set_option linter.unusedVariables false
open Go.RowKit nam

theorem as2_2t (v : Value) (w : World) : (Instr.typeAssert (.iface 2 v) 20 2 true).run Try.prog w = .ok (.tuple #[v, .bool true]) w := by kernel_rfl
theorem as4_2t (v : Value) (w : World) : (Instr.typeAssert (.iface 4 v) 20 2 true).run Try.prog w = .ok (.tuple #[.int .i64 0, .bool false]) w := by kernel_rfl
theorem as0_2t (w : World) : (Instr.typeAssert .nilIface 20 2 true).run Try.prog w = .ok (.tuple #[.int .i64 0, .bool false]) w := by kernel_rfl
theorem as4_4t (v : Value) (w : World) : (Instr.typeAssert (.iface 4 v) 20 4 true).run Try.prog w = .ok (.tuple #[v, .bool true]) w := by kernel_rfl
theorem as2_4t (v : Value) (w : World) : (Instr.typeAssert (.iface 2 v) 20 4 true).run Try.prog w = .ok (.tuple #[.bool false, .bool false]) w := by kernel_rfl
theorem as0_4t (w : World) : (Instr.typeAssert .nilIface 20 4 true).run Try.prog w = .ok (.tuple #[.bool false, .bool false]) w := by kernel_rfl
theorem as2_2 (v : Value) (w : World) : (Instr.typeAssert (.iface 2 v) 20 2 false).run Try.prog w = .ok v w := by kernel_rfl
theorem as4_4 (v : Value) (w : World) : (Instr.typeAssert (.iface 4 v) 20 4 false).run Try.prog w = .ok v w := by kernel_rfl
set_option maxRecDepth 1000000 in
theorem quo_any (a b : Int) (w : World) : Calls Try.prog 112 #[.int .i64 a, .int .i64 b] w fun e w' => e = .returned (.int .i64 (quoO a b)) ∧ w = w' := by
  unfold quoO w64
  by_cases hb : b = 0
  · subst hb
    rw [if_pos rfl]
    go_enter Try.func112, Try.ntmps112
    go_wp2
    go_ret
    exact ⟨rfl, rfl⟩
  · rw [if_neg hb]
    have hb' : (b == 0) = false := by simpa using hb
    go_enter Try.func112, Try.ntmps112
    go_wp2
    go_ret
    exact ⟨rfl, rfl⟩
set_option maxRecDepth 1000000 in
theorem rem_any (a b : Int) (w : World) : Calls Try.prog 113 #[.int .i64 a, .int .i64 b] w fun e w' => e = .returned (.int .i64 (remO a b)) ∧ w = w' := by
  unfold remO
  by_cases hb : b = 0
  · subst hb
    rw [if_pos rfl]
    go_enter Try.func113, Try.ntmps113
    go_wp2
    go_ret
    exact ⟨rfl, rfl⟩
  · rw [if_neg hb]
    have hb' : (b == 0) = false := by simpa using hb
    go_enter Try.func113, Try.ntmps113
    go_wp2
    go_ret
    exact ⟨rfl, rfl⟩
set_option maxRecDepth 1000000 in
theorem of_numbers {o : Nat} (ho : 7 ≤ o ∧ o ≤ 13) (a b : Int) (w : World) : Calls Try.prog 100 #[.int .u8 (o : Int), .int .i64 a, .int .i64 b] w fun e w' => e = .returned (opO o a b).v ∧ w = w' := by
  have HQ := Lib.hid (quo_any a b w)
  have HR := Lib.hid (rem_any a b w)
  rcases (show o = 7 ∨ o = 8 ∨ o = 9 ∨ o = 10 ∨ o = 11 ∨ o = 12 ∨ o = 13 by omega) with rfl | rfl | rfl | rfl | rfl | rfl | rfl
  · go_enter Try.func100, Try.ntmps100
    go_wp2
    go_ret
    exact ⟨rfl, rfl⟩
  · go_enter Try.func100, Try.ntmps100
    go_wp2
    go_ret
    exact ⟨rfl, rfl⟩
  · go_enter Try.func100, Try.ntmps100
    go_wp2
    go_ret
    exact ⟨rfl, rfl⟩
  · go_enter Try.func100, Try.ntmps100
    go_wp2_with fail
    refine HQ.out.mono ?_
    rintro e w1 ⟨rfl, rfl⟩
    go_wp2_with fail
    go_ret
    exact ⟨rfl, rfl⟩
  · go_enter Try.func100, Try.ntmps100
    go_wp2_with fail
    refine HR.out.mono ?_
    rintro e w1 ⟨rfl, rfl⟩
    go_wp2_with fail
    go_ret
    exact ⟨rfl, rfl⟩
  · go_enter Try.func100, Try.ntmps100
    go_wp2
    all_goals (go_ret; refine ⟨?_, rfl⟩)
    all_goals (show _ = Ending.returned (.iface 4 (.bool (decide (a < b)))); simp_all)
  · go_enter Try.func100, Try.ntmps100
    go_wp2
    all_goals (go_ret; refine ⟨?_, rfl⟩)
    all_goals (show _ = Ending.returned (.iface 4 (.bool (decide (a ≤ b)))); simp_all)
end Go.Proofs.Ytamdbfkofdjmlaa.exp
end
section
namespace Go.Proofs.Ytamdbfkofdjmlaa.exp
set_option linter.unusedSimpArgs false
set_option linter.unusedVariables false
open Go.RowKit nam

theorem hi20 : Try.prog.isIface 20 = true := by kernel_rfl
theorem eqi (d : Nat) (a b : Int) (w : World) : (Op.equalIn (d + 2) 20 (.iface 2 (.int .i64 a)) (.iface 2 (.int .i64 b))).run Try.prog w = .ok (a == b) w := by
  obtain ⟨ms, ht⟩ := underlying_of_isIface hi20
  have hu : Try.prog.underlying 2 = some (.int .i64) := by kernel_rfl
  have hte : (Try.prog.info? 2).map (fun i => i.comparable) = some true := by kernel_rfl
  obtain ⟨i, hi0, hc⟩ := Option.map_eq_some_iff.1 hte
  have hi : (typeInfo 2).run Try.prog w = .ok i w := by simp [typeInfo, hi0]
  rw [Op.equalIn]
  simp only [Sem.run_bind, run_underlying ht, Result.andThen_ok]
  simp [hi, hc, run_equalIn_int w d 2 .i64 .i64 _ _ hu]
theorem eqt (d : Nat) (a b : Bool) (w : World) : (Op.equalIn (d + 2) 20 (.iface 4 (.bool a)) (.iface 4 (.bool b))).run Try.prog w = .ok (a == b) w := by
  obtain ⟨ms, ht⟩ := underlying_of_isIface hi20
  have hu : Try.prog.underlying 4 = some .bool := by kernel_rfl
  have hte : (Try.prog.info? 4).map (fun i => i.comparable) = some true := by kernel_rfl
  obtain ⟨i, hi0, hc⟩ := Option.map_eq_some_iff.1 hte
  have hi : (typeInfo 4).run Try.prog w = .ok i w := by simp [typeInfo, hi0]
  have hb : (Op.equalIn (d + 1) 4 (.bool a) (.bool b)).run Try.prog w = .ok (a == b) w := by simp [Op.equalIn, run_underlying hu]
  rw [Op.equalIn]
  simp only [Sem.run_bind, run_underlying ht, Result.andThen_ok]
  simp [hi, hc, hb]
theorem eql_v {x y : Vl} (h : y.ty = x.ty) (w : World) : (binOp .eql 20 x.v y.v).run Try.prog w = .ok (.bool (x.same y)) w := by
  cases x <;> cases y
  · simp only [Vl.v, Vl.same, binOp]
    simp [Op.equal, Op.maxDepth, eqi 9998]
  · cases h
  · cases h
  · simp only [Vl.v, Vl.same, binOp]
    simp [Op.equal, Op.maxDepth, eqt 9998]
theorem neq_v {x y : Vl} (h : y.ty = x.ty) (w : World) : (binOp .neq 20 x.v y.v).run Try.prog w = .ok (.bool (!(x.same y))) w := by
  cases x <;> cases y
  · simp only [Vl.v, Vl.same, binOp]
    simp [Op.equal, Op.maxDepth, eqi 9998]
  · cases h
  · cases h
  · simp only [Vl.v, Vl.same, binOp]
    simp [Op.equal, Op.maxDepth, eqt 9998]

theorem undrew {w w' : World} (h : Below w.drew.heap.size w.drew w') : Below w.heap.size w w' := ⟨h.os, h.tape, h.output, h.size, h.block⟩
def enV (E : En) : Value := .agg #[.int .i64 E.key, .int .i64 E.val, .int .i64 E.acc]
def EnC (w : World) (Y : Nat) (E : En) : Prop := w.heap[Y]? = some (.cells #[.int .i64 E.key, .int .i64 E.val, .int .i64 E.acc] 79 (0, 0))
theorem EnC.under {w w' : World} {Y : Nat} {E : En} (h : EnC w Y E) (hb : Below w.heap.size w w') : EnC w' Y E := (hb.block Y (Array.getElem?_eq_some_iff.1 h).1).trans h
theorem EnC.cells {w : World} {Y : Nat} {E : En} (h : EnC w Y E) : w.cell? ⟨Y, 0, none⟩ = some (.int .i64 E.key) ∧ w.cell? ⟨Y, 1, none⟩ = some (.int .i64 E.val) ∧ w.cell? ⟨Y, 2, none⟩ = some (.int .i64 E.acc) := ⟨cell_of h rfl, cell_of h rfl, cell_of h rfl⟩
/-- What reckon answers of an expression that has a type. -/
def RK (E : En) (x : Ex) : Prop := ∀ {v : Value} {B : Nat → Prop} {w : World}, Lies w B v x.args → Calls Try.prog 75 #[exV x v, enV E] w fun e w' => e = .returned (x.come E).v ∧ Below w.heap.size w w'
/-- A place's part, as the walk meets it. -/
theorem part_at {w : World} {B : Nat → Prop} {X i : Nat} {x y : Ex} (hx : At w B X 0 x) (hi : i < x.args.length) (hy : x.args[i] = y) : ∃ b c a d, w.cell? ⟨X, 2, none⟩ = some (.slice (some ⟨b, 0, none⟩) x.args.length c) ∧
    w.cell? ⟨b, i * 3, none⟩ = some (.int .u8 (y.op : Int)) ∧ w.cell? ⟨b, i * 3 + 1, none⟩ = some (.int .i64 y.n) ∧ w.cell? ⟨b, i * 3 + 2, none⟩ = some (.slice a y.args.length d) ∧ Lies w B (.slice a y.args.length d) y.args := by
  obtain ⟨a, c, h0, h1, h2, hl, hrow⟩ := hx.cells
  simp only [Nat.zero_add] at h2
  obtain ⟨b, rfl, hel⟩ := hrow (by omega)
  have hk := hel i hi
  rw [hy] at hk
  obtain ⟨a', c', e0, e1, e2, hl', _⟩ := hk.cells
  exact ⟨b, c, a', c', h2, e0, e1, e2, hl'⟩
set_option maxRecDepth 1000000 in
theorem num_at {E : En} {x y : Ex} {w : World} {X Y i : Nat} {n : Int} (hr : RK E y) (hx : At w Any X 0 x) (he : EnC w Y E) (hi : i < x.args.length) (hy : x.args[i] = y) (hn : y.come E = .num n) :
    Calls Try.prog 98 #[.int .i64 (i : Int), .pointer (some ⟨X, 0, none⟩), .pointer (some ⟨Y, 0, none⟩)] w fun e w' => e = .returned (.int .i64 n) ∧ Below w.heap.size w w' := by
  obtain ⟨b, c, a, d, h2, e0, e1, e2, hl⟩ := part_at hx hi hy
  obtain ⟨k0, k1, k2⟩ := he.cells
  have hin : (i : Int) < (x.args.length : Int) := by omega
  have HC : Hid (Calls Try.prog 75 #[.agg #[.int .u8 (y.op : Int), .int .i64 y.n, .slice a y.args.length d], .agg #[.int .i64 E.key, .int .i64 E.val, .int .i64 E.acc]] w.drew fun e w' => e = .returned (.iface 2 (.int .i64 n)) ∧ Below w.heap.size w w') := Lib.hid (by
    refine Calls.mono ?_ fun e w' (h : e = .returned (.iface 2 (.int .i64 n)) ∧ Below w.drew.heap.size w.drew w') => ⟨h.1, undrew h.2⟩
    have := hr (w := w.drew) (hl.frame fun _ _ _ _ => rfl)
    rw [hn] at this
    exact this)
  clear hr hx he hl hy hn
  have has := as2_2 (.int .i64 n)
  go_enter Try.func98, Try.ntmps98
  go_wp2_with fail
  go_region_with (go_at_call 75; (refine HC.out.mono ?_); rintro e w3 ⟨rfl, hb⟩)
  all_goals (go_wp2_with fail; go_ret; exact ⟨rfl, hb⟩)
end Go.Proofs.Ytamdbfkofdjmlaa.exp
end
