/- Keys that are pairs of addresses; a row of pairs that is cut. -/
import Derived.Test.YtjmfneljgogohaaDoorExU
import Derived.ChangeKeysEq
import Derived.Deep.AppendLies
namespace Go.Proofs.YtjmfneljgogohaaDoor.exp
set_option linter.unusedSimpArgs false
set_option linter.unusedVariables false
open Go.RowKit nam

theorem part0 (a b : Option Addr) (w : World) : (part 59 #[.pointer a, .pointer b] 0).run Tryd.prog w = .ok (.pointer a) w := by kernel_rfl
theorem part1 (a b : Option Addr) (w : World) : (part 59 #[.pointer a, .pointer b] 1).run Tryd.prog w = .ok (.pointer b) w := by kernel_rfl
theorem cells60 : Tryd.prog.cellsOf 59 = 1 := by kernel_rfl
theorem run_equalIn_pair (d : Nat) {w : World} {a b : Addr × Addr} (ha : PlainB w a) (hb : PlainB w b) : (Op.equalIn (d + 2) 73 (kB a) (kB b)).run Tryd.prog w = .ok (decide (a = b)) w := by
  have hte : (Tryd.prog.info? 59).isSome = true := by kernel_rfl
  obtain ⟨i, hi⟩ := Option.isSome_iff_exists.1 hte
  unfold kB
  rw [show d + 2 = (d + 1) + 1 from rfl, run_equalIn_array w (d + 1) _ _ Tryd.underlying73 hi, cells60, show List.range 2 = [0, 1] from rfl]
  simp only [Op.eqItems, Sem.run_bind, Nat.zero_mul, Nat.one_mul, part0, part1, Result.andThen_ok, run_equalIn_ptr d ha.1 hb.1]
  by_cases h1 : a.1 = b.1
  · simp only [h1, decide_true, Bool.not_true, Bool.false_eq_true, if_false, Op.eqItems, Sem.run_bind, part0, part1, Result.andThen_ok, run_equalIn_ptr d ha.2 hb.2]
    by_cases h2 : a.2 = b.2
    · have : a = b := Prod.ext h1 h2
      simp [h2, this]
    · have : a ≠ b := fun e => h2 (by rw [e])
      simp [h2, this]
  · have : a ≠ b := fun e => h1 (by rw [e])
    simp [h1, this]
theorem run_checkKey_pair (em : Bool) (d : Nat) (a : Addr × Addr) (w : World) : (Instr.checkKey em (d + 2) 73 (kB a)).run Tryd.prog w = .ok () w := by
  have hte : (Tryd.prog.info? 59).isSome = true := by kernel_rfl
  obtain ⟨i, hi⟩ := Option.isSome_iff_exists.1 hte
  have hp : ∀ x w, (Instr.checkKey em (d + 1) 59 (.pointer x)).run Tryd.prog w = .ok () w := fun x w => by simp [Instr.checkKey, run_underlying Tryd.underlying59]
  unfold kB
  rw [show d + 2 = (d + 1) + 1 from rfl, Instr.checkKey]
  simp only [Sem.run_bind, run_underlying Tryd.underlying73, Result.andThen_ok]
  simp only [Std.Legacy.Range.forIn_eq_forIn_range', Std.Legacy.Range.size, Nat.sub_zero, Nat.add_one_sub_one, Nat.div_one]
  rw [show List.range' 0 2 1 = [0, 1] from rfl]
  simp only [List.forIn_cons, List.forIn_nil, Sem.run_bind, run_sizeOf w hi, cells60, Nat.zero_mul, Nat.one_mul, part0, part1, Result.andThen_ok, hp, Sem.run_pure]
def GB (W : World) (p : Addr × Addr) : Prop := GA W p.1 ∧ GA W p.2
theorem keyP {W w : World} (h : Tr W w) : KeyT Tryd.prog w kB (GB W) 73 where
  under := ⟨_, Tryd.underlying73, fun a v => rfl⟩
  inj a b h := by
    unfold kB at h
    simp only [Value.agg.injEq, Array.mk.injEq, List.cons.injEq, Value.pointer.injEq, Option.some.injEq, and_true] at h
    exact Prod.ext h.1 h.2
  eq a b ha hb := by
    have pl : ∀ {p : Addr}, GA W p → Plain w p := fun {p} ⟨c, hc⟩ => ⟨c, 28, (h _ _ hc).trans hc⟩
    exact ⟨decide (a = b), by unfold Op.equal Op.maxDepth; exact run_equalIn_pair 9998 ⟨pl ha.1, pl ha.2⟩ ⟨pl hb.1, pl hb.2⟩, by simp⟩
  check em a := run_checkKey_pair em 9998 a w
  stays a := by
    have : ∀ d, Instr.sameBits (d + 2) (kB a) (kB a) = true := fun d => by simp [Instr.sameBits, kB]
    simp [Instr.keyThatStays, this 9998]
/-- Cut behind its last element, a row is owned still. -/
theorem own_cut {w : World} {B e size n cap m : Nat} {g : Addr} {xs : List Value} (h : w.ownsRow B e size (.slice (some g) n cap) n xs) (hm : m ≤ n) : w.ownsRow B e size (.slice (some g) m cap) m (xs.take (m * size)) := by
  rcases h with ⟨h1, ⟨h2, _⟩ | ⟨g', cap', cur, h2, h3, h4, h5, h6, h7, h8⟩⟩
  · cases h2
  · simp only [Value.slice.injEq, Option.some.injEq, true_and] at h2
    obtain ⟨rfl, rfl⟩ := h2
    have hms : m * size ≤ n * size := Nat.mul_le_mul_right _ hm
    refine ⟨by rw [List.length_take, h1]; omega, .inr ⟨g', cap, cur, rfl, h3, h4, by omega, h6, h7, ?_⟩⟩
    rw [← h8, List.take_take, Nat.min_eq_left hms]
end Go.Proofs.YtjmfneljgogohaaDoor.exp
