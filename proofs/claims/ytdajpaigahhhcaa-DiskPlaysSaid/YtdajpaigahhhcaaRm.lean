/- Laws for the reference's Change and Crash: a row of changes grows, files are laid. -/
import Derived.Test.YtdajpaigahhhcaaRd
import Derived.Test.YtdajpaigahhhcaaY
import Derived.Laws.OwnMore
namespace Go.Proofs.Ytdajpaigahhhcaa.dsk
set_option linter.unusedSimpArgs false
set_option linter.unusedVariables false
open Go.RowKit

theorem info83 : (Try.prog.info? 83).map (fun i => (i.zero, i.size, i.bytes)) = some (some (.agg #[.int .i64 0, .int .i64 0, .int .i64 0, .string ⟨#[]⟩]), 4, 40) := by kernel_rfl
theorem info83s : (Try.prog.info? 83).map (·.size) = some 4 := by kernel_rfl
theorem app_row {W : World} {base n m : Nat} {v x : Value} {xs news : List Value} (hown : W.ownsRow base 83 4 v n xs) (hlo : W.ownsRow 0 83 4 x m news) (h1 : ∀ u ∈ news, u.oneCell' = true) (hm : n + m ≤ 100000) (hbase : base ≤ W.heap.size) (ty : TypeId) :
    ∃ v' w', (Builtin.append_ #[44, 44] ty #[v, x]).run Try.prog W = .ok v' w' ∧ w'.ownsRow base 83 4 v' (n + m) (xs ++ news) ∧ W.grownBy w' v.ownBlock ∧ Below base W w' := by
  obtain ⟨i0, hi, hz0, hz1, hz2⟩ := info_parts info83
  rcases hlo.2 with ⟨rfl, rfl⟩ | ⟨g, cap, cur, rfl, _⟩
  · have hn : news = [] := List.eq_nil_of_length_eq_zero (by have := hlo.1; omega)
    subst hn
    refine ⟨v, W, run_append_owned_none W base 44 ty 83 i0 4 Try.underlying44 hi v n xs hown, by rw [List.append_nil, Nat.add_zero]; exact hown, ⟨rfl, rfl, rfl, Nat.le_refl _, fun k _ _ => rfl⟩, Below.refl _ _⟩
  · obtain ⟨v', w', hr, h2, h3, _⟩ := run_append_own (P := Try.prog) W base 44 ty 83 i0 (.agg #[.int .i64 0, .int .i64 0, .int .i64 0, .string ⟨#[]⟩]) 4 40 Try.underlying44 hi hz0 hz1 hz2 rfl (by decide) v n xs hown ⟨g, 0, none⟩ m cap news (by have := hlo.1; omega)
      (fun j u hu => hlo.cells rfl j u hu) h1 (by unfold maxLen; omega) (by omega) hbase
    exact ⟨v', w', hr, h2, h3, (Below.refl base W).grown h3 hbase fun k hk => (own_lt hown hk).2.1⟩
theorem step_app {ops : Array Oper} {o : Oper} {a : Act} {K : Act → World → Prop} {Q : Exit → Act → World → Prop} {E : Prop} {W : World} {base n m : Nat} {v u : Value} {xs news : List Value} (hgd : o.guard = none) (s x : Operand)
    (ho : o.op = .call { callee := .builtin .append, args := #[s, x], argTypes := #[44, 44] }) (hs : a.eval s = v) (hx : a.eval x = u)
    (hown : W.ownsRow base 83 4 v n xs) (hlo : W.ownsRow 0 83 4 u m news) (h1 : ∀ u ∈ news, u.oneCell' = true) (hm : n + m ≤ 100000) (hbase : base ≤ W.heap.size)
    (h : ∀ v' w', Hid (w'.ownsRow base 83 4 v' (n + m) (xs ++ news) ∧ W.grownBy w' v.ownBlock ∧ Below base W w') → K (a.put o.dst v') w') :
    if Region.wanted o (yielded ops a.tmps) = true then Oper.wp Try.prog o a W K Q else E := by
  have hw : Region.wanted o (yielded ops a.tmps) = true := by simp [Region.wanted, hgd]
  rw [if_pos hw]
  obtain ⟨v', w', hr, h2⟩ := app_row hown hlo h1 hm hbase o.type
  unfold Oper.wp execOp
  simp only [ho, resolve, invoke, builtin, Sem.run_bind, Sem.run_pure, Result.andThen_ok, List.map_toArray, List.map_cons, List.map_nil, hs, hx, hr]
  exact h v' w' (Lib.hid h2)
/-- The files now are laid. -/
theorem store_now {ops : Array Oper} {Q : Exit → Act → World → Prop} {a : Act} {W : World} {G : Nat → Prop} {r room : Nat} {off : Bool} {left : Int} {f g f' : Files} {lo : Value} {L : List Chg} {o : Oper} (h : Rf W G r room off left f g lo L) (x y : Operand) (e : o.op = .store 43 x y) (d : o.dst = none) (gd : o.guard = none)
    (h1 : a.eval x = .pointer (some ⟨r, 1, none⟩)) (h2 : a.eval y = .agg (row16 (strs f')).toArray) (hk : ∀ W', Hid (Rf W' G r room off left f' g lo L ∧ Only (· = r) W W') → wpList Try.prog ops Q [] a W') : wpList Try.prog ops Q [o] a W := by
  refine wpList_store_mid gd 43 x y e r 1 (row16 (strs f')).toArray h1 h2 (by rw [size16]; exact there_of_row (m := 16) h.row (by decide)) (by rw [size16]; exact info43) (strs_one f') ?_
  rw [d, List.toList_toArray]
  exact hk _ (Lib.hid ⟨h.setNow f', only_setCells r _ 1 W⟩)
/-- What is sure is laid. -/
theorem store_sure {ops : Array Oper} {Q : Exit → Act → World → Prop} {a : Act} {W : World} {G : Nat → Prop} {r room : Nat} {off : Bool} {left : Int} {f g g' : Files} {lo : Value} {L : List Chg} {o : Oper} (h : Rf W G r room off left f g lo L) (x y : Operand) (e : o.op = .store 43 x y) (d : o.dst = none) (gd : o.guard = none)
    (h1 : a.eval x = .pointer (some ⟨r, 17, none⟩)) (h2 : a.eval y = .agg (row16 (strs g')).toArray) (hk : ∀ W', Hid (Rf W' G r room off left f g' lo L ∧ Only (· = r) W W') → wpList Try.prog ops Q [] a W') : wpList Try.prog ops Q [o] a W := by
  refine wpList_store_mid gd 43 x y e r 17 (row16 (strs g')).toArray h1 h2 (by rw [size16]; exact there_of_row (m := 16) h.row (by decide)) (by rw [size16]; exact info43) (strs_one g') ?_
  rw [d, List.toList_toArray]
  exact hk _ (Lib.hid ⟨h.setSure g', only_setCells r _ 17 W⟩)
theorem range4 {W : World} {b : Nat} {v0 v1 v2 v3 : Value} (h : W.heap[b]? = some (.cells #[v0, v1, v2, v3] 83 (0, 0))) : W.rangeAt b 0 [v0, v1, v2, v3] := fun j v hj => by
  rw [Nat.zero_add, cell_of_row W b j _ _ _ h]
  simpa using hj
end Go.Proofs.Ytdajpaigahhhcaa.dsk
