/- What operate and change do to a disk. -/
import Derived.Test.YtbnnbaoimidfnaaDkF
import Derived.Deep.AppendLies
namespace Go.Proofs.Ytbnnbaoimidfnaa.dsk
set_option linter.unusedSimpArgs false
set_option linter.unusedVariables false
open Go.RowKit
attribute [local go_sem ↓] Go.wp_at_zero Go.wp_at_succ

theorem Rest.congr {w : World} {F : Nat → Prop} {x y : D} {f : Files} {vs us : Nat → Value} {lo : Value} {ps : List (Value × Value)} (h : Rest w F x f vs us lo ps) (hs : y.sure = x.sure) (hl : y.loose = x.loose) : Rest w F y f vs us lo ps := by
  obtain ⟨h1, h2, h3, h4, h5, h6, h7, h8, h9, h10⟩ := h
  exact ⟨h1, by rw [hs]; exact h2, h3, by rw [hl]; exact h4, by rw [hl]; exact h5, by rw [hl]; exact h6, h7, h8, h9, h10⟩
structure OpDone (w w' : World) (F : Nat → Prop) (d : Nat) (x1 : D) (f : Files) (vs us : Nat → Value) (lo : Value) (ps : List (Value × Value)) : Prop where
  row : w'.rowIs d 49 36 (cellsD x1.room x1.off x1.left vs us lo)
  rest : Rest w' F x1 f vs us lo ps
  only : Only (· = d) w w'
  size : w'.heap.size = w.heap.size
theorem operate_at {x x1 : D} {E : Int} (hop : x.op = (E, x1)) (w : World) (F : Nat → Prop) (d : Nat) (f : Files) (vs us : Nat → Value) (lo : Value) (ps : List (Value × Value)) (hr : w.rowIs d 49 36 (cellsD x.room x.off x.left vs us lo)) (hR : Rest w F x f vs us lo ps)
    (h1 : -1 ≤ x.left) (h2 : x.left ≤ 9223372036854775807) : Calls Try.prog 38 #[ptr d 0] w fun e w' => e = .returned (.int .i64 E) ∧ OpDone w w' F d x1 f vs us lo ps := by
  have hl := hr.cell (i := 2) (by omega)
  have ho := hr.cell (i := 1) (by omega)
  have e2 : cellsD x.room x.off x.left vs us lo 2 = .int .i64 x.left := rfl
  have e1 : cellsD x.room x.off x.left vs us lo 1 = .bool x.off := rfl
  rw [e2] at hl
  rw [e1] at ho
  unfold D.op at hop
  by_cases h0 : x.left = 0
  · rw [if_pos h0] at hop
    obtain ⟨rfl, rfl⟩ := Prod.mk.inj hop
    rw [h0] at hl
    refine (operate_gone d w hl x.off ho (hr.frozen 1)).mono ?_
    rintro e w' ⟨rfl, rfl⟩
    refine ⟨rfl, (hr.set 1 (.bool true)).congr fun j hj => ?_, (hR.setCell hr _).congr rfl rfl, Only.setCell _ _ _ _, by simp⟩
    by_cases e : j = 1
    · subst e; rfl
    · rw [if_neg e]; unfold cellsD; simp [e]
  · rw [if_neg h0] at hop
    obtain ⟨rfl, rfl⟩ := Prod.mk.inj hop
    by_cases hm : x.left = -1
    · rw [hm] at hl
      refine (operate_on d w hl).mono ?_
      rintro e w' ⟨rfl, rfl⟩
      refine ⟨rfl, hr.congr fun j hj => ?_, hR.congr rfl rfl, Only.refl _ _, rfl⟩
      rw [if_pos hm, hm]
    · refine (operate_less d w x.left (by omega) h2 hl (hr.frozen 2)).mono ?_
      rintro e w' ⟨rfl, rfl⟩
      refine ⟨rfl, (hr.set 2 (.int .i64 (x.left - 1))).congr fun j hj => ?_, (hR.setCell hr _).congr rfl rfl, Only.setCell _ _ _ _, by simp⟩
      rw [if_neg hm]
      by_cases e : j = 2
      · subst e; rfl
      · rw [if_neg e]; unfold cellsD; simp [e]

theorem info70 : (Try.prog.info? 69).map (fun i => (i.zero, i.size, i.bytes)) = some (some (.agg #[.nilFunc, .nilFunc]), 2, 16) := by kernel_rfl
/-- The call of a change's first function value. -/
theorem whole_chg {w : World} {F : Nat → Prop} {c : Chg} {v1 v2 : Value} (hc : IsChg w F c v1 v2) : ∃ K p q, v1 = .func (.func K) #[] #[ptr p 0, ptr q 0] ∧ (K = 36 ∨ K = 37) ∧
    ∀ (w' : World) (room b o n : Nat) (T : TypeId) (R vs : Nat → Value) (f : Files), (∀ k T v, F k → boxT T → Box w k T v → Box w' k T v) → ok room f c → total f ≤ room → room ≤ 4194304 → w'.rowIs b T n R → T ≠ 5 → T ≠ 3 → T ≠ 9 → o + 16 ≤ n → (∀ j, j < 16 → R (o + j) = vs j) → Fls w' vs f →
      Calls Try.prog K #[ptr b o, ptr p 0, ptr q 0] w' (DidPost w' b o n T R vs (doIt f c)) := by
  cases c with
  | app i s =>
    obtain ⟨bf, bs, bi, e1, e2, ⟨h1, f1⟩, ⟨h2, f2⟩, ⟨h3, f3⟩⟩ := hc
    refine ⟨36, bf, bs, e1, .inl rfl, fun w' room b o n T R vs f hb hk ht hr hrow h5 h3' h9 hn hR hf => ?_⟩
    subst e2
    have := le_total f hk.1
    have := hk.2
    exact whole_app b o bf bs bi n i T R vs f s w' hrow h5 h3' h9 hn hR hf hk.1 (by omega) (hb _ _ _ f1 (.inr (.inr rfl)) h1) (hb _ _ _ f3 (.inl rfl) h3) (hb _ _ _ f2 (.inr (.inl rfl)) h2)
  | cut i m =>
    obtain ⟨bi, bn, e1, e2, ⟨h1, f1⟩, ⟨h2, f2⟩⟩ := hc
    refine ⟨37, bi, bn, e1, .inr rfl, fun w' room b o n T R vs f hb hk ht hr hrow h5 h3' h9 hn hR hf => ?_⟩
    exact whole_cut b o bi bn n i m T R vs f w' hrow h5 hn hR hf hk.1 hk.2 (hb _ _ _ f1 (.inl rfl) h1) (hb _ _ _ f2 (.inl rfl) h2)
  | mov x y =>
    exact hc.elim
theorem chg_cells {w : World} {F : Nat → Prop} {c : Chg} {v1 v2 : Value} (hc : IsChg w F c v1 v2) : ∀ u ∈ [v1, v2], u.oneCell' = true := by
  cases c with
  | app i s =>
    obtain ⟨bf, bs, bi, e1, e2, _⟩ := hc
    subst e1; subst e2; simp [Value.oneCell']
  | cut i m =>
    obtain ⟨bi, bn, e1, e2, _⟩ := hc
    subst e1; subst e2; simp [Value.oneCell']
  | mov x y =>
    exact hc.elim

/-- Where a change isn't done. -/
theorem change_off {x x1 : D} {E : Int} (hop : x.op = (E, x1)) (hE : E ≠ 0) (w : World) (F : Nat → Prop) (d : Nat) (v1 v2 : Value) (hx : IsDisk w F d x) :
    Calls Try.prog 35 #[ptr d 0, .agg #[v1, v2]] w fun e w' => e = .returned (.int .i64 E) ∧ Post F d x1 w w' := by
  obtain ⟨vs, us, lo, ps, hr, hR, hok, hd⟩ := id hx
  have hE' : (E != 0) = true := by simp [hE]
  have hnow : x1.now = x.now := by have := D.op_now x; rw [hop] at this; exact this
  have hok1 : x1.Ok := by have := D.op_ok hok; rw [hop] at this; exact this
  have h1 := hok.left1
  have h2 := hok.left2
  have HC := Lib.hid (operate_at hop (w.alloc (.cells #[v1, v2] 69)) F d x.now vs us lo ps (hr.alloc _) (hR.frame (fun k hk => heap_alloc_old w _ (hR.lt k hk)) (by simp)) h1 h2)
  clear hr
  go_enter Try.func35, Try.ntmps35
  go_wp2_with fail
  refine HC.out.mono ?_
  rintro e w2 ⟨rfl, hdone⟩
  have HD := Lib.hid hdone
  clear hdone
  go_wp2_with fail
  go_ret
  have hD := HD.out
  have hsz : w.heap.size ≤ w2.heap.size := by rw [hD.size]; simp
  refine ⟨rfl, ⟨vs, us, lo, ps, hD.row, ?_, hok1, .inl hd⟩, ?_⟩
  · rw [hnow]
    refine hD.rest.mono (fun k hk => .inl hk) fun k hk => ?_
    rcases hk with h | h
    · exact hD.rest.lt k h
    · exact h.2
  · exact (Only.alloc F w _).trans hD.only fun k hk _ => by rw [hk]; exact hd
end Go.Proofs.Ytbnnbaoimidfnaa.dsk
