/- Rows of rows; slices.Grow of nil; slices.Concat. -/
import Derived.Test.YtamdbfkofdjmlaaOpK
import Derived.Lib.AppendZeros
import Derived.Lib.SliceRun
namespace Go.Proofs.Ytamdbfkofdjmlaa.opr
set_option linter.unusedSimpArgs false
set_option linter.unusedVariables false
open Go.RowKit
attribute [local go_sem ↓] Go.wp_at_zero Go.wp_at_succ
open Go.Proofs.Ytamdbfkofdjmlaa.tbl (Only lt_of_get)
open Go.Proofs.Ytamdbfkofdjmlaa.grp (below_on' below_made)
theorem wpList_appR {P : Program} {w w' : World} {ops : Array Oper} {rest : List Oper} {o : Oper} {a : Act} {Q : Exit → Act → World → Prop} {v u r : Value} (hg : o.guard = none) (s x : Operand) (t : TypeId)
    (ho : o.op = .call { callee := .builtin .append, args := #[s, x], argTypes := #[t, t] }) (hs : a.eval s = v) (hx : a.eval x = u) (hr : (Builtin.append_ #[t, t] o.type #[v, u]).run P w = .ok r w')
    (h : wpList P ops Q rest (a.put o.dst r) w') : wpList P ops Q (o :: rest) a w := by
  refine wpList_plain hg fun K' hK' => ?_
  unfold Oper.wp execOp
  simp only [ho, resolve, invoke, builtin, Sem.run_bind, Sem.run_pure, Result.andThen_ok, List.map_toArray, List.map_cons, List.map_nil, hs, hx, hr]
  exact hK' _ _ h
/-- A slice of slices that read records. -/
def Lr (w : World) (v : Value) (vs : List Value) (ls : List (List Rc)) : Prop :=
  ∃ a c, v = .slice a vs.length c ∧ vs.length = ls.length ∧ vs.length ≤ c ∧
    (0 < vs.length → ∃ g o, a = some ⟨g, o, none⟩ ∧ g < w.heap.size ∧ ∀ (i : Nat) (x : Value), vs[i]? = some x → w.cell? ⟨g, o + i, none⟩ = some x) ∧
    ∀ (i : Nat) (x : Value) (l : List Rc), vs[i]? = some x → ls[i]? = some l → Sr w x l
theorem Lr.below {w w' : World} {v : Value} {vs : List Value} {ls : List (List Rc)} (h : Lr w v vs ls) (hb : Below w.heap.size w w') : Lr w' v vs ls := by
  obtain ⟨a, c, h1, h2, h2', h3, h4⟩ := h
  refine ⟨a, c, h1, h2, h2', fun h0 => ?_, fun i x l hx hl => (h4 i x l hx hl).below hb⟩
  obtain ⟨g, o, e1, e2, e3⟩ := h3 h0
  exact ⟨g, o, e1, Nat.lt_of_lt_of_le e2 hb.size, fun i x hx => (hb.cell (p := ⟨g, o + i, none⟩) e2).trans (e3 i x hx)⟩
theorem Lr.len {w : World} {v : Value} {vs : List Value} {ls : List (List Rc)} (h : Lr w v vs ls) : ∃ a c, v = .slice a ls.length c := by
  obtain ⟨a, c, h1, h2, _⟩ := h; exact ⟨a, c, by rw [h1, h2]⟩
/-- What stands at a place. -/
theorem Lr.at {w : World} {v : Value} {vs : List Value} {ls : List (List Rc)} (h : Lr w v vs ls) {k : Nat} (hk : k < ls.length) :
    ∃ g o c l ax cx, v = .slice (some ⟨g, o, none⟩) ls.length c ∧ g < w.heap.size ∧ ls[k]? = some l ∧ w.cell? ⟨g, o + k, none⟩ = some (.slice ax l.length cx) ∧ Sr w (.slice ax l.length cx) l := by
  obtain ⟨a, c, h1, h2, h2', h3, h4⟩ := h
  obtain ⟨g, o, rfl, e2, e3⟩ := h3 (by omega)
  have hv : vs[k]? = some vs[k] := List.getElem?_eq_getElem (by omega)
  have hl : ls[k]? = some ls[k] := List.getElem?_eq_getElem hk
  have hs := h4 k _ _ hv hl
  obtain ⟨ax, cx, e⟩ := hs.len
  rw [e] at hv hs
  exact ⟨g, o, c, ls[k], ax, cx, by rw [h1, h2], e2, hl, e3 k _ hv, hs⟩
/-- How many records the first rows have. -/
def tot (ls : List (List Rc)) (k : Nat) : List Rc := (ls.take k).flatten
theorem tot_zero (ls : List (List Rc)) : tot ls 0 = [] := rfl
theorem tot_succ {ls : List (List Rc)} {k : Nat} {l : List Rc} (h : ls[k]? = some l) : tot ls (k + 1) = tot ls k ++ l := by
  unfold tot
  rw [List.take_add_one, h]
  simp
theorem tot_all (ls : List (List Rc)) : tot ls ls.length = ls.flatten := by unfold tot; rw [List.take_length]
theorem tot_le (ls : List (List Rc)) (k : Nat) : (tot ls k).length ≤ ls.flatten.length := by
  have : ls.flatten = tot ls k ++ (ls.drop k).flatten := by
    unfold tot
    rw [← List.flatten_append, List.take_append_drop]
  rw [this, List.length_append]; omega
theorem grow_any (n : Nat) (hn : n ≤ 1000000) (w : World) :
    Calls Try.prog 27 #[.slice none 0 0, .int .i64 n] w fun e w' => ∃ v, e = .returned v ∧ w'.ownsRow w.heap.size 32 3 v 0 [] ∧ Below w.heap.size w w' := by
  by_cases h0 : n = 0
  · subst h0
    have HF : Hid (∃ v, Ending.returned (.slice none 0 0) = .returned v ∧ w.ownsRow w.heap.size 32 3 v 0 [] ∧ Below w.heap.size w w) := Lib.hid ⟨_, rfl, World.ownsRow_nil _ _ _ _, Below.refl _ _⟩
    go_enter Try.func27, Try.ntmps27
    go_wp2
    go_ret
    exact HF.out
  · obtain ⟨i0, hi, ⟨z, hz, hz3⟩, hz1, hz2⟩ : ∃ i0, Try.prog.info? 32 = some i0 ∧ (∃ z, i0.zero = some z ∧ z.cells.size = 3) ∧ i0.size = 3 ∧ i0.bytes = 24 := by
      have := infoR
      cases hi : Try.prog.info? 32 with
      | none => rw [hi] at this; cases this
      | some i0 =>
        rw [hi] at this
        simp only [Option.map_some, Option.some.injEq, Prod.mk.injEq, Option.map_eq_some_iff] at this
        exact ⟨i0, rfl, this.1, this.2.1, this.2.2⟩
    have hr : ∀ ty, _ := fun ty => Lib.run_append_nil_zeros (P := Try.prog) w 22 3 ty 32 i0 z .i64 .i64 Try.underlying22 Try.underlying3 hi hz n (by omega) (by omega) (by omega) (by rw [hz2]; omega)
    have hG1 : n ≤ grownCap w n 0 32 := grownCap_ge w _ _ _
    have hG2 := grownCap_le_maxLen w n 0 32 (by unfold maxLen; omega)
    obtain ⟨G, hG⟩ : ∃ G, grownCap w n 0 32 = G := ⟨_, rfl⟩
    rw [hG] at hG1 hG2
    simp only [hG] at hr
    obtain ⟨cs, hcs⟩ : ∃ cs, Builtin.zeroCells z.cells n ++ Builtin.zeroCells z.cells (G - n) = cs := ⟨_, rfl⟩
    simp only [hcs] at hr
    have hsz : cs.size = G * 3 := by
      rw [← hcs]
      simp only [Array.size_append, Builtin.zeroCells, Array.size_map, Array.size_range, hz3]
      omega
    have HF : Hid (∃ v, Ending.returned (.slice (some ⟨w.heap.size, 0, none⟩) 0 G) = .returned v ∧ (w.drew.alloc (.cells cs 32)).ownsRow w.heap.size 32 3 v 0 [] ∧ Below w.heap.size w (w.drew.alloc (.cells cs 32))) :=
      Lib.hid ⟨_, rfl, ⟨rfl, .inr ⟨w.heap.size, G, cs, rfl, Nat.le_refl _, Go.heap_alloc_new w.drew _, Nat.zero_le _, hG2, hsz, by simp⟩⟩, ((Below.refl _ w).drew).alloc (Nat.le_refl _) _⟩
    have HR := Lib.hid hr
    have hn0 : (0 : Int) < (n : Int) := by omega
    have hn1 : (n : Int) ≤ 1000000 := by omega
    have hG0 : ¬ (G = 0) := by omega
    have hG3 : (G : Int) ≤ 9223372036854775807 := by unfold maxLen at hG2; omega
    have hG4 : (0 : Int) ≤ (G : Int) := by omega
    have hn2 : ¬ ((n : Int) < 0) := by omega
    clear hr hG1 hG hcs hsz hz hz3 hz1 hz2 hi hn h0 hG2
    go_enter Try.func27, Try.ntmps27
    go_wp2_with (at_builtin; refine Lib.wpList_append_run _ rfl _ _ _ _ rfl _ _ rfl rfl _ _ (HR.out _) ?_)
    all_goals (go_ret; exact HF.out)
end Go.Proofs.Ytamdbfkofdjmlaa.opr
