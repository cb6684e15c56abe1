/- What has, apart and ahead answer; New. -/
import Derived.Test.YtghpbhcnblninaaTbM
import Derived.Test.YtghpbhcnblninaaGrA
import Derived.BigQuiet
import Derived.Test.YtghpbhcnblninaaDkR
import Derived.Deep.RegionHeld
import Derived.Handy
namespace Go.Proofs.Ytghpbhcnblninaa.tbl
set_option linter.unusedSimpArgs false
set_option linter.unusedVariables false
open Go.RowKit
attribute [local go_sem ↓] Go.wp_at_zero Go.wp_at_succ
open Go.Proofs.Ytghpbhcnblninaa.grp (gof gof_in fits fits_wf IRow intV below_on' below_made ret_bool)

/-- A table of the call's own. -/
def MadeT (B : Nat) (w w' : World) (t b : Nat) (L : Rows) : Prop := IsTab w' t b L ∧ B ≤ t ∧ B ≤ b ∧ Below B w w'
theorem new_any (w : World) : Calls Try.prog 10 #[] w fun e w' => ∃ t b, e = .returned (.pointer (some ⟨t, 0, none⟩)) ∧ MadeT w.heap.size w w' t b [] := by
  have hmm := @run_makeMap Try.prog
  go_enter Try.func10, Try.ntmps10
  go_wp2_with fail
  go_ret
  have hb : Below w.heap.size w ((w.alloc (.map #[] 0)).alloc (.cells (tabC w.heap.size (fun _ => 0)) 68)) := ((Below.refl _ w).alloc (Nat.le_refl _) _).alloc (by simp) _
  refine ⟨w.heap.size + 1, w.heap.size, rfl, ⟨Good.nil, ?_, ?_⟩, by omega, by omega, hb⟩
  · have := Go.heap_alloc_new (w.alloc (.map #[] 0)) (.cells (tabC w.heap.size (fun _ => 0)) 68)
    rw [World.size_alloc] at this
    exact this
  · exact (TabM.made w).keep (Below.heap_alloc _ _ _ (by simp)) (.of_below (below_made _ _))
theorem ahead_any (a b : Int) (w : World) (ha : fits a) (hb : fits b) : Calls Try.prog 39 #[.int .i64 a, .int .i64 b] w fun e w' => e = .returned (.bool (lessB a b)) ∧ w' = w := by
  have HA := Lib.hid (grp.of_any a w ha)
  have HB := Lib.hid (grp.of_any b w hb)
  have HL : Hid (lessB a b = (decide (gof a < gof b) || (decide (gof a = gof b) && decide (a < b)))) := Lib.hid rfl
  obtain ⟨x, hx⟩ : ∃ x, gof a = x := ⟨_, rfl⟩
  obtain ⟨y, hy⟩ : ∃ y, gof b = y := ⟨_, rfl⟩
  rw [hx] at HA HL
  rw [hy] at HB HL
  rw [HL.out]
  clear HL hx hy ha hb
  by_cases hxy : x = y
  · subst hxy
    have h1 : (x != x) = false := by simp
    go_enter Try.func39, Try.ntmps39
    go_wp2_with fail
    refine HA.out.mono ?_
    rintro e w1 ⟨rfl, rfl⟩
    go_wp2_with fail
    refine HB.out.mono ?_
    rintro e w1 ⟨rfl, rfl⟩
    go_wp2_with fail
    go_ret
    exact ⟨ret_bool (by simp), rfl⟩
  · have h1 : (x != y) = true := by simp [hxy]
    go_enter Try.func39, Try.ntmps39
    go_wp2_with fail
    refine HA.out.mono ?_
    rintro e w1 ⟨rfl, rfl⟩
    go_wp2_with fail
    refine HB.out.mono ?_
    rintro e w1 ⟨rfl, rfl⟩
    go_wp2_with fail
    go_ret
    exact ⟨ret_bool (by simp [hxy]), rfl⟩
theorem has_nil (k : Int) (w : World) : Calls Try.prog 41 #[.pointer none, .int .i64 k] w fun e w' => e = .returned (.bool false) ∧ w' = w := by
  go_enter Try.func41, Try.ntmps41
  go_wp2_with fail
  go_ret
  exact ⟨rfl, rfl⟩
theorem has_any {w : World} {t b : Nat} {L : Rows} (h : IsTab w t b L) {k : Int} (hk : fits k) : Calls Try.prog 41 #[.pointer (some ⟨t, 0, none⟩), .int .i64 k] w fun e w' => e = .returned (.bool (look L k).isSome) ∧ Below w.heap.size w w' := by
  have c0 := h.obj.cells.1
  cases hc : look L k with
  | none =>
    have hl := h.map.look_no hk hc
    unfold mkC at hl
    clear h hc
    go_enter Try.func41, Try.ntmps41
    go_wp2_with fail
    go_ret
    exact ⟨rfl, below_made _ _⟩
  | some c =>
    obtain ⟨a, cap, hn, hl, -⟩ := h.map.look_yes hk hc
    unfold mkC at hl
    clear h hc hn
    go_enter Try.func41, Try.ntmps41
    go_wp2_with fail
    go_ret
    exact ⟨rfl, below_made _ _⟩

/-- Numbers that a slice reads, wherever. -/
def Sl (w : World) (a : Option Addr) (c : Nat) (l : List Int) : Prop :=
  (a = none → c = 0) ∧ (0 < l.length → ∃ g o, a = some ⟨g, o, none⟩ ∧ g < w.heap.size ∧ ∀ i (h : i < l.length), w.cell? ⟨g, o + i, none⟩ = some (.int .i64 l[i]))
theorem Sl.nil (w : World) : Sl w none 0 [] := ⟨fun _ => rfl, fun h => by simp at h⟩
theorem NA.sl {w : World} {a : Option Addr} {c : Nat} {l : List Int} (h : NA w a c l) : Sl w a c l := ⟨h.2, fun hl => by
  obtain ⟨g, o, cur, fr, rfl, h2, h3⟩ := h.1 hl
  exact ⟨g, o, rfl, lt_of_get h2, fun i hi => by rw [cell_of_row w g (o + i) _ _ _ h2]; exact h3 i hi⟩⟩
theorem Sl.below {w w' : World} {a : Option Addr} {c : Nat} {l : List Int} (h : Sl w a c l) (hb : Below w.heap.size w w') : Sl w' a c l := ⟨h.1, fun hl => by
  obtain ⟨g, o, h1, h2, h3⟩ := h.2 hl
  exact ⟨g, o, h1, Nat.lt_of_lt_of_le h2 hb.size, fun i hi => (hb.cell (p := ⟨g, o + i, none⟩) h2).trans (h3 i hi)⟩⟩
theorem info64 : (Try.prog.info? 2).map (fun i => (i.zero, i.size, i.bytes)) = some (some (.int .i64 0), 1, 8) := by kernel_rfl
theorem one_cell (l : List Int) : ∀ u ∈ l.map intV, u.oneCell' = true := by
  intro u hu
  obtain ⟨x, -, rfl⟩ := List.mem_map.1 hu
  rfl
/-- append(v, l...), v a row of one's own or nil. -/
theorem app_run {W : World} {B n : Nat} {v : Value} {a : Option Addr} {c : Nat} {m l : List Int} (ho : W.ownsRow B 2 1 v n (m.map intV)) (h : Sl W a c l) (hl : m.length + l.length ≤ 1000000) (hB : B ≤ W.heap.size) (ty : TypeId) :
    ∃ v' w', (Builtin.append_ #[30, 30] ty #[v, .slice a l.length c]).run Try.prog W = .ok v' w' ∧ w'.ownsRow B 2 1 v' (n + l.length) ((m ++ l).map intV) ∧ W.grownBy w' v.ownBlock := by
  obtain ⟨i0, hi, hz0, hz1, hz2⟩ := info_parts info64
  have hn : n = m.length := by have := ho.1; simpa using this.symm
  cases a with
  | none =>
    obtain rfl := h.1 rfl
    have h0 : l = [] := by
      cases l with
      | nil => rfl
      | cons x l => obtain ⟨g, o, h1, _⟩ := h.2 (by simp); cases h1
    subst h0
    refine ⟨v, W, run_append_owned_none W B 30 ty 2 i0 1 Try.underlying30 hi v n _ ho, by simpa using ho, ⟨rfl, rfl, rfl, Nat.le_refl _, fun _ _ _ => rfl⟩⟩
  | some ad =>
    obtain ⟨v', w', h1, h2, h3, _⟩ := run_append_own (P := Try.prog) W B 30 ty 2 i0 (.int .i64 0) 1 8 Try.underlying30 hi hz0 hz1 hz2 rfl (by decide) v n _ ho ad l.length c (l.map intV) (by simp)
      (fun j u hu => by
        have hj : j < l.length := by
          rcases Nat.lt_or_ge j l.length with h1 | h1
          · exact h1
          · rw [List.getElem?_eq_none (by simpa using h1)] at hu; cases hu
        obtain ⟨g, o, h4, h5, h6⟩ := h.2 (by omega)
        obtain rfl := Option.some.inj h4
        have hadd : (⟨g, o, none⟩ : Addr).add j = ⟨g, o + j, none⟩ := by unfold Addr.add; split <;> simp_all
        rw [hadd, h6 j hj, ← hu]
        simp [hj, intV]) (one_cell l) (by unfold maxLen; omega) (by omega) hB
    exact ⟨v', w', h1, by rw [List.map_append]; exact h2, h3⟩
theorem step_app {P : Program} {ops : Array Oper} {o : Oper} {a : Act} {K : Act → World → Prop} {Q : Exit → Act → World → Prop} {E : Prop} {w w' : World} {v u r : Value} (hgd : o.guard = none) (s x : Operand) (t : TypeId)
    (ho : o.op = .call { callee := .builtin .append, args := #[s, x], argTypes := #[t, t] }) (hs : a.eval s = v) (hx : a.eval x = u) (hr : (Builtin.append_ #[t, t] o.type #[v, u]).run P w = .ok r w')
    (h : K (a.put o.dst r) w') : if Region.wanted o (yielded ops a.tmps) = true then Oper.wp P o a w K Q else E := by
  have hw : Region.wanted o (yielded ops a.tmps) = true := by simp [Region.wanted, hgd]
  rw [if_pos hw]
  unfold Oper.wp execOp
  simp only [ho, resolve, invoke, builtin, Sem.run_bind, Sem.run_pure, Result.andThen_ok, List.map_toArray, List.map_cons, List.map_nil, hs, hx, hr]
  exact h
theorem apart_any {w : World} {x : Int} {a : Option Addr} {c : Nat} {l : List Int} (h : Sl w a c l) (hl : l.length ≤ 1000) :
    Calls Try.prog 42 #[.agg #[.int .i64 x, .slice a l.length c]] w fun e w' => ∃ a' c', e = .returned (mkC (x, a', l.length, c')) ∧ NA w' a' c' l ∧ Below w.heap.size w w' := by
  have h' : Sl (((w.alloc (.cells #[.int .i64 x, .slice a l.length c] 32)).alloc (.cells #[.int .i64 0, .slice none 0 0] 32)).drew) a c l := h.below ⟨rfl, rfl, rfl, by simp [World.drew]; omega, fun k hk => by
    show ((w.alloc _).alloc _).heap[k]? = _
    rw [Below.heap_alloc _ _ _ (by simp; omega), Below.heap_alloc _ _ _ hk]⟩
  obtain ⟨v', w', hr, ho, hg⟩ := app_run (B := w.heap.size + 2) (n := 0) (m := []) (World.ownsRow_nil _ _ _ _) h' (by simp; omega) (by simp [World.drew]) 30
  obtain ⟨W, hW⟩ : ∃ W, (w.alloc (.cells #[.int .i64 x, .slice a l.length c] 32)).alloc (.cells #[.int .i64 0, .slice none 0 0] 32) = W := ⟨_, rfl⟩
  have hb : Below w.heap.size w W := by rw [← hW]; exact ((Below.refl _ w).alloc (Nat.le_refl _) _).alloc (by simp) _
  have hs : W.heap.size = w.heap.size + 2 := by rw [← hW]; simp
  have h0 : W.heap[w.heap.size]? = some (.cells #[.int .i64 x, .slice a l.length c] 32 (0, 0)) := by
    rw [← hW, Below.heap_alloc _ _ _ (by simp)]; exact Go.heap_alloc_new w _
  have h1 : W.heap[w.heap.size + 1]? = some (.cells #[.int .i64 0, .slice none 0 0] 32 (0, 0)) := by
    have := Go.heap_alloc_new (w.alloc (.cells #[.int .i64 x, .slice a l.length c] 32)) (.cells #[.int .i64 0, .slice none 0 0] 32)
    rw [World.size_alloc, hW] at this; exact this
  rw [hW] at hr hg
  have hg' : Below W.heap.size W w' := (Below.refl _ W).grown (by exact ⟨hg.os, hg.tape, hg.output, hg.size, hg.block⟩) (Nat.le_refl _) (fun k hk => by cases hk)
  obtain ⟨N, hN⟩ : ∃ N, w.heap.size = N := ⟨_, rfl⟩
  rw [hN] at hb hs h0 h1 ho
  have h0' : w'.heap[N]? = some (.cells #[.int .i64 x, .slice a l.length c] 32 (0, 0)) := (hg'.block N (by omega)).trans h0
  have h1' : w'.heap[N + 1]? = some (.cells #[.int .i64 0, .slice none 0 0] 32 (0, 0)) := (hg'.block (N + 1) (by omega)).trans h1
  have c0 : W.cell? ⟨N, 0, none⟩ = some (.int .i64 x) := by rw [cell_of_row W N 0 _ _ _ h0]; rfl
  have c1 : W.cell? ⟨N, 1, none⟩ = some (.slice a l.length c) := by rw [cell_of_row W N 1 _ _ _ h0]; rfl
  have c0' : w'.cell? ⟨N, 0, none⟩ = some (.int .i64 x) := by rw [cell_of_row w' N 0 _ _ _ h0']; rfl
  have c1' : w'.cell? ⟨N, 1, none⟩ = some (.slice a l.length c) := by rw [cell_of_row w' N 1 _ _ _ h0']; rfl
  have d0 : w'.cell? ⟨N + 1, 0, none⟩ = some (.int .i64 0) := by rw [cell_of_row w' (N + 1) 0 _ _ _ h1']; rfl
  have d1 : w'.cell? ⟨N + 1, 1, none⟩ = some (.slice none 0 0) := by rw [cell_of_row w' (N + 1) 1 _ _ _ h1']; rfl
  have f0 : w'.frozen? ⟨N + 1, 0, none⟩ = false := frozen_of_row w' (N + 1) 0 _ _ h1'
  have f1 : w'.frozen? ⟨N + 1, 1, none⟩ = false := frozen_of_row w' (N + 1) 1 _ _ h1'
  rw [Nat.zero_add, List.nil_append] at ho
  obtain ⟨-, a', c', rfl, hna⟩ := NR.own ho
  have HE : Hid (∀ u, ∃ a'' c'', Ending.returned (mkC (x, a', l.length, c')) = Ending.returned (mkC (x, a'', l.length, c'')) ∧ NA ((w'.setCell ⟨N + 1, 0, none⟩ (.int .i64 x)).setCell ⟨N + 1, 1, none⟩ u) a'' c'' l ∧ Below N w ((w'.setCell ⟨N + 1, 0, none⟩ (.int .i64 x)).setCell ⟨N + 1, 1, none⟩ u)) := Lib.hid (fun u => ⟨a', c', rfl, hna.keep (fun g cur fr hgg => by
      have hne : g ≠ N + 1 := fun e => by rw [e, h1'] at hgg; cases hgg
      rw [Below.heap_setCell _ _ _ _ hne, Below.heap_setCell _ _ _ _ hne]; exact hgg), ((hb.trans (hg'.mono (by omega))).setCell (by show N ≤ N + 1; omega) _).setCell (by show N ≤ N + 1; omega) _⟩)
  have HN := Lib.hid h1'
  have HNN := Lib.hid hN
  clear h0 h1 h0' h1' hg' ho hna hg hb h h'
  go_enter Try.func42, Try.ntmps42
  go_wp2_with fail
  clear hW hN hs
  refine dsk.wp_region_peel2 (by kernel_rfl) (by simp only [List.dropLast_cons_cons, List.dropLast_singleton]; exact rfl) rfl (by kernel_rfl) ?_
  refine wpAny_of_held (S := fun w' => w'.cell? ⟨N, 0, none⟩ = some (.int .i64 x) ∧ w'.cell? ⟨N, 1, none⟩ = some (.slice a l.length c)) _ _ _ _ ?_
  have hHeld := (show W.drew.cell? ⟨N, 0, none⟩ = some (.int .i64 x) ∧ W.drew.cell? ⟨N, 1, none⟩ = some (.slice a l.length c) from ⟨c0, c1⟩)
  refine wpAnyH_take (i := 0) (v := ?v1) rfl (by kernel_rfl) (by kernel_rfl) (by kernel_rfl) (fun _ _ _ h => h) (Or.inl ⟨by rfl, ?hy1⟩) (by assumption) ?rest1
  case hy1 => (intro w0 hSw; (try dsimp only at hSw); go_simp; try with_reducible rfl)
  try simp only [Act.put, List.getElem_toArray, List.getElem_cons_zero, List.getElem_cons_succ, List.setIfInBounds_toArray, List.set_cons_zero, List.set_cons_succ]
  refine wpAnyH_take (i := 1) (v := ?v2) rfl (by kernel_rfl) (by kernel_rfl) (by kernel_rfl) (fun _ _ _ h => h) (Or.inl ⟨by rfl, ?hy2⟩) (by assumption) ?rest2
  case hy2 => (intro w0 hSw; (try dsimp only at hSw); go_simp; try with_reducible rfl)
  try simp only [Act.put, List.getElem_toArray, List.getElem_cons_zero, List.getElem_cons_succ, List.setIfInBounds_toArray, List.set_cons_zero, List.set_cons_succ]
  refine wpAnyH_take (i := 2) (v := ?v3) rfl (by kernel_rfl) (by kernel_rfl) (by kernel_rfl) (fun _ _ _ h => h) (Or.inl ⟨by rfl, ?hy3⟩) (by assumption) ?rest3
  case hy3 => (intro w0 hSw; (try dsimp only at hSw); go_simp; try with_reducible rfl)
  try simp only [Act.put, List.getElem_toArray, List.getElem_cons_zero, List.getElem_cons_succ, List.setIfInBounds_toArray, List.set_cons_zero, List.set_cons_succ]
  refine wpAnyH_take (i := 3) (v := ?v4) rfl (by kernel_rfl) (by kernel_rfl) (by kernel_rfl) (fun _ _ _ h => h) (Or.inl ⟨by rfl, ?hy4⟩) (by assumption) ?rest4
  case hy4 => (intro w0 hSw; (try dsimp only at hSw); go_simp; try with_reducible rfl)
  try simp only [Act.put, List.getElem_toArray, List.getElem_cons_zero, List.getElem_cons_succ, List.setIfInBounds_toArray, List.set_cons_zero, List.set_cons_succ]
  refine wpAnyH_ready (rs := [4]) (by kernel_rfl) (by simp) ?_
  refine AllReadyH.cons rfl (fun KQ hKQ => ?_) AllReadyH.nil
  refine step_app rfl (Operand.const (.slice none 0 0)) (.tmp 6) 30 rfl rfl (by rfl) hr ?_
  refine hKQ.out _ _ ?_ (fun hHeld => ?_)
  · exact ⟨c0', c1'⟩
  clear hKQ KQ
  try simp only [Act.put, List.getElem_toArray, List.getElem_cons_zero, List.getElem_cons_succ, List.setIfInBounds_toArray, List.set_cons_zero, List.set_cons_succ]
  refine wpAnyH_take (i := 5) (v := ?v5) rfl (by kernel_rfl) (by kernel_rfl) (by kernel_rfl) (fun _ _ _ h => h) (Or.inl ⟨by rfl, ?hy5⟩) (by assumption) ?rest5
  case hy5 => (intro w0 hSw; (try dsimp only at hSw); go_simp; try with_reducible rfl)
  try simp only [Act.put, List.getElem_toArray, List.getElem_cons_zero, List.getElem_cons_succ, List.setIfInBounds_toArray, List.set_cons_zero, List.set_cons_succ]
  refine wpAnyH_done (by kernel_rfl) ?_ _
  change wpList _ _ _ _ _ _
  clear hHeld c0 c1 c0' c1' hr
  have h2 : ((w'.setCell ⟨N + 1, 0, none⟩ (.int .i64 x)).setCell ⟨N + 1, 1, none⟩ (.slice a' l.length c')).heap[N + 1]? = some (.cells #[.int .i64 x, .slice a' l.length c'] 32 (0, 0)) := by
    rw [heap_setCell_same _ (N + 1) 1 #[.int .i64 x, .slice none 0 0] 32 _ (by rw [heap_setCell_same w' (N + 1) 0 _ _ _ HN.out]; rfl)]; rfl
  have e0 := cell_of_row _ (N + 1) 0 _ _ _ h2
  have e1 := cell_of_row _ (N + 1) 1 _ _ _ h2
  go_wp2_with fail
  refine bodyPost_ret (v := mkC (x, a', l.length, c')) (by simp [results, Try.f42, go_sem, e0, e1, mkC]) rfl ?_
  rw [HNN.out]
  exact HE.out _
end Go.Proofs.Ytghpbhcnblninaa.tbl
