/- What Get answers is a row of its own. -/
import Derived.Test.YtamdbfkofdjmlaaMTb
namespace Go.Proofs.Ytamdbfkofdjmlaa.tbl
set_option linter.unusedSimpArgs false
set_option linter.unusedVariables false
open Go.RowKit
attribute [local go_sem ↓] Go.wp_at_zero Go.wp_at_succ
open Go.Proofs.Ytamdbfkofdjmlaa.grp (gof gof_in fits fits_wf IRow intV below_on' below_made ret_bool)
/-- A row of numbers of one's own. -/
def OwnI (w : World) (B : Nat) (v : Value) (l : List Int) : Prop := w.ownsRow B 2 1 v l.length (l.map intV)
theorem OwnI.keep {w w' : World} {B : Nat} {v : Value} {l : List Int} (h : OwnI w B v l) (hk : ∀ g, B ≤ g → g < w.heap.size → w'.heap[g]? = w.heap[g]?) : OwnI w' B v l := by
  rcases h.2 with ⟨e1, e2⟩ | ⟨g, cap, cur, e1, e2, e3, e4⟩
  · exact ⟨h.1, .inl ⟨e1, e2⟩⟩
  · exact ⟨h.1, .inr ⟨g, cap, cur, e1, e2, (hk g e2 (lt_of_get e3)).trans e3, e4⟩⟩
theorem OwnI.base {w : World} {B C : Nat} {v : Value} {l : List Int} (h : OwnI w B v l) (hC : C ≤ B) : OwnI w C v l := by
  rcases h.2 with ⟨e1, e2⟩ | ⟨g, cap, cur, e1, e2, e3, e4⟩
  · exact ⟨h.1, .inl ⟨e1, e2⟩⟩
  · exact ⟨h.1, .inr ⟨g, cap, cur, e1, Nat.le_trans hC e2, e3, e4⟩⟩
def GetOwn (w : World) (L : Rows) (k : Int) (e : Ending) (w' : World) : Prop :=
  (match look L k with
    | none => e = .returned (.tuple #[mkC (0, none, 0, 0), .bool false])
    | some c => ∃ a cap, e = .returned (.tuple #[mkC (c.1, a, c.2.length, cap), .bool true]) ∧ OwnI w' w.heap.size (.slice a c.2.length cap) c.2) ∧ Below w.heap.size w w'
theorem apart_own {w : World} {x : Int} {a : Option Addr} {c : Nat} {l : List Int} (h : Sl w a c l) (hl : l.length ≤ 1000) :
    Calls Try.prog 48 #[.agg #[.int .i64 x, .slice a l.length c]] w fun e w' => ∃ a' c', e = .returned (mkC (x, a', l.length, c')) ∧ OwnI w' w.heap.size (.slice a' l.length c') l ∧ Below w.heap.size w w' := by
  have h' : Sl (((w.alloc (.cells #[.int .i64 x, .slice a l.length c] 69)).alloc (.cells #[.int .i64 0, .slice none 0 0] 69)).drew) a c l := h.below ⟨rfl, rfl, rfl, by simp [World.drew]; omega, fun k hk => by
    show ((w.alloc _).alloc _).heap[k]? = _
    rw [Below.heap_alloc _ _ _ (by simp; omega), Below.heap_alloc _ _ _ hk]⟩
  obtain ⟨v', w', hr, ho, hg⟩ := app_run (B := w.heap.size + 2) (n := 0) (m := []) (World.ownsRow_nil _ _ _ _) h' (by simp; omega) (by simp [World.drew]) 67
  obtain ⟨W, hW⟩ : ∃ W, (w.alloc (.cells #[.int .i64 x, .slice a l.length c] 69)).alloc (.cells #[.int .i64 0, .slice none 0 0] 69) = W := ⟨_, rfl⟩
  have hb : Below w.heap.size w W := by rw [← hW]; exact ((Below.refl _ w).alloc (Nat.le_refl _) _).alloc (by simp) _
  have hs : W.heap.size = w.heap.size + 2 := by rw [← hW]; simp
  have h0 : W.heap[w.heap.size]? = some (.cells #[.int .i64 x, .slice a l.length c] 69 (0, 0)) := by
    rw [← hW, Below.heap_alloc _ _ _ (by simp)]; exact Go.heap_alloc_new w _
  have h1 : W.heap[w.heap.size + 1]? = some (.cells #[.int .i64 0, .slice none 0 0] 69 (0, 0)) := by
    have := Go.heap_alloc_new (w.alloc (.cells #[.int .i64 x, .slice a l.length c] 69)) (.cells #[.int .i64 0, .slice none 0 0] 69)
    rw [World.size_alloc, hW] at this; exact this
  rw [hW] at hr hg
  have hg' : Below W.heap.size W w' := (Below.refl _ W).grown (by exact ⟨hg.os, hg.tape, hg.output, hg.size, hg.block⟩) (Nat.le_refl _) (fun k hk => by cases hk)
  obtain ⟨N, hN⟩ : ∃ N, w.heap.size = N := ⟨_, rfl⟩
  rw [hN] at hb hs h0 h1 ho
  have h0' : w'.heap[N]? = some (.cells #[.int .i64 x, .slice a l.length c] 69 (0, 0)) := (hg'.block N (by omega)).trans h0
  have h1' : w'.heap[N + 1]? = some (.cells #[.int .i64 0, .slice none 0 0] 69 (0, 0)) := (hg'.block (N + 1) (by omega)).trans h1
  have c0 : W.cell? ⟨N, 0, none⟩ = some (.int .i64 x) := by rw [cell_of_row W N 0 _ _ _ h0]; rfl
  have c1 : W.cell? ⟨N, 1, none⟩ = some (.slice a l.length c) := by rw [cell_of_row W N 1 _ _ _ h0]; rfl
  have c0' : w'.cell? ⟨N, 0, none⟩ = some (.int .i64 x) := by rw [cell_of_row w' N 0 _ _ _ h0']; rfl
  have c1' : w'.cell? ⟨N, 1, none⟩ = some (.slice a l.length c) := by rw [cell_of_row w' N 1 _ _ _ h0']; rfl
  have d0 : w'.cell? ⟨N + 1, 0, none⟩ = some (.int .i64 0) := by rw [cell_of_row w' (N + 1) 0 _ _ _ h1']; rfl
  have d1 : w'.cell? ⟨N + 1, 1, none⟩ = some (.slice none 0 0) := by rw [cell_of_row w' (N + 1) 1 _ _ _ h1']; rfl
  have f0 : w'.frozen? ⟨N + 1, 0, none⟩ = false := frozen_of_row w' (N + 1) 0 _ _ h1'
  have f1 : w'.frozen? ⟨N + 1, 1, none⟩ = false := frozen_of_row w' (N + 1) 1 _ _ h1'
  rw [Nat.zero_add, List.nil_append] at ho
  obtain ⟨-, a', c', rfl, hna⟩ := NR.own ho
  have HE : Hid (∀ u, ∃ a'' c'', Ending.returned (mkC (x, a', l.length, c')) = Ending.returned (mkC (x, a'', l.length, c'')) ∧ OwnI ((w'.setCell ⟨N + 1, 0, none⟩ (.int .i64 x)).setCell ⟨N + 1, 1, none⟩ u) N (.slice a'' l.length c'') l ∧ Below N w ((w'.setCell ⟨N + 1, 0, none⟩ (.int .i64 x)).setCell ⟨N + 1, 1, none⟩ u)) := Lib.hid (fun u => ⟨a', c', rfl, ((OwnI.keep (B := N + 2) ho (fun g hg1 _ => by
      rw [Below.heap_setCell _ _ _ _ (show g ≠ N + 1 by omega), Below.heap_setCell _ _ _ _ (show g ≠ N + 1 by omega)])).base (by omega)), ((hb.trans (hg'.mono (by omega))).setCell (by show N ≤ N + 1; omega) _).setCell (by show N ≤ N + 1; omega) _⟩)
  have HN := Lib.hid h1'
  have HNN := Lib.hid hN
  clear h0 h1 h0' h1' hg' ho hna hg hb h h'
  go_enter Try.func48, Try.ntmps48
  go_wp2_with fail
  clear hW hN hs
  refine dsk.wp_region_peel2 (by kernel_rfl) (by simp only [List.dropLast_cons_cons, List.dropLast_singleton]; exact rfl) rfl (by kernel_rfl) ?_
  refine wpAny_of_held (S := fun w' => w'.cell? ⟨N, 0, none⟩ = some (.int .i64 x) ∧ w'.cell? ⟨N, 1, none⟩ = some (.slice a l.length c)) _ _ _ _ ?_
  have hHeld := (show W.drew.cell? ⟨N, 0, none⟩ = some (.int .i64 x) ∧ W.drew.cell? ⟨N, 1, none⟩ = some (.slice a l.length c) from ⟨c0, c1⟩)
  refine wpAnyH_take (i := 0) (v := ?v1) rfl (by kernel_rfl) (by kernel_rfl) (by kernel_rfl) (fun _ _ _ h => h) (Or.inl ⟨by rfl, ?hy1⟩) (by assumption) ?rest1
  case hy1 => (intro w0 hSw; (try dsimp only at hSw); go_simp; try with_reducible rfl)
  try simp only [Act.put, List.getElem_toArray, List.getElem_cons_zero, List.getElem_cons_succ, List.setIfInBounds_toArray, List.set_cons_zero, List.set_cons_succ]
  refine wpAnyH_take (i := 1) (v := ?v2) rfl (by kernel_rfl) (by kernel_rfl) (by kernel_rfl) (fun _ _ _ h => h) (Or.inl ⟨by rfl, ?hy2⟩) (by assumption) ?rest2
  case hy2 => (intro w0 hSw; (try dsimp only at hSw); go_simp; try with_reducible rfl)
  try simp only [Act.put, List.getElem_toArray, List.getElem_cons_zero, List.getElem_cons_succ, List.setIfInBounds_toArray, List.set_cons_zero, List.set_cons_succ]
  refine wpAnyH_take (i := 2) (v := ?v3) rfl (by kernel_rfl) (by kernel_rfl) (by kernel_rfl) (fun _ _ _ h => h) (Or.inl ⟨by rfl, ?hy3⟩) (by assumption) ?rest3
  case hy3 => (intro w0 hSw; (try dsimp only at hSw); go_simp; try with_reducible rfl)
  try simp only [Act.put, List.getElem_toArray, List.getElem_cons_zero, List.getElem_cons_succ, List.setIfInBounds_toArray, List.set_cons_zero, List.set_cons_succ]
  refine wpAnyH_take (i := 3) (v := ?v4) rfl (by kernel_rfl) (by kernel_rfl) (by kernel_rfl) (fun _ _ _ h => h) (Or.inl ⟨by rfl, ?hy4⟩) (by assumption) ?rest4
  case hy4 => (intro w0 hSw; (try dsimp only at hSw); go_simp; try with_reducible rfl)
  try simp only [Act.put, List.getElem_toArray, List.getElem_cons_zero, List.getElem_cons_succ, List.setIfInBounds_toArray, List.set_cons_zero, List.set_cons_succ]
  refine wpAnyH_ready (rs := [4]) (by kernel_rfl) (by simp) ?_
  refine AllReadyH.cons rfl (fun KQ hKQ => ?_) AllReadyH.nil
  refine step_app rfl (Operand.const (.slice none 0 0)) (.tmp 6) 67 rfl rfl (by rfl) hr ?_
  refine hKQ.out _ _ ?_ (fun hHeld => ?_)
  · exact ⟨c0', c1'⟩
  clear hKQ KQ
  try simp only [Act.put, List.getElem_toArray, List.getElem_cons_zero, List.getElem_cons_succ, List.setIfInBounds_toArray, List.set_cons_zero, List.set_cons_succ]
  refine wpAnyH_take (i := 5) (v := ?v5) rfl (by kernel_rfl) (by kernel_rfl) (by kernel_rfl) (fun _ _ _ h => h) (Or.inl ⟨by rfl, ?hy5⟩) (by assumption) ?rest5
  case hy5 => (intro w0 hSw; (try dsimp only at hSw); go_simp; try with_reducible rfl)
  try simp only [Act.put, List.getElem_toArray, List.getElem_cons_zero, List.getElem_cons_succ, List.setIfInBounds_toArray, List.set_cons_zero, List.set_cons_succ]
  refine wpAnyH_done (by kernel_rfl) ?_ _
  change wpList _ _ _ _ _ _
  clear hHeld c0 c1 c0' c1' hr
  have h2 : ((w'.setCell ⟨N + 1, 0, none⟩ (.int .i64 x)).setCell ⟨N + 1, 1, none⟩ (.slice a' l.length c')).heap[N + 1]? = some (.cells #[.int .i64 x, .slice a' l.length c'] 69 (0, 0)) := by
    rw [heap_setCell_same _ (N + 1) 1 #[.int .i64 x, .slice none 0 0] 69 _ (by rw [heap_setCell_same w' (N + 1) 0 _ _ _ HN.out]; rfl)]; rfl
  have e0 := cell_of_row _ (N + 1) 0 _ _ _ h2
  have e1 := cell_of_row _ (N + 1) 1 _ _ _ h2
  go_wp2_with fail
  refine bodyPost_ret (v := mkC (x, a', l.length, c')) (by simp [results, Try.f48, go_sem, e0, e1, mkC]) rfl ?_
  rw [HNN.out]
  exact HE.out _
theorem get_own {w : World} {t b : Nat} {L : Rows} (h : IsTab w t b L) {k : Int} (hk : fits k) : Calls Try.prog 60 #[.pointer (some ⟨t, 0, none⟩), .int .i64 k] w (GetOwn w L k) := by
  have hb0 : Below w.heap.size w (w.alloc (.cells #[.int .i64 0, .slice none 0 0] 69)) := below_made _ _
  have HHAS := Lib.hid (has_any (h.below hb0) hk)
  have hbx := Box2.new w (0, none, 0, 0)
  obtain ⟨W0, hW0⟩ : ∃ W, w.alloc (.cells #[.int .i64 0, .slice none 0 0] 69) = W := ⟨_, rfl⟩
  obtain ⟨N, hN⟩ : ∃ N, w.heap.size = N := ⟨_, rfl⟩
  have HNN := Lib.hid hN
  rw [hW0] at hb0 HHAS
  dsimp only at hbx
  rw [hW0, hN] at hbx
  have HH := Lib.hid (h.below hb0)
  have HB0 := Lib.hid hb0
  have HBX := Lib.hid hbx
  have HK := Lib.hid hk
  clear h hk hb0 hbx
  cases hlk : look L k with
  | none =>
    rw [hlk] at HHAS
    have HE : Hid (∀ w', Below w.heap.size w w' → GetOwn w L k (.returned (.tuple #[mkC (0, none, 0, 0), .bool false])) w') := Lib.hid (fun w' hb => by
      unfold GetOwn; rw [hlk]; exact ⟨rfl, hb⟩)
    clear hlk
    go_enter Try.func60, Try.ntmps60
    go_wp2_with fail
    refine HHAS.out.mono ?_
    rintro e w1 ⟨rfl, hb1⟩
    have HB1 := Lib.hid (below_on' HB0.out hb1)
    have HX1 := Lib.hid (HBX.out.below hb1)
    obtain ⟨c0, c1, f0, f1⟩ := HX1.out.facts
    dsimp only at c0 c1
    obtain ⟨e0, e1, -, -⟩ := (HX1.out.set 0 none 0 0).facts
    dsimp only at e0 e1
    clear hb1
    go_wp2_with fail
    refine bodyPost_ret (v := .tuple #[mkC (0, none, 0, 0), .bool false]) (by simp [results, Try.f60, go_sem, e0, e1, mkC]) rfl ?_
    exact HE.out _ (below_box HB1.out (by rw [HNN.out]; omega) _ _)
  | some c =>
    rw [hlk] at HHAS
    have HLK := Lib.hid hlk
    have HE : Hid (∀ w' a cap, OwnI w' w.heap.size (.slice a c.2.length cap) c.2 → Below w.heap.size w w' → GetOwn w L k (.returned (.tuple #[mkC (c.1, a, c.2.length, cap), .bool true])) w') := Lib.hid (fun w' a cap hna hb => by
      unfold GetOwn; rw [hlk]; exact ⟨⟨a, cap, rfl, hna⟩, hb⟩)
    have HFI := Lib.hid ((HH.out.good.fine hlk).2)
    clear hlk
    go_enter Try.func60, Try.ntmps60
    go_wp2_with fail
    refine HHAS.out.mono ?_
    rintro e w1 ⟨rfl, hb1⟩
    have HB1 := Lib.hid (below_on' HB0.out hb1)
    have HX1 := Lib.hid (HBX.out.below hb1)
    have HH1 := Lib.hid (HH.out.below hb1)
    obtain ⟨a, cap, hna, -, hlo⟩ := HH1.out.map.look_yes HK.out HLK.out
    have HAP := Lib.hid (apart_own (x := c.1) hna.sl (by have := HFI.out.few; omega))
    have m0 := HH1.out.obj.cells.1
    unfold mkC at hlo
    dsimp only at hlo
    clear hb1 hna
    go_wp2_with fail
    refine HAP.out.mono ?_
    rintro e w2 ⟨a2, cap2, rfl, hna2, hb2⟩
    have HB2 := Lib.hid (below_on' HB1.out hb2)
    have HX2 := Lib.hid (HX1.out.below hb2)
    have HNA := Lib.hid (show OwnI ((w2.setCell ⟨N, 0, none⟩ (.int .i64 c.1)).setCell ⟨N, 1, none⟩ (.slice a2 c.2.length cap2)) w.heap.size (.slice a2 c.2.length cap2) c.2 from (OwnI.keep hna2 (fun g hg1 _ => by
      have hlt : N < w1.heap.size := lt_of_get HX1.out
      rw [Below.heap_setCell _ _ _ _ (show g ≠ N by omega), Below.heap_setCell _ _ _ _ (show g ≠ N by omega)])).base HB1.out.size)
    obtain ⟨c0, c1, f0, f1⟩ := HX2.out.facts
    dsimp only at c0 c1
    obtain ⟨e0, e1, -, -⟩ := (HX2.out.set c.1 a2 c.2.length cap2).facts
    dsimp only at e0 e1
    unfold mkC
    dsimp only
    clear hb2 hna2 hlo
    go_wp2_with fail
    refine bodyPost_ret (v := .tuple #[mkC (c.1, a2, c.2.length, cap2), .bool true]) (by simp [results, Try.f60, go_sem, e0, e1, mkC]) rfl ?_
    exact HE.out _ _ _ HNA.out (below_box HB2.out (by rw [HNN.out]; omega) _ _)
end Go.Proofs.Ytamdbfkofdjmlaa.tbl
