/- The reference's files with a change. -/
import Derived.Test.YtdajpaigahhhcaaRb
namespace Go.Proofs.Ytdajpaigahhhcaa.dsk
set_option linter.unusedSimpArgs false
set_option linter.unusedVariables false
open Go.RowKit

theorem eval_put_same {a : Act} {d : Nat} {v : Value} (h : d < a.tmps.size) : (a.put (some d) v).eval (.tmp d) = v := by
  unfold Act.put Act.eval
  simp [h]
theorem eval_put_ne {a : Act} {d e : Nat} {u v : Value} (h : d ≠ e) (hu : a.eval (.tmp e) = u) : (a.put (some d) v).eval (.tmp e) = u := by
  rw [← hu]
  unfold Act.put Act.eval
  simp [h, Array.getElem?_setIfInBounds]
/-- The world behind the three blocks: the files, the change, the result's. -/
structure Mw (w W : World) (f : Files) (cs : List Value) : Prop where
  row : W.rowIs w.heap.size 43 16 (strs f)
  box : W.heap[w.heap.size + 1]? = some (.cells cs.toArray 83 (0, 0))
  out : W.rowIs (w.heap.size + 1 + 1) 43 16 (fun _ => .string ⟨#[]⟩)
  below : Below w.heap.size w W
theorem mw_of (w : World) (f : Files) (cs : List Value) : Mw w (((w.alloc (.cells (row16 (strs f)).toArray 43)).alloc (.cells cs.toArray 83)).alloc (.cells #[.string ⟨#[]⟩, .string ⟨#[]⟩, .string ⟨#[]⟩, .string ⟨#[]⟩, .string ⟨#[]⟩, .string ⟨#[]⟩, .string ⟨#[]⟩, .string ⟨#[]⟩, .string ⟨#[]⟩, .string ⟨#[]⟩, .string ⟨#[]⟩, .string ⟨#[]⟩, .string ⟨#[]⟩, .string ⟨#[]⟩, .string ⟨#[]⟩, .string ⟨#[]⟩] 43)) f cs := by
  have s1 : (w.alloc (.cells (row16 (strs f)).toArray 43)).heap.size = w.heap.size + 1 := World.size_alloc _ _
  have s2 : ((w.alloc (.cells (row16 (strs f)).toArray 43)).alloc (.cells cs.toArray 83)).heap.size = w.heap.size + 1 + 1 := by rw [World.size_alloc, s1]
  refine ⟨?_, ?_, ?_, ((((Below.refl _ w).alloc (Nat.le_refl _) _).alloc (by rw [s1]; omega) _).alloc (by rw [s2]; omega) _)⟩
  · refine World.rowIs.of_block (w := w.alloc (.cells (row16 (strs f)).toArray 43)) ?_ ?_
    · refine World.rowIs_alloc w _ 43 _ fun i hi => ?_
      rw [List.size_toArray, row16_length] at hi
      rw [List.getElem?_toArray, row16_get _ hi]
    · rw [heap_alloc_old _ _ (by rw [s2]; omega), heap_alloc_old _ _ (by rw [s1]; omega)]
  · rw [heap_alloc_old _ _ (by rw [s2]; omega), ← s1]
    exact heap_alloc_new _ _
  · rw [← s2]
    refine World.rowIs_alloc _ _ 43 _ fun i hi => ?_
    have hi' : i < 16 := hi
    have : i = 0 ∨ i = 1 ∨ i = 2 ∨ i = 3 ∨ i = 4 ∨ i = 5 ∨ i = 6 ∨ i = 7 ∨ i = 8 ∨ i = 9 ∨ i = 10 ∨ i = 11 ∨ i = 12 ∨ i = 13 ∨ i = 14 ∨ i = 15 := by omega
    rcases this with rfl | rfl | rfl | rfl | rfl | rfl | rfl | rfl | rfl | rfl | rfl | rfl | rfl | rfl | rfl | rfl <;> rfl
section
variable {w W : World} {f : Files} {cs : List Value}
theorem Mw.drew (h : Mw w W f cs) : Mw w W.drew f cs := ⟨h.row, h.box, h.out, h.below.drew⟩
theorem Mw.store (h : Mw w W f cs) (i : Nat) (s : ByteArray) : Mw w (W.setCell ⟨w.heap.size, i, none⟩ (.string s)) (upd f i s) cs := by
  refine ⟨(h.row.set i (.string s)).congr fun j hj => ?_, ?_, h.out.of_block (heap_setCell_other W _ _ _ (by show w.heap.size + 1 + 1 ≠ w.heap.size; omega)), h.below.setCell (Nat.le_refl _) _⟩
  · unfold strs upd
    by_cases e : j = i
    · rw [if_pos e, if_pos e]
    · rw [if_neg e, if_neg e]
  · rw [heap_setCell_other W _ _ _ (by show w.heap.size + 1 ≠ w.heap.size; omega)]
    exact h.box
theorem Mw.cell (h : Mw w W f cs) {i : Nat} (hi : i < 16) : W.cell? ⟨w.heap.size, i, none⟩ = some (.string (f i)) := by rw [h.row.cell hi]; rfl
theorem Mw.arg (h : Mw w W f cs) {j : Nat} {v : Value} (hj : cs[j]? = some v) : W.cell? ⟨w.heap.size + 1, j, none⟩ = some v := by
  rw [cell_of_row _ _ _ _ _ _ h.box]; simpa using hj
theorem Mw.range (h : Mw w W f cs) : W.rangeAt w.heap.size 0 (row16 (strs f)) := range_of_row h.row (by decide) fun i _ => by rw [Nat.zero_add]
theorem Mw.there (h : Mw w W f cs) : W.there (w.heap.size + 1 + 1) 0 16 := there_of_row h.out (by decide)
/-- What stands in the result's cells at the end. -/
theorem Mw.done (h : Mw w W f cs) : Below w.heap.size w (W.setCells (w.heap.size + 1 + 1) 0 (row16 (strs f))) ∧ (W.setCells (w.heap.size + 1 + 1) 0 (row16 (strs f))).rangeAt (w.heap.size + 1 + 1) 0 (row16 (strs f)) := by
  refine ⟨h.below.trans ((only_setCells (w.heap.size + 1 + 1) (row16 (strs f)) 0 W).below h.below.size fun k hk => by rw [hk]; omega), World.rangeAt_setCells_same W _ 0 _ ?_⟩
  rw [row16_length]
  exact h.there
end
theorem size16 (vs : Nat → Value) : (row16 vs).toArray.size = 16 := by simp [row16]
/-- The result is laid. -/
theorem made_end {w W : World} {f : Files} {cs : List Value} (h : Mw w W f cs) {ops : Array Oper} {o1 o2 : Oper} {Q : Exit → Act → World → Prop} {a : Act} (e1 : o1.op = .load 43 (.tmp 3)) (d1 : o1.dst = some 57) (g1 : o1.guard = none) (e2 : o2.op = .store 43 (.tmp 6) (.tmp 57)) (d2 : o2.dst = none) (g2 : o2.guard = none)
    (h3 : a.eval (.tmp 3) = .pointer (some ⟨w.heap.size, 0, none⟩)) (h6 : a.eval (.tmp 6) = .pointer (some ⟨w.heap.size + 1 + 1, 0, none⟩)) (hs : 57 < a.tmps.size)
    (hk : ∀ v W3, Hid (Below w.heap.size w W3 ∧ W3.rangeAt (w.heap.size + 1 + 1) 0 (row16 (strs f))) → wpList Try.prog ops Q [] (a.put (some 57) v) W3) : wpList Try.prog ops Q [o1, o2] a W := by
  refine wpList_load_mid g1 43 (.tmp 3) e1 w.heap.size 0 h3 (row16 (strs f)) _ h.range Try.underlying43 rfl (by rw [row16_length]; exact info43) ?_
  rw [d1]
  refine wpList_store_mid g2 43 (.tmp 6) (.tmp 57) e2 (w.heap.size + 1 + 1) 0 (row16 (strs f)).toArray (eval_put_ne (by decide) h6) (eval_put_same hs) (by rw [size16]; exact h.there) (by rw [size16]; exact info43) (strs_one f) ?_
  rw [d2]
  exact hk _ _ (Lib.hid h.done)
theorem results_made {tmps : Array Value} {W : World} {b : Nat} {f : Files} (h6 : tmps.getD 6 undef = .pointer (some ⟨b, 0, none⟩)) (hr : W.rangeAt b 0 (row16 (strs f))) : (results Try.f49 tmps).run Try.prog W = .ok (.agg (row16 (strs f)).toArray) W := by
  have hl := run_loadVar_mid (P := Try.prog) W b 0 43 (row16 (strs f)) _ hr Try.underlying43 rfl (by rw [row16_length]; exact info43)
  have e : Try.f49.results = #[.cell 6 43] := rfl
  unfold results
  rw [e]
  have h6' : asAddr (tmps.getD 6 undef) = pure ⟨b, 0, none⟩ := by rw [h6]; rfl
  rw [Array.getD_eq_getD_getElem?] at h6
  simp [h6, asAddr, Sem.run_bind, hl]
set_option maxHeartbeats 1600000 in
set_option maxRecDepth 100000 in
theorem made_cut (f : Files) (i n : Nat) (b : Int) (w : World) (hi : i < 16) (hn : n ≤ (f i).size) :
    Calls Try.prog 49 #[.agg (row16 (strs f)).toArray, .agg #[.int .i64 2, .int .i64 i, .int .i64 n, .string ⟨#[]⟩], .int .i64 b] w fun e w' => e = .returned (.agg (row16 (strs (doIt f (.cut i n)))).toArray) ∧ Below w.heap.size w w' := by
  have HM := mw_of w f [.int .i64 2, .int .i64 i, .int .i64 n, .string ⟨#[]⟩]
  have HD := Lib.hid (fun (_ : Unit) => (show upd f i ((f i).extract 0 n) = doIt f (.cut i n) from rfl))
  obtain ⟨f', hf'⟩ : ∃ f', doIt f (.cut i n) = f' := ⟨_, rfl⟩
  rw [hf'] at HD ⊢
  obtain ⟨t, ht⟩ : ∃ t, f i = t := ⟨_, rfl⟩
  rw [ht] at HD hn
  obtain ⟨fa, hfa⟩ : ∃ fa, (row16 (strs f)).toArray = fa := ⟨_, rfl⟩
  rw [hfa] at HM ⊢
  have HM := Lib.hid HM
  have HT := Lib.hid ht
  have hi0 : (0 : Int) ≤ (i : Int) := by omega
  have hi1 : (i : Int) < 16 := by omega
  have hn0 : (0 : Int) ≤ (n : Int) := by omega
  have hn1 : (n : Int) ≤ (t.size : Int) := by omega
  have HI := Lib.hid hi
  clear hfa hf' ht hn hi
  go_enter Try.func49, Try.ntmps49
  go_wp2_with fail
  obtain ⟨W, hW⟩ : ∃ W, (((w.alloc (.cells fa 43)).alloc (.cells #[.int .i64 2, .int .i64 i, .int .i64 n, .string ⟨#[]⟩] 83)).alloc (.cells #[.string ⟨#[]⟩, .string ⟨#[]⟩, .string ⟨#[]⟩, .string ⟨#[]⟩, .string ⟨#[]⟩, .string ⟨#[]⟩, .string ⟨#[]⟩, .string ⟨#[]⟩, .string ⟨#[]⟩, .string ⟨#[]⟩, .string ⟨#[]⟩, .string ⟨#[]⟩, .string ⟨#[]⟩, .string ⟨#[]⟩, .string ⟨#[]⟩, .string ⟨#[]⟩] 43)) = W := ⟨_, rfl⟩
  rw [hW] at HM ⊢
  clear hW
  have HS := Lib.hid (And.intro (HM.out.arg (j := 1) rfl) (And.intro (HM.out.arg (j := 2) rfl) (show W.cell? ⟨w.heap.size, i, none⟩ = some (.string t) by rw [HM.out.cell HI.out, HT.out])))
  have hfz := HM.out.row.frozen i
  refine wp_region_peel2 (by kernel_rfl) (by simp only [List.dropLast_cons_cons, List.dropLast_singleton]; exact rfl) rfl (by kernel_rfl) ?_
  refine wpAny_of_held (S := fun W => W.cell? ⟨w.heap.size + 1, 1, none⟩ = some (.int .i64 i) ∧ W.cell? ⟨w.heap.size + 1, 2, none⟩ = some (.int .i64 n) ∧ W.cell? ⟨w.heap.size, i, none⟩ = some (.string t)) _ _ _ _ ?_
  have hHeld := HS.out
  refine wpAnyH_take (i := 0) (v := ?v1) rfl (by kernel_rfl) (by kernel_rfl) (by kernel_rfl) (fun _ _ _ h => h) (Or.inl ⟨by rfl, ?hy1⟩) (by assumption) ?rest1
  case hy1 => (intro w0 hSw; (try dsimp only at hSw); go_simp; try with_reducible rfl)
  try simp only [Act.put, List.getElem_toArray, List.getElem_cons_zero, List.getElem_cons_succ, List.setIfInBounds_toArray, List.set_cons_zero, List.set_cons_succ]
  refine wpAnyH_take (i := 1) (v := ?v2) rfl (by kernel_rfl) (by kernel_rfl) (by kernel_rfl) (fun _ _ _ h => h) (Or.inl ⟨by rfl, ?hy2⟩) (by assumption) ?rest2
  case hy2 => (intro w0 hSw; (try dsimp only at hSw); go_simp; try with_reducible rfl)
  try simp only [Act.put, List.getElem_toArray, List.getElem_cons_zero, List.getElem_cons_succ, List.setIfInBounds_toArray, List.set_cons_zero, List.set_cons_succ]
  refine wpAnyH_take (i := 2) (v := ?v3) rfl (by kernel_rfl) (by kernel_rfl) (by kernel_rfl) (fun _ _ _ h => h) (Or.inl ⟨by rfl, ?hy3⟩) (by assumption) ?rest3
  case hy3 => (intro w0 hSw; (try dsimp only at hSw); go_simp; try with_reducible rfl)
  try simp only [Act.put, List.getElem_toArray, List.getElem_cons_zero, List.getElem_cons_succ, List.setIfInBounds_toArray, List.set_cons_zero, List.set_cons_succ]
  refine wpAnyH_take (i := 3) (v := ?v4) rfl (by kernel_rfl) (by kernel_rfl) (by kernel_rfl) (fun _ _ _ h => h) (Or.inl ⟨by rfl, ?hy4⟩) (by assumption) ?rest4
  case hy4 => (intro w0 hSw; (try dsimp only at hSw); go_simp; try with_reducible rfl)
  try simp only [Act.put, List.getElem_toArray, List.getElem_cons_zero, List.getElem_cons_succ, List.setIfInBounds_toArray, List.set_cons_zero, List.set_cons_succ]
  refine wpAnyH_take (i := 4) (v := ?v5) rfl (by kernel_rfl) (by kernel_rfl) (by kernel_rfl) (fun _ _ _ h => h) (Or.inl ⟨by rfl, ?hy5⟩) (by assumption) ?rest5
  case hy5 => (intro w0 hSw; (try dsimp only at hSw); go_simp; try with_reducible rfl)
  try simp only [Act.put, List.getElem_toArray, List.getElem_cons_zero, List.getElem_cons_succ, List.setIfInBounds_toArray, List.set_cons_zero, List.set_cons_succ]
  refine wpAnyH_take (i := 5) (v := ?v6) rfl (by kernel_rfl) (by kernel_rfl) (by kernel_rfl) (fun _ _ _ h => h) (Or.inl ⟨by rfl, ?hy6⟩) (by assumption) ?rest6
  case hy6 => (intro w0 hSw; (try dsimp only at hSw); go_simp; try with_reducible rfl)
  try simp only [Act.put, List.getElem_toArray, List.getElem_cons_zero, List.getElem_cons_succ, List.setIfInBounds_toArray, List.set_cons_zero, List.set_cons_succ]
  refine wpAnyH_take (i := 6) (v := ?v7) rfl (by kernel_rfl) (by kernel_rfl) (by kernel_rfl) (fun _ _ _ h => h) (Or.inl ⟨by rfl, ?hy7⟩) (by assumption) ?rest7
  case hy7 => (intro w0 hSw; (try dsimp only at hSw); go_simp; try with_reducible rfl)
  try simp only [Act.put, List.getElem_toArray, List.getElem_cons_zero, List.getElem_cons_succ, List.setIfInBounds_toArray, List.set_cons_zero, List.set_cons_succ]
  refine wpAnyH_take (i := 7) (v := ?v8) rfl (by kernel_rfl) (by kernel_rfl) (by kernel_rfl) (fun _ _ _ h => h) (Or.inl ⟨by rfl, ?hy8⟩) (by assumption) ?rest8
  case hy8 => (intro w0 hSw; (try dsimp only at hSw); go_simp; try with_reducible rfl)
  try simp only [Act.put, List.getElem_toArray, List.getElem_cons_zero, List.getElem_cons_succ, List.setIfInBounds_toArray, List.set_cons_zero, List.set_cons_succ]
  refine wpAnyH_take (i := 8) (v := ?v9) rfl (by kernel_rfl) (by kernel_rfl) (by kernel_rfl) (fun _ _ _ h => h) (Or.inl ⟨by rfl, ?hy9⟩) (by assumption) ?rest9
  case hy9 => (intro w0 hSw; (try dsimp only at hSw); go_simp; try with_reducible rfl)
  try simp only [Act.put, List.getElem_toArray, List.getElem_cons_zero, List.getElem_cons_succ, List.setIfInBounds_toArray, List.set_cons_zero, List.set_cons_succ]
  refine wpAnyH_take (i := 9) (v := ?v10) rfl (by kernel_rfl) (by kernel_rfl) (by kernel_rfl) (fun _ _ _ h => h) (Or.inl ⟨by rfl, ?hy10⟩) (by assumption) ?rest10
  case hy10 => (intro w0 hSw; (try dsimp only at hSw); go_simp; try with_reducible rfl)
  try simp only [Act.put, List.getElem_toArray, List.getElem_cons_zero, List.getElem_cons_succ, List.setIfInBounds_toArray, List.set_cons_zero, List.set_cons_succ]
  refine wpAnyH_done (by kernel_rfl) ?_ _
  change wpList _ _ _ _ _ _
  have HM2 := Lib.hid (HM.out.store i (t.extract 0 n)).drew
  rw [HD.out ()] at HM2
  obtain ⟨W2, hW2⟩ : ∃ W2, (W.setCell ⟨w.heap.size, i, none⟩ (.string (t.extract 0 n))).drew = W2 := ⟨_, rfl⟩
  rw [hW2] at HM2
  have HW2 := Lib.hid hW2
  clear hW2
  go_wp2_with (rw [HW2.out]; refine made_end HM2.out rfl rfl rfl rfl rfl rfl (by simp [Act.eval]) (by simp [Act.eval]) (by simp) ?_; intro V3 W3 HE)
  refine bodyPost_ret (v := .agg (row16 (strs f')).toArray) (results_made (by simp [Act.put]) HE.out.2) rfl ?_
  exact ⟨rfl, HE.out.1⟩
set_option maxHeartbeats 1600000 in
set_option maxRecDepth 100000 in
theorem made_mov (f : Files) (a b : Nat) (k : Int) (w : World) (ha : a < 16) (hb : b < 16) :
    Calls Try.prog 49 #[.agg (row16 (strs f)).toArray, .agg #[.int .i64 3, .int .i64 a, .int .i64 b, .string ⟨#[]⟩], .int .i64 k] w fun e w' => e = .returned (.agg (row16 (strs (doIt f (.mov a b)))).toArray) ∧ Below w.heap.size w w' := by
  have HM := mw_of w f [.int .i64 3, .int .i64 a, .int .i64 b, .string ⟨#[]⟩]
  have HD := Lib.hid (fun (_ : Unit) => (show upd (upd f b (f a)) a ⟨#[]⟩ = doIt f (.mov a b) from rfl))
  obtain ⟨f', hf'⟩ : ∃ f', doIt f (.mov a b) = f' := ⟨_, rfl⟩
  rw [hf'] at HD ⊢
  obtain ⟨t, ht⟩ : ∃ t, f a = t := ⟨_, rfl⟩
  rw [ht] at HD
  obtain ⟨fa, hfa⟩ : ∃ fa, (row16 (strs f)).toArray = fa := ⟨_, rfl⟩
  rw [hfa] at HM ⊢
  have HM := Lib.hid HM
  have HT := Lib.hid ht
  have ha0 : (0 : Int) ≤ (a : Int) := by omega
  have ha1 : (a : Int) < 16 := by omega
  have hb0 : (0 : Int) ≤ (b : Int) := by omega
  have hb1 : (b : Int) < 16 := by omega
  have HI := Lib.hid (And.intro ha hb)
  clear hfa hf' ht ha hb
  go_enter Try.func49, Try.ntmps49
  go_wp2_with fail
  obtain ⟨W, hW⟩ : ∃ W, (((w.alloc (.cells fa 43)).alloc (.cells #[.int .i64 3, .int .i64 a, .int .i64 b, .string ⟨#[]⟩] 83)).alloc (.cells #[.string ⟨#[]⟩, .string ⟨#[]⟩, .string ⟨#[]⟩, .string ⟨#[]⟩, .string ⟨#[]⟩, .string ⟨#[]⟩, .string ⟨#[]⟩, .string ⟨#[]⟩, .string ⟨#[]⟩, .string ⟨#[]⟩, .string ⟨#[]⟩, .string ⟨#[]⟩, .string ⟨#[]⟩, .string ⟨#[]⟩, .string ⟨#[]⟩, .string ⟨#[]⟩] 43)) = W := ⟨_, rfl⟩
  rw [hW] at HM ⊢
  clear hW
  have HS := Lib.hid (And.intro (HM.out.arg (j := 1) rfl) (And.intro (HM.out.arg (j := 2) rfl) (show W.cell? ⟨w.heap.size, a, none⟩ = some (.string t) by rw [HM.out.cell HI.out.1, HT.out])))
  have hfz := HM.out.row.frozen b
  have hcz := HM.out.cell HI.out.2
  refine wp_region_peel2 (by kernel_rfl) (by simp only [List.dropLast_cons_cons, List.dropLast_singleton]; exact rfl) rfl (by kernel_rfl) ?_
  refine wpAny_of_held (S := fun W => W.cell? ⟨w.heap.size + 1, 1, none⟩ = some (.int .i64 a) ∧ W.cell? ⟨w.heap.size + 1, 2, none⟩ = some (.int .i64 b) ∧ W.cell? ⟨w.heap.size, a, none⟩ = some (.string t)) _ _ _ _ ?_
  have hHeld := HS.out
  refine wpAnyH_take (i := 0) (v := ?v11) rfl (by kernel_rfl) (by kernel_rfl) (by kernel_rfl) (fun _ _ _ h => h) (Or.inl ⟨by rfl, ?hy11⟩) (by assumption) ?rest11
  case hy11 => (intro w0 hSw; (try dsimp only at hSw); go_simp; try with_reducible rfl)
  try simp only [Act.put, List.getElem_toArray, List.getElem_cons_zero, List.getElem_cons_succ, List.setIfInBounds_toArray, List.set_cons_zero, List.set_cons_succ]
  refine wpAnyH_take (i := 1) (v := ?v12) rfl (by kernel_rfl) (by kernel_rfl) (by kernel_rfl) (fun _ _ _ h => h) (Or.inl ⟨by rfl, ?hy12⟩) (by assumption) ?rest12
  case hy12 => (intro w0 hSw; (try dsimp only at hSw); go_simp; try with_reducible rfl)
  try simp only [Act.put, List.getElem_toArray, List.getElem_cons_zero, List.getElem_cons_succ, List.setIfInBounds_toArray, List.set_cons_zero, List.set_cons_succ]
  refine wpAnyH_take (i := 2) (v := ?v13) rfl (by kernel_rfl) (by kernel_rfl) (by kernel_rfl) (fun _ _ _ h => h) (Or.inl ⟨by rfl, ?hy13⟩) (by assumption) ?rest13
  case hy13 => (intro w0 hSw; (try dsimp only at hSw); go_simp; try with_reducible rfl)
  try simp only [Act.put, List.getElem_toArray, List.getElem_cons_zero, List.getElem_cons_succ, List.setIfInBounds_toArray, List.set_cons_zero, List.set_cons_succ]
  refine wpAnyH_take (i := 3) (v := ?v14) rfl (by kernel_rfl) (by kernel_rfl) (by kernel_rfl) (fun _ _ _ h => h) (Or.inl ⟨by rfl, ?hy14⟩) (by assumption) ?rest14
  case hy14 => (intro w0 hSw; (try dsimp only at hSw); go_simp; try with_reducible rfl)
  try simp only [Act.put, List.getElem_toArray, List.getElem_cons_zero, List.getElem_cons_succ, List.setIfInBounds_toArray, List.set_cons_zero, List.set_cons_succ]
  refine wpAnyH_take (i := 4) (v := ?v15) rfl (by kernel_rfl) (by kernel_rfl) (by kernel_rfl) (fun _ _ _ h => h) (Or.inl ⟨by rfl, ?hy15⟩) (by assumption) ?rest15
  case hy15 => (intro w0 hSw; (try dsimp only at hSw); go_simp; try with_reducible rfl)
  try simp only [Act.put, List.getElem_toArray, List.getElem_cons_zero, List.getElem_cons_succ, List.setIfInBounds_toArray, List.set_cons_zero, List.set_cons_succ]
  refine wpAnyH_take (i := 5) (v := ?v16) rfl (by kernel_rfl) (by kernel_rfl) (by kernel_rfl) (fun _ _ _ h => h) (Or.inl ⟨by rfl, ?hy16⟩) (by assumption) ?rest16
  case hy16 => (intro w0 hSw; (try dsimp only at hSw); go_simp; try with_reducible rfl)
  try simp only [Act.put, List.getElem_toArray, List.getElem_cons_zero, List.getElem_cons_succ, List.setIfInBounds_toArray, List.set_cons_zero, List.set_cons_succ]
  refine wpAnyH_take (i := 6) (v := ?v17) rfl (by kernel_rfl) (by kernel_rfl) (by kernel_rfl) (fun _ _ _ h => h) (Or.inl ⟨by rfl, ?hy17⟩) (by assumption) ?rest17
  case hy17 => (intro w0 hSw; (try dsimp only at hSw); go_simp; try with_reducible rfl)
  try simp only [Act.put, List.getElem_toArray, List.getElem_cons_zero, List.getElem_cons_succ, List.setIfInBounds_toArray, List.set_cons_zero, List.set_cons_succ]
  refine wpAnyH_done (by kernel_rfl) ?_ _
  change wpList _ _ _ _ _ _
  have HM2 := Lib.hid (HM.out.store b t).drew
  obtain ⟨W2, hW2⟩ : ∃ W2, (W.setCell ⟨w.heap.size, b, none⟩ (.string t)).drew = W2 := ⟨_, rfl⟩
  rw [hW2] at HM2
  have HW2 := Lib.hid hW2
  clear hW2
  have HF2 := Lib.hid (And.intro (HM2.out.arg (j := 1) rfl) (And.intro (HM2.out.row.frozen a) (HM2.out.cell HI.out.1)))
  have HM4 := Lib.hid (HM2.out.store a ⟨#[]⟩)
  rw [HD.out ()] at HM4
  obtain ⟨W4, hW4⟩ : ∃ W4, (W2.setCell ⟨w.heap.size, a, none⟩ (.string ⟨#[]⟩)) = W4 := ⟨_, rfl⟩
  rw [hW4] at HM4
  have HW4 := Lib.hid hW4
  clear hW4
  go_wp2_with (first | (rw [HW2.out]; obtain ⟨hq1, hq2, hq3⟩ := HF2.out) | (rw [HW4.out]; refine made_end HM4.out rfl rfl rfl rfl rfl rfl (by simp [Act.eval]) (by simp [Act.eval]) (by simp) ?_; intro V3 W3 HE))
  refine bodyPost_ret (v := .agg (row16 (strs f')).toArray) (results_made (by simp [Act.put]) HE.out.2) rfl ?_
  exact ⟨rfl, HE.out.1⟩
end Go.Proofs.Ytdajpaigahhhcaa.dsk
