/- A row that is changed behind a table changes no table. -/
import Derived.Test.YtghpbhcnblninaaTbV
import Derived.Test.YtghpbhcnblninaaToC
namespace Go.Proofs.Ytghpbhcnblninaa.tbl.own
set_option linter.unusedSimpArgs false
set_option linter.unusedVariables false
set_option linter.unusedSectionVars false
open Go.RowKit
attribute [local go_sem ↓] Go.wp_at_zero Go.wp_at_succ
open Go.Proofs.Ytghpbhcnblninaa.grp (gof gof_in fits fits_wf IRow intV below_on' below_made ret_bool own_below)
theorem set_obj {w : World} {b i : Nat} {cs : Array Value} {T : TypeId} {fr : Nat × Nat} (hb : w.heap[b]? = some (.cells cs T fr)) (v : Value) :
    (w.setCell ⟨b, i, none⟩ v).heap[b]? = some (.cells (cs.setIfInBounds i v) T fr) := by
  simp [World.setCell, Array.getElem?_modify, hb]
theorem obj_of_cell {w : World} {g o : Nat} {u : Value} (h : w.cell? ⟨g, o, none⟩ = some u) : ∃ c e fr, w.heap[g]? = some (.cells c e fr) ∧ c[o]? = some u := by
  unfold World.cell? at h
  split at h
  · rename_i cs e fr hh
    exact ⟨cs, e, fr, hh, by simpa using h⟩
  · cases h
theorem cell_of_obj {w : World} {g o : Nat} {cs : Array Value} {T : TypeId} {fr : Nat × Nat} (h : w.heap[g]? = some (.cells cs T fr)) : w.cell? ⟨g, o, none⟩ = cs[o]? := by
  simp [World.cell?, h]
theorem set_back {cs : Array Value} {o : Nat} {u v : Value} (h : cs[o]? = some u) : (cs.setIfInBounds o v).setIfInBounds o u = cs := by
  apply Array.ext_getElem?
  intro i
  rw [Array.getElem?_setIfInBounds, Array.getElem?_setIfInBounds]
  by_cases hi : o = i
  · subst hi
    obtain ⟨h1, h2⟩ := Array.getElem?_eq_some_iff.1 h
    simp [h1, h2]
  · simp [hi]
theorem put_one {l : List Int} (h : l.length ≤ 16) (key : Int) : putO [] key (0, l) = (0, [(key, (0, l))]) := by
  unfold putO
  rw [if_neg (by simpa using h), if_neg (by simp [cnt_nil])]
  rfl
theorem look_one (key : Int) (c : Cl) : look [(key, c)] key = some c := by rw [look_cons, if_pos rfl]
theorem back_below {w W3 W8 : World} {B g o : Nat} {cs : Array Value} {T : TypeId} {fr : Nat × Nat} {u v : Value} (hB : B ≤ w.heap.size) (hg : w.heap[g]? = some (.cells cs T fr)) (hu : cs[o]? = some u)
    (h3 : W3.heap[g]? = some (.cells (cs.setIfInBounds o v) T fr)) (ho : Only (· = g) w W8) (h8 : W8.heap[g]? = W3.heap[g]?) : Below B w (W8.setCell ⟨g, o, none⟩ u) :=
  ⟨ho.os, ho.tape, ho.output, by simp [World.setCell]; exact ho.size, fun k hk => by
    by_cases he : k = g
    · subst he
      rw [set_obj (h8.trans h3), set_back hu, hg]
    · rw [Below.heap_setCell _ _ _ _ he]
      exact ho.block k (by omega) he⟩
set_option maxHeartbeats 6400000 in
set_option maxRecDepth 1000000 in
theorem law_own (key : Int) (l : List Int) (a : Option Addr) (cap : Nat) (by0 : Int) (w : World) (hk : fits key) (hf : ∀ n ∈ l, fits n) (hr : tbl.Row w w.heap.size a cap l) (hl : l.length ≤ cap) (hc : cap ≤ maxLen) (hz : 0 < l.length → ∀ ad, a = some ad → w.frozen? ad = false) :
    Calls Try.prog 8 #[.int .i64 key, .slice a l.length cap, .int .i64 by0] w fun e w' => e = .returned (.bool true) ∧ Below w.heap.size w w' := by
  letI : Lim := ⟨w.heap.size⟩
  obtain ⟨n, hn⟩ : ∃ n, l.length = n := ⟨_, rfl⟩
  have HN := Lib.hid hn
  have HR := Lib.hid hr
  have HF := Lib.hid hf
  have HZ := Lib.hid hz
  rw [hn] at hl ⊢
  clear hr hf hz hn
  by_cases h1 : n < 1
  · have h1i : (n : Int) < 1 := by omega
    go_enter Try.func8, Try.ntmps8
    go_wp2_with fail
    refine (works_any _).mono ?_
    rintro e w2 ⟨rfl, hb⟩
    have HB := Lib.hid hb
    clear hb
    go_wp2_with fail
    go_ret
    exact ⟨rfl, HB.out⟩
  by_cases h2 : 16 < n
  · have h1i : ¬ ((n : Int) < 1) := by omega
    have h2i : 16 < (n : Int) := by omega
    go_enter Try.func8, Try.ntmps8
    go_wp2_with fail
    refine (works_any _).mono ?_
    rintro e w2 ⟨rfl, hb⟩
    have HB := Lib.hid hb
    clear hb
    go_wp2_with fail
    go_ret
    exact ⟨rfl, HB.out⟩
  have h1i : ¬ ((n : Int) < 1) := by omega
  have h2i : ¬ (16 < (n : Int)) := by omega
  have h0n : 0 < (n : Int) := by omega
  have h0l : 0 < l.length := by rw [HN.out]; omega
  obtain ⟨g, o, rfl, hgl, hgc⟩ := HR.out.2 h0l
  have hc0 := hgc 0 h0l
  rw [Nat.add_zero] at hc0
  obtain ⟨x0, hx0⟩ : ∃ x, l[0] = x := ⟨_, rfl⟩
  have HX0 := Lib.hid hx0
  rw [hx0] at hc0
  obtain ⟨cs, T, fr, hgo, hco⟩ := obj_of_cell hc0
  have HGO := Lib.hid hgo
  have HCO := Lib.hid hco
  have HGL := Lib.hid hgl
  have HFZ : Hid (w.frozen? ⟨g, o, none⟩ = false) := Lib.hid (HZ.out h0l _ rfl)
  have HO1 := Lib.hid (put_one (l := l) (by rw [HN.out]; omega) key)
  have HLL := Lib.hid h0l
  clear h1 h2 hgc hc0 hx0 hgo hco hgl
  go_enter Try.func8, Try.ntmps8
  go_wp2_with fail
  refine (new_any w (Nat.le_refl _)).mono ?_
  rintro e w1 ⟨t, b, rfl, ht, hwt, hwb, hb⟩
  have HT := Lib.hid ht
  have HB := Lib.hid hb
  have hd1 : w1.cell? ⟨g, o, none⟩ = some (.int .i64 x0) := (hb.cell (p := ⟨g, o, none⟩) HGL.out).trans ((cell_of_obj HGO.out).trans HCO.out)
  have HPU := Lib.hid (put_any (k := key) ht hk (x := 0) (fits_small (by omega) (by omega)) HF.out ((HR.out.below hb).sl hb.size) ((HR.out.below hb).ne hwt) (by rw [HN.out]; omega))
  unfold PutPost at HPU
  rw [HO1.out, HN.out] at HPU
  clear ht hb
  go_wp2_with fail
  refine HPU.out.mono ?_
  rintro e w2 ⟨rfl, ht, ho⟩
  have HT2 := Lib.hid ht
  have HB2 := Lib.hid (HB.out.trans (ho.below HB.out.size (fun k hk => by rcases hk with e | e <;> subst e <;> assumption)))
  clear ht ho hd1
  have hgt : g ≠ t := by have := HGL.out; omega
  have hgb : g ≠ b := by have := HGL.out; omega
  have h2o : w2.heap[g]? = some (.cells cs T fr) := (HB2.out.block g HGL.out).trans HGO.out
  have hd2 : w2.cell? ⟨g, o, none⟩ = some (.int .i64 x0) := (cell_of_obj h2o).trans HCO.out
  have hf2 : w2.frozen? ⟨g, o, none⟩ = false := (World.frozen?_of_block (HB2.out.block g HGL.out)).trans HFZ.out
  obtain ⟨X, hX⟩ : ∃ X, IntKind.i64.wrap (x0 + by0) = X := ⟨_, rfl⟩
  obtain ⟨W3, hW3⟩ : ∃ W, w2.setCell ⟨g, o, none⟩ (.int .i64 X) = W := ⟨_, rfl⟩
  have HW3 := Lib.hid hW3
  have ho3 : Only (· = g) w2 W3 := by rw [← hW3]; exact Only.setCell w2 g o _
  have HO3 := Lib.hid ((Only.of_below (F := (· = g)) (HB2.out.mono (Nat.le_refl _))).then ho3)
  have H3G : Hid (W3.heap[g]? = some (.cells (cs.setIfInBounds o (.int .i64 X)) T fr)) := Lib.hid (by rw [← hW3]; exact set_obj h2o _)
  have H3Z : Hid (W3.heap.size = w2.heap.size) := Lib.hid (by rw [← hW3]; simp [World.setCell])
  have HT3 : Hid (IsTab W3 t b [(key, (0, l))]) := Lib.hid (HT2.out.keep (ho3.block t HT2.out.lt.1 hgt.symm) (ho3.block b HT2.out.lt.2.1 hgb.symm) (fun g' cur fr' hm hg => (ho3.block g' (lt_of_get hg) (fun e => by have h9 : w.heap.size ≤ g' := hm; have := HGL.out; omega)).trans hg))
  have HGE := Lib.hid (get_any HT3.out hk)
  unfold GetPost at HGE
  rw [look_one] at HGE
  dsimp only at HGE
  rw [HN.out] at HGE
  clear ho3 h2o hW3
  go_wp2_with fail
  try rw [hX]
  rw [HW3.out]
  refine HGE.out.mono ?_
  rintro e w4 ⟨⟨a2, c2, rfl, hna, hfr⟩, hb4⟩
  obtain ⟨g2, o2, cur2, fr2, rfl, hh2, ⟨-, rfl⟩, hcc2⟩ := hna.1 HLL.out
  have hg2 : W3.heap.size ≤ g2 := hfr HLL.out _ rfl
  have hc2 := hcc2 0 HLL.out
  rw [Nat.add_zero, HX0.out] at hc2
  unfold mkC
  dsimp only
  obtain ⟨W5, hW5⟩ : ∃ W, w4.alloc (.cells #[.int .i64 0, .slice (some ⟨g2, o2, none⟩) n c2] 32) = W := ⟨_, rfl⟩
  have HW5 := Lib.hid hW5
  have h5b : Below W3.heap.size W3 W5 := by rw [← hW5]; exact hb4.alloc hb4.size _
  have h5o : W5.heap[g2]? = some (.cells cur2 2 (0, 0)) := by rw [← hW5, Below.heap_alloc _ _ _ (lt_of_get hh2)]; exact hh2
  have hd5 : W5.cell? ⟨g2, o2, none⟩ = some (.int .i64 x0) := (cell_of_obj h5o).trans hc2
  have hf5 : W5.frozen? ⟨g2, o2, none⟩ = false := frozen_of_row W5 g2 o2 _ _ h5o
  obtain ⟨W6, hW6⟩ : ∃ W, W5.setCell ⟨g2, o2, none⟩ (.int .i64 by0) = W := ⟨_, rfl⟩
  have HW6 := Lib.hid hW6
  have h6b : Below W3.heap.size W3 W6 := by rw [← hW6]; exact h5b.setCell (by exact hg2) _
  have HB6 := Lib.hid h6b
  have HT6 := Lib.hid (HT3.out.below h6b)
  have HGE6 := Lib.hid (get_any HT6.out hk)
  unfold GetPost at HGE6
  rw [look_one] at HGE6
  dsimp only at HGE6
  rw [HN.out] at HGE6
  rw [← hW5] at hd5 hf5
  clear hna hfr hb4 hh2 hcc2 hc2 h5b h5o h6b hW6 hW5
  go_wp2_with fail
  rw [HW5.out, HW6.out]
  refine HGE6.out.mono ?_
  rintro e w7 ⟨⟨a3, c3, rfl, hna, hfr⟩, hb7⟩
  obtain ⟨g3, o3, cur3, fr3, rfl, hh3, ⟨-, rfl⟩, hcc3⟩ := hna.1 HLL.out
  have hg3 : W6.heap.size ≤ g3 := hfr HLL.out _ rfl
  have hc3 := hcc3 0 HLL.out
  rw [Nat.add_zero, HX0.out] at hc3
  unfold mkC
  dsimp only
  obtain ⟨W8, hW8⟩ : ∃ W, w7.alloc (.cells #[.int .i64 0, .slice (some ⟨g3, o3, none⟩) n c3] 32) = W := ⟨_, rfl⟩
  have HW8 := Lib.hid hW8
  have hgs3 : g < W3.heap.size := by rw [H3Z.out]; exact Nat.lt_of_lt_of_le HGL.out HB2.out.size
  have h8b : Below W3.heap.size W3 W8 := HB6.out.trans ((by rw [← hW8]; exact hb7.alloc hb7.size _ : Below W6.heap.size W6 W8).mono HB6.out.size)
  have h37b : Below W3.heap.size W3 w7 := HB6.out.trans (hb7.mono HB6.out.size)
  have h8o : W8.heap[g3]? = some (.cells cur3 2 (0, 0)) := by rw [← hW8, Below.heap_alloc _ _ _ (lt_of_get hh3)]; exact hh3
  have h8x : W8.heap[w7.heap.size]? = some (.cells #[.int .i64 0, .slice (some ⟨g3, o3, none⟩) n c3] 32 (0, 0)) := by rw [← hW8]; exact Go.heap_alloc_new w7 _
  have hf8 : W8.frozen? ⟨g, o, none⟩ = false := by
    rw [World.frozen?_of_block (w := W3) (a := ⟨g, o, none⟩) (h8b.block g hgs3)]
    have hf3 : (w2.setCell ⟨g, o, none⟩ (.int .i64 X)).frozen? ⟨g, o, none⟩ = w2.frozen? ⟨g, o, none⟩ := by simp
    rw [HW3.out, hf2] at hf3
    exact hf3
  have hg7 : g < w7.heap.size := Nat.lt_of_lt_of_le hgs3 (Nat.le_trans HB6.out.size hb7.size)
  obtain ⟨W9, hW9⟩ : ∃ W, W8.setCell ⟨g, o, none⟩ (.int .i64 x0) = W := ⟨_, rfl⟩
  have HW9 := Lib.hid hW9
  have HBF : Hid (Below w.heap.size w W9) := Lib.hid (by
    rw [← hW9]
    exact back_below (Nat.le_refl _) HGO.out HCO.out H3G.out (HO3.out.then (.of_below h8b)) (h8b.block g hgs3))
  have h9o : W9.heap[g3]? = some (.cells cur3 2 (0, 0)) := by
    rw [← hW9, Below.heap_setCell _ _ _ _ (by show g3 ≠ g; have := HB6.out.size; omega)]; exact h8o
  have h9x : W9.heap[w7.heap.size]? = some (.cells #[.int .i64 0, .slice (some ⟨g3, o3, none⟩) n c3] 32 (0, 0)) := by
    rw [← hW9, Below.heap_setCell _ _ _ _ (by show w7.heap.size ≠ g; omega)]; exact h8x
  have hd9 : W9.cell? ⟨g3, o3, none⟩ = some (.int .i64 x0) := (cell_of_obj h9o).trans hc3
  have hx9 : W9.cell? ⟨w7.heap.size, 1, none⟩ = some (.slice (some ⟨g3, o3, none⟩) n c3) := cell_of_obj h9x
  rw [← HW9.out, ← HW8.out] at hd9 hx9
  rw [← HW8.out] at hf8
  have HCM := Lib.hid (World.setCell_alloc_past (w := w7) (.cells #[.int .i64 0, .slice (some ⟨g3, o3, none⟩) n c3] 32) g o (.int .i64 x0) hg7)
  have hf7 : w7.frozen? ⟨g, o, none⟩ = false := by
    rw [← hf8]
    refine (World.frozen?_of_block (a := ⟨g, o, none⟩) ?_).symm
    exact Below.heap_alloc _ _ _ hg7
  have hc7 : w7.cell? ⟨g, o, none⟩ = some (.int .i64 X) := by
    rw [cell_of_obj ((h37b.block g hgs3).trans H3G.out), Array.getElem?_setIfInBounds]
    have := (Array.getElem?_eq_some_iff.1 HCO.out).1
    simp [this]
  have hd9c := hd9
  rw [HCM.out] at hd9c
  clear hna hfr hb7 hh3 hcc3 hc3 h8b h8o h8x h9o h9x hW9 hW8 hgs3
  go_wp2_with fail
  rw [← HCM.out, HW8.out, HW9.out]
  refine (works_any _).mono ?_
  rintro e w10 ⟨rfl, hb⟩
  have HB := Lib.hid (below_on' HBF.out hb)
  clear hb
  go_wp2_with fail
  go_ret
  exact ⟨rfl, HB.out⟩
end Go.Proofs.Ytghpbhcnblninaa.tbl.own
