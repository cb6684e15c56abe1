/- FrameTakes returns true of every text, in whatever world, and turns nothing that was there. -/
import Derived.Test.YtcaeigjeoeahpaaH
import Derived.Test.YtcaeigjeoeahpaaF
import Derived.Test.YtcaeigjeoeahpaaE
namespace Go.Proofs.Ytcaeigjeoeahpaa
open Go.RowKit Go.Shelf byt
attribute [local go_sem] Oper.semAt_some

/-- A block of the call's own, one cell: what it holds. -/
def Box (W : World) (B : Nat) (v : Value) : Prop := W.cell? ⟨B, 0, none⟩ = some v ∧ W.frozen? ⟨B, 0, none⟩ = false
theorem box_new (W : World) (v : Value) (t : TypeId) : Box (W.alloc (.cells #[v] t)) W.heap.size v := cell_new W v t
theorem Box.lt {W : World} {B : Nat} {v : Value} (h : Box W B v) : B < W.heap.size := World.block_lt_of_cell? W _ h.1
theorem Box.on {W W' : World} {B : Nat} {v : Value} (h : Box W B v) (hb : Below W.heap.size W W') : Box W' B v :=
  ⟨(hb.cell (p := ⟨B, 0, none⟩) h.lt).trans h.1, (World.frozen?_of_block (w := W) (hb.block _ h.lt)).trans h.2⟩
theorem Box.alloc {W : World} {B : Nat} {v : Value} (h : Box W B v) (o : Obj) : Box (W.alloc o) B v := ⟨cell_on o h.1, frozen_on o h.1 h.2⟩
theorem Box.set {W : World} {B : Nat} {v : Value} (h : Box W B v) (u : Value) : Box (W.setCell ⟨B, 0, none⟩ u) B u := ⟨World.cell?_setCell_same' _ _ _ (by rw [h.1]; rfl), by rw [World.frozen?_setCell]; exact h.2⟩
theorem below_new (w : World) (o : Obj) : Below w.heap.size w (w.alloc o) := (Below.refl _ w).alloc (Nat.le_refl _) o

set_option maxRecDepth 1000000 in
set_option maxHeartbeats 2000000 in
theorem takes_big (s : ByteArray) (w : World) (hl : 20000 < s.size) (hs : s.size ≤ 9223372036854775807) : Calls Try.prog 5 #[.string s] w fun e w' => e = .returned (.bool true) ∧ Below w.heap.size w w' := by
  have hl' : (20000 : Int) < (s.size : Int) := by omega
  go_enter Try.func5, Try.ntmps5
  go_wp2_with fail
  refine (works_any _).mono ?_
  rintro e w1 ⟨rfl, hb⟩
  have HX := Lib.hid ((box_new w (.bool false) 4).on hb)
  have HB := Lib.hid (below_on (below_new w _) hb); clear hb
  have hc1 := HX.out.1
  have hf1 := HX.out.2
  go_wp2_with fail
  refine (works_any _).mono ?_
  rintro e w2 ⟨rfl, hb⟩
  have HX := Lib.hid (HX.out.on hb)
  have HB := Lib.hid (below_on HB.out hb); clear hb
  have hc2 := HX.out.1
  have hf2 := HX.out.2
  have HY := Lib.hid (HX.out.set (.bool true))
  go_wp2_with fail
  have hc5 := HY.out.1
  refine bodyPost_ret (v := .bool true) (by simp [results, Try.f5, go_sem, hc5]) rfl ?_
  exact ⟨rfl, HB.out.setCell (p := ⟨w.heap.size, 0, none⟩) (Nat.le_refl _) _⟩
/-- A slice of frames, nil or not, below block H. -/
def RdF (H : Nat) (W : World) (a : Option Addr) (l : List Fr) : Prop :=
  ∀ j (h : j < l.length), ∃ g, a = some ⟨g, 0, none⟩ ∧ g < H ∧ W.cell? ⟨g, j * 2, none⟩ = some (.int .u8 l[j].1.1) ∧ W.cell? ⟨g, j * 2 + 1, none⟩ = some (.string l[j].1.2)
theorem cells2_get : ∀ (l : List Fr) (j : Nat) (h : j < l.length), (l.flatMap cells2)[j * 2]? = some (.int .u8 l[j].1.1) ∧ (l.flatMap cells2)[j * 2 + 1]? = some (.string l[j].1.2)
  | x :: l, 0, _ => ⟨rfl, rfl⟩
  | x :: l, j + 1, h => by
    have h' : j < l.length := Nat.lt_of_succ_lt_succ h
    have ih := cells2_get l j h'
    rw [List.flatMap_cons]
    have e : (cells2 x).length = 2 := rfl
    rw [List.getElem?_append_right (by rw [e]; omega), List.getElem?_append_right (by rw [e]; omega), e]
    have e1 : (j + 1) * 2 - 2 = j * 2 := by omega
    have e2 : (j + 1) * 2 + 1 - 2 = j * 2 + 1 := by omega
    rw [e1, e2]
    exact ih
theorem own_rdf {w : World} {B : Nat} {v : Value} {l : List Fr} (h : w.ownsRow B 36 2 v l.length (l.flatMap cells2)) : ∃ a cap, v = .slice a l.length cap ∧ RdF w.heap.size w a l := by
  have hc := fun g hg => h.cells (g := g) hg
  rcases h.2 with ⟨rfl, h0⟩ | ⟨g, cap, cur, rfl, hb, hg, h1, h2, h3, h4⟩
  · rw [h0]
    exact ⟨none, 0, rfl, fun j hj => by omega⟩
  · refine ⟨_, cap, rfl, fun j hj => ⟨g, rfl, (Array.getElem?_eq_some_iff.1 hg).1, ?_, ?_⟩⟩
    · have := hc g rfl (j * 2) _ (cells2_get l j hj).1
      rwa [Go.WideShapes.add_plain, Nat.zero_add] at this
    · have := hc g rfl (j * 2 + 1) _ (cells2_get l j hj).2
      rwa [Go.WideShapes.add_plain, Nat.zero_add] at this
theorem RdF.kept {H : Nat} {W W' : World} {a : Option Addr} {l : List Fr} {row : Option Nat} (h : RdF H W a l) (hg : W.grownBy W' row) (hr : ∀ r, row = some r → ∃ o : Obj, W.heap[r]? = some o ∧ o.isCells = false) : RdF H W' a l := fun j hj => by
  obtain ⟨g, e, hl, h1, h2⟩ := h j hj
  exact ⟨g, e, hl, cell_kept h1 hg hr, cell_kept h2 hg hr⟩
theorem RdF.alloc {H : Nat} {W : World} {a : Option Addr} {l : List Fr} (h : RdF H W a l) (o : Obj) : RdF H (W.alloc o) a l := h.kept (World.grownBy_alloc W o none) (fun r e => by cases e)
theorem RdF.set {H : Nat} {W : World} {a : Option Addr} {l : List Fr} (h : RdF H W a l) {B : Nat} (hB : H ≤ B) (u : Value) : RdF H (W.setCell ⟨B, 0, none⟩ u) a l := fun j hj => by
  obtain ⟨g, e, hl, h1, h2⟩ := h j hj
  have hne : g ≠ B := by omega
  exact ⟨g, e, hl, by rw [World.cell?_setCell_other _ _ _ _ (by simp [hne])]; exact h1, by rw [World.cell?_setCell_other _ _ _ _ (by simp [hne])]; exact h2⟩
theorem Box.kept {W W' : World} {B : Nat} {v : Value} {row : Option Nat} (h : Box W B v) (hg : W.grownBy W' row) (hr : ∀ r, row = some r → ∃ o : Obj, W.heap[r]? = some o ∧ o.isCells = false) : Box W' B v := ⟨cell_kept h.1 hg hr, (frozen_kept h.1 hg hr).trans h.2⟩
theorem Box.other {W : World} {B B' : Nat} {v : Value} (h : Box W B v) (hne : B ≠ B') (u : Value) : Box (W.setCell ⟨B', 0, none⟩ u) B v := ⟨by rw [World.cell?_setCell_other _ _ _ _ (by simp [hne])]; exact h.1, by rw [World.frozen?_setCell]; exact h.2⟩
theorem prefix_on {l pre : List Fr} {x : Fr} (h : pre <+: l) (hl : pre.length < l.length) (hx : x = l[pre.length]) : pre ++ [x] <+: l := by
  obtain ⟨t, rfl⟩ := h
  cases t with
  | nil => simp at hl
  | cons y t =>
    rw [List.getElem_append_right (Nat.le_refl _)] at hx
    simp only [Nat.sub_self, List.getElem_cons_zero] at hx
    subst hx
    exact ⟨t, by rw [List.append_assoc]; rfl⟩
theorem prefix_not {l pre : List Fr} {x : Fr} (hl : pre.length < l.length) (hx : x ≠ l[pre.length]) : ¬ pre ++ [x] <+: l := by
  rintro ⟨t, ht⟩
  have h1 : l[pre.length]? = some x := by
    rw [← ht, List.append_assoc, List.getElem?_append_right (Nat.le_refl _), Nat.sub_self]
    rfl
  rw [List.getElem?_eq_getElem hl] at h1
  exact hx (Option.some.inj h1).symm

set_option maxRecDepth 1000000 in
set_option maxHeartbeats 2000000 in
theorem takes_in (s : ByteArray) (w : World) (hs : s.size ≤ 20000) : Calls Try.prog 5 #[.string s] w fun e w' => e = .returned (.bool true) ∧ Below w.heap.size w w' := by
  have hs' : s.size ≤ 9223372036854775807 := by omega
  have hl' : (s.size : Int) ≤ 20000 := by omega
  obtain ⟨k, p, n, c, ht⟩ : ∃ k p n c, takeF s = (k, p, n, c) := ⟨_, _, _, _, rfl⟩
  have HT := Lib.hid ht
  clear ht
  refine (callsIn_wide (n := 3)).1 ?_
  refine callsIn_of_wp_marks Try.func5 rfl trivial ?_ rfl
  simp only [Try.ntmps5, List.size_toArray, List.length_cons, List.length_nil, Nat.reduceAdd, Nat.reduceSub, Array.replicate_succ, Array.replicate_zero, List.push_toArray, List.append_toArray, List.nil_append, List.cons_append]
  gi_wp2_with fail
  refine ⟨trivial, (callsIn_wide.2 (works_any _)).mono ?_⟩
  rintro e w1 ⟨rfl, hb⟩
  have HX := Lib.hid ((box_new w (.bool false) 4).on hb)
  have HB := Lib.hid (below_on (below_new w _) hb); clear hb
  have hc1 := HX.out.1
  have hf1 := HX.out.2
  gi_wp2_with fail
  refine ⟨trivial, (callsIn_wide.2 (take_at HT.out _ hs')).mono ?_⟩
  rintro e w2 ⟨rfl, hb⟩
  have HX := Lib.hid (HX.out.on hb)
  have HB := Lib.hid (below_on HB.out hb); clear hb
  gi_wp2_with fail
  refine ⟨trivial, (callsIn_wide.2 (refTake_at HT.out _ (by omega))).mono ?_⟩
  rintro e w3 ⟨rfl, hb⟩
  have HX := Lib.hid (HX.out.on hb)
  have HB := Lib.hid (below_on HB.out hb); clear hb
  gi_wp2_with fail
  refine ⟨trivial, (callsIn_wide.2 (refAll_any s _ (by omega))).mono ?_⟩
  rintro e w4 ⟨v, rfl, ho, hb⟩
  obtain ⟨a, cap, rfl, hrd⟩ := own_rdf ho
  have HX := Lib.hid (HX.out.on hb)
  have HB := Lib.hid (below_on HB.out hb)
  have HR := Lib.hid hrd
  clear hb hrd ho
  gi_wp2_with (refine ⟨trivial, ?_⟩; gi_at_call 15; ((with_reducible refine (callsIn_wide.2 (all_in s _)).mono ?_); rintro e w' ⟨rfl, rfl⟩))
  have hG := HX.out.lt
  generalize hW5 : (((w4.alloc (Obj.cells #[Value.slice a (all s).length cap] 29)).alloc (Obj.cells #[Value.int IntKind.i64 0] 3)).alloc (Obj.cells #[Value.string s] 9)) = W5
  have hz5 : W5.heap.size = w4.heap.size + 3 := by rw [← hW5]; simp only [World.size_alloc]
  have hbr : Box W5 w.heap.size (.bool false) := by rw [← hW5]; exact ((HX.out.alloc _).alloc _).alloc _
  have hbG : Box W5 w4.heap.size (.slice a (all s).length cap) := by rw [← hW5]; exact ((box_new w4 _ _).alloc _).alloc _
  have hbi : Box W5 (w4.heap.size + 1) (.int .i64 0) := by
    rw [← hW5]
    have := (box_new (w4.alloc (Obj.cells #[Value.slice a (all s).length cap] 29)) (.int .i64 0) 3).alloc (Obj.cells #[Value.string s] 9)
    rwa [World.size_alloc] at this
  have hcs : W5.cell? ⟨w4.heap.size + 2, 0, none⟩ = some (.string s) := by
    rw [← hW5]
    have := (box_new ((w4.alloc (Obj.cells #[Value.slice a (all s).length cap] 29)).alloc (Obj.cells #[Value.int IntKind.i64 0] 3)) (.string s) 9).1
    rwa [World.size_alloc, World.size_alloc] at this
  have hrd : RdF w4.heap.size W5 a (all s) := by rw [← hW5]; exact ((HR.out.alloc _).alloc _).alloc _
  have hB5 : Below w.heap.size w W5 := by rw [← hW5]; exact ((HB.out.alloc HB.out.size _).alloc (by rw [World.size_alloc]; omega) _).alloc (by rw [World.size_alloc, World.size_alloc]; omega) _
  clear hW5
  refine wpIn_rangeFunc_ownF rfl (by omega) (gf := 24) (lb := #[.pointer (some ⟨w4.heap.size + 2, 0, none⟩)]) rfl trivial (enters_of Try.func24 (by kernel_rfl) rfl)
    (all_stops _ (w4.heap.size + 2) s hs' _ (by omega) hcs) (fun _ _ => trivial) (fun _ _ _ _ _ _ _ _ => trivial) (Below.refl _ _) (fun _ => rfl)
    (fun pre W => (pre <+: all s ∧ Box W w.heap.size (.bool false) ∧ Box W w4.heap.size (.slice a (all s).length cap) ∧ Box W (w4.heap.size + 1) (.int .i64 (pre.length : Nat)) ∧ RdF w4.heap.size W a (all s)) ∧ Below w.heap.size w W)
    (fun _ pre _ => ¬ pre <+: all s)
    (OwnFrom.and (Own.from (fun s A B row hs hg hr => ⟨hs.1, hs.2.1.kept hg hr, hs.2.2.1.kept hg hr, hs.2.2.2.1.kept hg hr, hs.2.2.2.2.kept hg hr⟩) _) (ownFrom_below (Nat.le_refl _) (by omega)))
    (fun _ _ _ _ _ hs _ _ => hs)
    ⟨⟨List.nil_prefix, hbr, hbG, hbi, hrd⟩, hB5⟩
    ?a1 ?assign ?body ?done ?stop
  case assign =>
    intro l x W K hK
    gi_wp2
    exact hK
  case body =>
    rintro l pre x W ⟨⟨hpre, hb0, hbs, hbn, hrd⟩, hB⟩ hlen
    obtain ⟨g, rfl, hg, h1, h2⟩ := hrd pre.length hlen
    obtain ⟨y, hy⟩ : ∃ y, (all s)[pre.length] = y := ⟨_, rfl⟩
    rw [hy] at h1 h2
    have hlen' : (pre.length : Int) < ((all s).length : Int) := by omega
    have c0 := hb0.1
    have f0 := hb0.2
    have cs := hbs.1
    have cn := hbn.1
    have fn := hbn.2
    have hsmall : (all s).length ≤ 20000 := by have := whl_len (all s); have := all_whl s; omega
    have hw : wrap64 ((pre.length : Int) + 1) = (pre.length : Int) + 1 := by unfold wrap64; omega
    have hl2 : ((pre ++ [x]).length : Int) = (pre.length : Int) + 1 := by rw [List.length_append]; rfl
    have HL2 := Lib.hid hl2; clear hl2
    by_cases hxy : x = y
    · have hpx := prefix_on hpre hlen (hxy.trans hy.symm)
      subst hxy
      gi_wp2
      refine ⟨KeepsOthers.setCell _ _ _, trivial, ⟨hpx, hb0.other (by omega) _, hbs.other (by omega) _, ?_, hrd.set (by omega) _⟩, hB.setCell (p := ⟨w4.heap.size + 1, 0, none⟩) (by simp only; omega) _⟩
      rw [HL2.out]
      exact hbn.set _
    · have hpn := prefix_not hlen (by rw [hy]; exact hxy)
      by_cases hk1 : y.1.1 = x.1.1
      · have hp1 : y.1.2 ≠ x.1.2 := fun e => hxy (Subtype.ext (Prod.ext hk1.symm e.symm))
        have b1 : ((y.1.1 : Int) == (x.1.1 : Int)) = true := by rw [hk1]; exact beq_self_eq_true _
        have b2 := str_ne hp1
        gi_wp2
        exact ⟨KeepsOthers.setCell _ _ _, hpn⟩
      · have b1 : ((y.1.1 : Int) == (x.1.1 : Int)) = false := beq_eq_false_iff_ne.2 (by omega)
        gi_wp2
        exact ⟨KeepsOthers.setCell _ _ _, hpn⟩
  case done =>
    rintro D ys W hD rfl ⟨⟨hpre, hb0, hbs, hbn, hrd⟩, hB⟩ hK
    have cs := hbs.1
    have cn := hbn.1
    have hDW := (Array.getElem?_eq_some_iff.1 hK).1
    gi_wp2_with fail
    refine ⟨trivial, (callsIn_wide.2 (whole_any s _ (by omega))).mono ?_⟩
    rintro e w6 ⟨rfl, hb6⟩
    have HK := Lib.hid ((hb6.block D hDW).trans hK)
    have H0 := Lib.hid (hb0.on hb6)
    have HB := Lib.hid (hB.trans (hb6.mono hB.size))
    clear hb6 hK cs cn hpre hb0 hbs hbn hrd hB
    gi_wp2_with fail
    refine ⟨trivial, (callsIn_wide.2 (works_any _)).mono ?_⟩
    rintro e w7 ⟨rfl, hb7⟩
    have HK := Lib.hid ((hb7.block D (Array.getElem?_eq_some_iff.1 HK.out).1).trans HK.out)
    have H0 := Lib.hid (H0.out.on hb7)
    have HB := Lib.hid (HB.out.trans (hb7.mono HB.out.size))
    clear hb7
    have c0 := H0.out.1
    have f0 := H0.out.2
    gi_wp2_with fail
    have hK' := (KeepsOthers.setCell w7 ⟨w.heap.size, 0, none⟩ (.bool true)).same D _ HK.out rfl
    refine ⟨by simp, .inl ⟨_, _, rfl, run_takeDeferred hK', ?_⟩⟩
    have hc5 := ((H0.out.set (.bool true)).kept (grownBy_putObj' _ D (.deferred none)) (fun r e => by cases e; exact ⟨_, hK', rfl⟩)).1
    refine ⟨.bool true, ?_, rfl, (HB.out.setCell (p := ⟨w.heap.size, 0, none⟩) (Nat.le_refl _) _).trans (belowK_b (w := w) (Nat.le_refl _) _ D _ _ (by omega) hK' rfl rfl)⟩
    simp [results, Try.f5, go_sem, hc5]
  case stop =>
    rintro D c pre W _ hp h _
    exact absurd hp h
theorem law_takes (s : ByteArray) (hs : s.size ≤ maxLen) (w : World) : Calls Try.prog 5 #[.string s] w fun e w' => e = .returned (.bool true) ∧ Below w.heap.size w w' := by
  unfold maxLen at hs
  by_cases hl : 20000 < s.size
  · exact takes_big s w hl (by omega)
  · exact takes_in s w (by omega)
end Go.Proofs.Ytcaeigjeoeahpaa
