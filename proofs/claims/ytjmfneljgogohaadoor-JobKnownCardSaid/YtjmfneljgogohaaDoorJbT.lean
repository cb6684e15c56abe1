/- The law's own job works; the document's examples. -/
import Derived.Test.YtjmfneljgogohaaDoorJbS
namespace Go.Proofs.YtjmfneljgogohaaDoor.jb
set_option linter.unusedSimpArgs false
set_option linter.unusedVariables false
open Go.RowKit nam exp

/-- What is asked of the job of three. -/
theorem three_asked {w w1 : World} {e : Ending} (ht : Tab w) (h : ThreePost w e w1) : ∃ b, e = .returned (.agg #[.int .i64 2, .slice (some ⟨b, 0, none⟩) 3 3]) ∧ Below w.heap.size w w1 ∧ Tab w1 ∧ Nodes w1 (.slice (some ⟨b, 0, none⟩) 3 3) (L3 1) := by
  obtain ⟨b, bx, b1, b2, rfl, h1, h2, h3, h4⟩ := h
  exact ⟨b, rfl, h4, ht.on h4, nodes3 h1 (irow_one h2)⟩
set_option maxHeartbeats 1600000 in
set_option maxRecDepth 1000000 in
theorem works_any (w : World) (ht : Tab w) : Calls Tryd.prog 10 #[] w fun e w' => e = .returned (.bool true) ∧ Below w.heap.size w w' := by
  have HT := Lib.hid ht; clear ht
  have H3 : Hid (∀ w', Below w.heap.size w w' → Calls Tryd.prog 9 #[] w' fun e w'' => ∃ b, e = .returned (.agg #[.int .i64 2, .slice (some ⟨b, 0, none⟩) 3 3]) ∧ Below w'.heap.size w' w'' ∧ Tab w'' ∧ Nodes w'' (.slice (some ⟨b, 0, none⟩) 3 3) (L3 1)) := Lib.hid (fun w' hb => (three_any w').mono fun e w'' h => three_asked (HT.out.on hb) h)
  have HA := Lib.hid (H3.out w (Below.refl _ _))
  go_enter Tryd.func10, Tryd.ntmps10
  go_wp2_with fail
  refine HA.out.mono ?_
  rintro e w1 ⟨b, rfl, hb1, ht1, hn1⟩
  have HM := Lib.hid (may_job 2 ht1 hn1)
  rw [may31] at HM
  have HB1 := Lib.hid hb1
  clear hb1 ht1 hn1
  go_wp2_with fail
  refine HM.out.mono ?_
  rintro e w2 ⟨rfl, hb2⟩
  have HB2 := Lib.hid (HB1.out.trans (hb2.mono HB1.out.size))
  have HA2 := Lib.hid (H3.out w2 HB2.out)
  clear hb2
  go_wp2_with fail
  refine HA2.out.mono ?_
  rintro e w3 ⟨b', rfl, hb3, ht3, hn3⟩
  have HB3 := Lib.hid (HB2.out.trans (hb3.mono HB2.out.size))
  have HR := Lib.hid (readers_job 2 0 ht3 hn3)
  rw [reads31] at HR
  clear hb3 ht3 hn3
  go_wp2_with fail
  refine HR.out.mono ?_
  rintro e w4 ⟨u, rfl, h2, h3⟩
  have HB4 := Lib.hid (HB3.out.trans (h3.mono HB3.out.size))
  have hrow := own_irow h2
  have HEQ := Lib.hid (equal_ints (w := w4.alloc (.cells #[.int .i64 1] 3)) (hrow.on (below_made _ _)) (irow_one (heap_last (w := w4) (o := .cells #[.int .i64 1] 3) rfl)) (by simp) (by simp))
  have HB5 := Lib.hid (HB4.out.alloc HB4.out.size (.cells #[.int .i64 1] 3))
  obtain ⟨s, cap, rfl, _, _⟩ := own_slice h2
  clear h2 h3 hrow
  go_wp2_with fail
  refine HEQ.out.mono ?_
  rintro e w5 ⟨rfl, hb5⟩
  have HB6 := Lib.hid (HB5.out.trans (hb5.mono HB5.out.size))
  have HA3 := Lib.hid (H3.out w5 HB6.out)
  clear hb5
  go_wp2_with fail
  refine HA3.out.mono ?_
  rintro e w6 ⟨b'', rfl, hb6, ht6, hn6⟩
  have HB7 := Lib.hid (HB6.out.trans (hb6.mono HB6.out.size))
  have HF := Lib.hid (find_job 2 ⟨#[116]⟩ hn6 (by simp [L3]))
  rw [find31] at HF
  clear hb6 ht6 hn6
  go_wp2_with fail
  refine HF.out.mono ?_
  rintro e w7 ⟨rfl, hb7⟩
  have HB8 := Lib.hid (HB7.out.trans (hb7.mono HB7.out.size))
  clear hb7
  go_wp2_with fail
  go_ret
  exact ⟨rfl, HB8.out⟩
theorem nodes2 {w : World} {b b1 : Nat} (hb : w.heap[b]? = some (.cells #[.string ⟨#[115]⟩, .int .u8 1, .slice none 0 0, .int .u8 0, .int .i64 0, .slice none 0 0, .int .i64 0, .string ⟨#[115]⟩, .int .u8 9, .slice (some ⟨b1, 0, none⟩) 1 1, .int .u8 0, .int .i64 0, .slice none 0 0, .int .i64 0] 30 (0, 0)))
    (h1 : w.heap[b1]? = some (.cells #[.int .i64 0] 3 (0, 0))) : Nodes w (.slice (some ⟨b, 0, none⟩) 2 2) L2 := by
  have hlt := (Array.getElem?_eq_some_iff.1 hb).1
  refine ⟨_, 2, rfl, by simp [L2], fun _ => ⟨b, rfl, fun i hi => ?_⟩⟩
  match i, hi with
  | 0, _ => exact ⟨hlt, .slice none 0 0, .slice none 0 0, cell_of hb rfl, cell_of hb rfl, cell_of hb rfl, cell_of hb rfl, cell_of hb rfl, cell_of hb rfl, cell_of hb rfl, IRow.none w, .nil⟩
  | 1, _ => exact ⟨hlt, .slice (some ⟨b1, 0, none⟩) 1 1, .slice none 0 0, cell_of hb rfl, cell_of hb rfl, cell_of hb rfl, cell_of hb rfl, cell_of hb rfl, cell_of hb rfl, cell_of hb rfl, irow_one h1, .nil⟩
set_option maxHeartbeats 3200000 in
set_option maxRecDepth 1000000 in
theorem law_known (w : World) (ht : Tab w) : Calls Tryd.prog 3 #[] w fun e w' => e = .returned (.bool true) ∧ Below w.heap.size w w' := by
  have HT := Lib.hid ht; clear ht
  obtain ⟨N, hN⟩ : ∃ N, w.heap.size = N := ⟨_, rfl⟩
  have HN := Lib.hid hN
  obtain ⟨W, hW⟩ : ∃ W, (w.alloc (.cells #[.int .i64 0] 3)).alloc (.cells #[.string ⟨#[115]⟩, .int .u8 1, .slice none 0 0, .int .u8 0, .int .i64 0, .slice none 0 0, .int .i64 0, .string ⟨#[115]⟩, .int .u8 9, .slice (some ⟨N, 0, none⟩) 1 1, .int .u8 0, .int .i64 0, .slice none 0 0, .int .i64 0] 30) = W := ⟨_, rfl⟩
  have hwb : Below w.heap.size w W := by rw [← hW]; exact (below_made _ _).alloc (by simp) _
  have HB := Lib.hid hwb
  have hns : Nodes W (.slice (some ⟨N + 1, 0, none⟩) 2 2) L2 := nodes2 (b1 := N) (by rw [← hW]; exact heap_last (by simp [hN])) (by rw [← hW]; exact heap_old (heap_last hN.symm))
  have HM := Lib.hid (may_job 1 (HT.out.on hwb) hns)
  rw [may2] at HM
  clear hwb hns
  go_enter Tryd.func3, Tryd.ntmps3
  go_wp2_with fail
  refine HM.out.mono ?_
  rintro e w1 ⟨rfl, hb1⟩
  have HB1 := Lib.hid (HB.out.trans (hb1.mono HB.out.size))
  have H3 := Lib.hid (three_any w1)
  clear hb1
  go_wp2_with fail
  refine H3.out.mono ?_
  rintro e w2 ⟨b, bx, b1, b2, rfl, h1, h2, h3, h4⟩
  have HB2 := Lib.hid (HB1.out.trans (h4.mono HB1.out.size))
  have HAT := Lib.hid (And.intro h1 h2)
  have HBN : Hid (w.heap.size ≤ b) := Lib.hid (by have := HB1.out.size; omega)
  clear h1 h2 h3 h4
  go_upto_region 3 with fail
  obtain ⟨M, hM⟩ : ∃ M, w2.heap.size = M := ⟨_, rfl⟩
  obtain ⟨V1, hV1⟩ : ∃ V, w2.alloc (.cells #[.int .i64 2, .slice (some ⟨b, 0, none⟩) 3 3] 33) = V := ⟨_, rfl⟩
  have hbm := box2 hV1
  rw [hM] at hbm
  have HBX := Lib.hid hbm
  have hs1 : V1.heap.size = M + 1 := by rw [← hV1, World.size_alloc, hM]
  have HV := Lib.hid (And.intro hV1 (And.intro hM hs1))
  have hbl : Below w2.heap.size w2 V1 := by rw [← hV1]; exact below_made _ _
  have hbl2 := hbl.trans ((below_made V1 (.cells #[.int .i64 0] 3)).mono hbl.size)
  have hbb : (V1.alloc (.cells #[.int .i64 0] 3)).heap[b]? = _ := (hbl2.block b (Array.getElem?_eq_some_iff.1 HAT.out.1.1).1).trans HAT.out.1.1
  have hcb := cell_of (o := 16) hbb rfl
  have hfb : (V1.alloc (.cells #[.int .i64 0] 3)).frozen? ⟨b, 16, none⟩ = false := by simp [World.frozen?, hbb]
  obtain ⟨r0, r1⟩ := hbm
  rw [hV1, hM]
  clear hV1 hM hbl hbl2 hbb
  go_upto_region 4 with fail
  obtain ⟨V3, hV3⟩ : ∃ V, (V1.alloc (.cells #[.int .i64 0] 3)).setCell ⟨b, 16, none⟩ (.slice (some ⟨M + 1, 0, none⟩) 1 1) = V := ⟨_, rfl⟩
  rw [hV3]
  have HS : Hid (Below w.heap.size w V3 ∧ Nodes V3 (.slice (some ⟨b, 0, none⟩) 3 3) (L3 0) ∧ V3.cell? ⟨M, 0, none⟩ = some (.int .i64 2) ∧ V3.cell? ⟨M, 1, none⟩ = some (.slice (some ⟨b, 0, none⟩) 3 3)) := Lib.hid (by
    obtain ⟨hV1, hM, hs1⟩ := HV.out
    obtain ⟨⟨hb0, hx0, h10⟩, _⟩ := HAT.out
    have hbl : Below w2.heap.size w2 V1 := by rw [← hV1]; exact below_made _ _
    have hbl2 : Below w2.heap.size w2 (V1.alloc (.cells #[.int .i64 0] 3)) := hbl.trans ((below_made V1 (.cells #[.int .i64 0] 3)).mono hbl.size)
    have lt : ∀ {k : Nat} {o : Obj}, w2.heap[k]? = some o → k < w2.heap.size := fun h => (Array.getElem?_eq_some_iff.1 h).1
    have up : ∀ {k : Nat} {o : Obj}, w2.heap[k]? = some o → (V1.alloc (.cells #[.int .i64 0] 3)).heap[k]? = some o := fun h => (hbl2.block _ (lt h)).trans h
    have hbM := lt hb0
    have nx : bx ≠ b := fun e => by rw [e, hb0] at hx0; simp at hx0
    have n1 : b1 ≠ b := fun e => by rw [e, hb0] at h10; simp at h10
    have hnew : (V1.alloc (.cells #[.int .i64 0] 3)).heap[M + 1]? = some (.cells #[.int .i64 0] 3 (0, 0)) := heap_last hs1.symm
    obtain ⟨q0, q1⟩ := HBX.out
    refine ⟨?_, nodes3 (b1 := b1) (bx := bx) ⟨?_, ?_, ?_⟩ (irow_one (b := M + 1) (t := 3) ?_), ?_, ?_⟩
    · rw [← hV3]
      exact (HB2.out.trans (hbl2.mono HB2.out.size)).setCell HBN.out _
    · rw [← hV3]
      exact heap_setCell_same _ b 16 _ _ _ (up hb0)
    · rw [← hV3]; exact heap_set (up hx0) nx
    · rw [← hV3]; exact heap_set (up h10) n1
    · rw [← hV3]; exact heap_set hnew (by omega)
    · rw [← hV3]; exact cell_set (cell_on q0 (below_made _ _)) (by omega)
    · rw [← hV3]; exact cell_set (cell_on q1 (below_made _ _)) (by omega))
  clear hV3 r0 r1 hcb hfb hs1
  obtain ⟨-, -, r0, r1⟩ := HS.out
  have HM2 := Lib.hid (may_job 2 (HT.out.on HS.out.1) HS.out.2.1)
  rw [may30] at HM2
  go_wp2_with fail
  refine HM2.out.mono ?_
  rintro e w3 ⟨rfl, hb3⟩
  have HX3 := Lib.hid hb3
  have HB3 := Lib.hid (HS.out.1.trans (hb3.mono HS.out.1.size))
  have HW := Lib.hid (works_any w3 (HT.out.on HB3.out))
  clear hb3 r0 r1
  go_wp2_with fail
  refine HW.out.mono ?_
  rintro e w4 ⟨rfl, hb4⟩
  have HX4 := Lib.hid (HX3.out.trans (hb4.mono HX3.out.size))
  have HB4 := Lib.hid (HS.out.1.trans (HX4.out.mono HS.out.1.size))
  have r0 := cell_on HS.out.2.2.1 HX4.out
  have r1 := cell_on HS.out.2.2.2 HX4.out
  have HR := Lib.hid (readers_job 2 0 (HT.out.on HB4.out) (HS.out.2.1.on HX4.out))
  rw [reads30] at HR
  clear hb4
  go_wp2_with fail
  refine HR.out.mono ?_
  rintro e w5 ⟨u, rfl, h2, h3⟩
  have HX5 := Lib.hid (HX4.out.trans (h3.mono HX4.out.size))
  have HB5 := Lib.hid (HS.out.1.trans (HX5.out.mono HS.out.1.size))
  obtain ⟨s, cap, rfl, _, _⟩ := own_slice h2
  clear r0 r1 h2 h3
  have r0 := cell_on HS.out.2.2.1 HX5.out
  have r1 := cell_on HS.out.2.2.2 HX5.out
  have HF := Lib.hid (find_job 2 ⟨#[122, 122]⟩ (HS.out.2.1.on HX5.out) (by simp [L3]))
  rw [find30] at HF
  go_wp2_with fail
  refine HF.out.mono ?_
  rintro e w6 ⟨rfl, hb6⟩
  have HB6 := Lib.hid (HB5.out.trans (hb6.mono HB5.out.size))
  clear hb6 r0 r1
  go_wp2_with fail
  go_ret
  exact ⟨rfl, by first | exact HB6.out | exact HN.out ▸ HB6.out⟩
end Go.Proofs.YtjmfneljgogohaaDoor.jb
