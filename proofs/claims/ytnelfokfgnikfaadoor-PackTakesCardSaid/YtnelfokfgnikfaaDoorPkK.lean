/- The law's own job goes there and back; the document's examples. -/
import Derived.Test.YtnelfokfgnikfaaDoorPkI
import Derived.Test.YtnelfokfgnikfaaDoorPkE
import Derived.Deep.RegionHeld3
namespace Go.Proofs.YtnelfokfgnikfaaDoor.pk
set_option linter.unusedSimpArgs false
set_option linter.unusedVariables false
open Go.RowKit nam exp jb

/-- The law's own job is made. -/
def TwoPost (w : World) (e : Ending) (w' : World) : Prop := ∃ b, e = .returned (.agg #[.int .i64 1, .slice (some ⟨b, 0, none⟩) 2 2]) ∧ Nodes w' (.slice (some ⟨b, 0, none⟩) 2 2) two ∧ Below w.heap.size w w'
theorem nodes_two {w : World} {b b1 : Nat} (hb : w.heap[b]? = some (.cells #[.string ⟨#[115]⟩, .int .u8 1, .slice none 0 0, .int .u8 0, .int .i64 0, .slice none 0 0, .int .i64 0, .string ⟨#[116]⟩, .int .u8 9, .slice (some ⟨b1, 0, none⟩) 1 1, .int .u8 0, .int .i64 0, .slice none 0 0, .int .i64 0] 52 (0, 0)))
    (h1 : w.heap[b1]? = some (.cells #[.int .i64 0] 3 (0, 0))) : Nodes w (.slice (some ⟨b, 0, none⟩) 2 2) two := by
  have hlt := (Array.getElem?_eq_some_iff.1 hb).1
  refine ⟨_, 2, rfl, by simp [two], fun _ => ⟨b, rfl, fun i hi => ?_⟩⟩
  match i, hi with
  | 0, _ => exact ⟨hlt, .slice none 0 0, .slice none 0 0, cell_of hb rfl, cell_of hb rfl, cell_of hb rfl, cell_of hb rfl, cell_of hb rfl, cell_of hb rfl, cell_of hb rfl, IRow.none w, .nil⟩
  | 1, _ => exact ⟨hlt, .slice (some ⟨b1, 0, none⟩) 1 1, .slice none 0 0, cell_of hb rfl, cell_of hb rfl, cell_of hb rfl, cell_of hb rfl, cell_of hb rfl, cell_of hb rfl, cell_of hb rfl, irow_one h1, .nil⟩
set_option maxHeartbeats 800000 in
set_option maxRecDepth 1000000 in
theorem two_any (w : World) : Calls Tryd.prog 21 #[] w (TwoPost w) := by
  obtain ⟨N, hN⟩ : ∃ N, w.heap.size = N := ⟨_, rfl⟩
  go_enter Tryd.func21, Tryd.ntmps21
  go_wp2_with fail
  obtain ⟨j, hj⟩ : ∃ j : Obj, .cells #[.int .i64 1, .slice (some ⟨N + 1 + 1, 0, none⟩) 2 2] 24 = j := ⟨_, rfl⟩
  have e0 : ∀ (x y : Obj), ((((w.alloc j).alloc x).alloc y)).heap[N]? = some j := fun x y => heap_old (heap_old (heap_last hN.symm))
  have e1 : ∀ (x y : Obj), ((((w.alloc j).alloc x).alloc y)).heap[N + 1]? = some x := fun x y => heap_old (heap_last (by simp [hN]))
  have e2 : ∀ (x y : Obj), ((((w.alloc j).alloc x).alloc y)).heap[N + 1 + 1]? = some y := fun x y => heap_last (by simp [hN])
  rw [hj]
  have hn := nodes_two (e2 (.cells #[.int .i64 0] 3) (.cells #[.string ⟨#[115]⟩, .int .u8 1, .slice none 0 0, .int .u8 0, .int .i64 0, .slice none 0 0, .int .i64 0, .string ⟨#[116]⟩, .int .u8 9, .slice (some ⟨N + 1, 0, none⟩) 1 1, .int .u8 0, .int .i64 0, .slice none 0 0, .int .i64 0] 52)) (e1 _ _)
  have hc := e0 (.cells #[.int .i64 0] 3) (.cells #[.string ⟨#[115]⟩, .int .u8 1, .slice none 0 0, .int .u8 0, .int .i64 0, .slice none 0 0, .int .i64 0, .string ⟨#[116]⟩, .int .u8 9, .slice (some ⟨N + 1, 0, none⟩) 1 1, .int .u8 0, .int .i64 0, .slice none 0 0, .int .i64 0] 52)
  rw [← hj] at hc
  have g0 := cell_of hc (o := 0) rfl
  have g1 := cell_of hc (o := 1) rfl
  rw [hj] at g0 g1
  refine bodyPost_ret (v := .agg #[.int .i64 1, .slice (some ⟨N + 1 + 1, 0, none⟩) 2 2]) (by simp [results, Tryd.f21, go_sem, g0, g1]) rfl ⟨_, rfl, hn, ?_⟩
  exact ((below_made w j).alloc (by simp) _).alloc (by simp; omega) _
theorem two_fits : ∀ nd ∈ two, NdFits nd := by
  intro nd hn
  simp only [two, List.mem_cons, List.not_mem_nil, or_false] at hn
  have key : ∀ m, m ∈ nodeN srcN ∨ m ∈ nodeN (endN 0) → byt.fits m := by
    intro m hm
    have h1 : nodeN srcN = [1, 0, 0, 0, 0, 0] := by kernel_rfl
    have h2 : nodeN (endN 0) = [9, 0, 1, 0, 0, 0, 0] := by kernel_rfl
    rw [h1, h2] at hm
    have : m = 0 ∨ m = 1 ∨ m = 9 := by simp at hm; omega
    unfold byt.fits
    omega
  rcases hn with rfl | rfl
  · exact ⟨fun m hm => key m (.inl hm), by decide⟩
  · exact ⟨fun m hm => key m (.inr hm), by decide⟩
theorem two_small : ∀ nd ∈ two, nd.ins.length ≤ 1000000 ∧ nd.x.size ≤ 1000000 := by
  intro nd hn
  simp only [two, List.mem_cons, List.not_mem_nil, or_false] at hn
  have hz : Ex.zero.size = 1 := by rw [size_eq]; simp [Ex.zero, Ex.args, sizes_nil]
  rcases hn with rfl | rfl
  · exact ⟨by simp [srcN], by show Ex.zero.size ≤ _; omega⟩
  · exact ⟨by simp [endN], by show Ex.zero.size ≤ _; omega⟩
theorem twoB_size : twoB.size = 19 := by kernel_rfl
set_option maxHeartbeats 1600000 in
set_option maxRecDepth 1000000 in
theorem works_any (w : World) (ht : Tab w) : Calls Tryd.prog 10 #[] w fun e w' => e = .returned (.bool true) ∧ Below w.heap.size w w' := by
  have HT := Lib.hid ht; clear ht
  have H2 := Lib.hid (two_any w)
  go_enter Tryd.func10, Tryd.ntmps10
  go_wp2_with fail
  refine H2.out.mono ?_
  rintro e w1 ⟨b, rfl, hn1, hb1⟩
  have HP := Lib.hid (put_job 1 (HT.out.on hb1) hn1 two_fits)
  rw [pack_two] at HP
  have HB1 := Lib.hid hb1
  obtain ⟨T, hT⟩ : ∃ T, twoB = T := ⟨_, rfl⟩
  have HTT := Lib.hid hT
  rw [hT] at HP
  have hTs : (T.size : Int) = 19 := by rw [← hT, twoB_size]; rfl
  clear hn1 hb1 hT
  go_wp2_with fail
  refine HP.out.mono ?_
  rintro e w2 ⟨rfl, hb2⟩
  have HB2 := Lib.hid (HB1.out.trans (hb2.mono HB1.out.size))
  have HK := Lib.hid (take_any T (by omega) (HT.out.on HB2.out))
  unfold TakePost at HK
  have htk : takeO T = ((1, two), 0) := by rw [← HTT.out]; exact take_two
  rw [htk] at HK
  clear hb2 htk
  go_wp2_with fail
  refine HK.out.mono ?_
  rintro e w3 ⟨v, rfl, hn3, hb3⟩
  have HB3 := Lib.hid (HB2.out.trans (hb3.mono HB2.out.size))
  obtain ⟨a3, c3, rfl, -, -⟩ := id hn3
  have HN3 := Lib.hid hn3
  clear hb3 hn3
  go_upto_region 3 with fail
  obtain ⟨M, hM⟩ : ∃ M, w3.heap.size = M := ⟨_, rfl⟩
  obtain ⟨n2, hn2⟩ : ∃ n, two.length = n := ⟨_, rfl⟩
  have HN2 := Lib.hid hn2
  obtain ⟨W3, hW3⟩ : ∃ W3, w3.alloc (.cells #[.int .i64 1, .slice a3 n2 c3] 24) = W3 := ⟨_, rfl⟩
  rw [hM, hn2, hW3]
  have hz : W3.heap[M]? = some (.cells #[.int .i64 1, .slice a3 n2 c3] 24 (0, 0)) := by rw [← hW3]; exact heap_last hM.symm
  have hw3 : Below w3.heap.size w3 W3 := by rw [← hW3]; exact below_made _ _
  have HBW : Hid (Below w.heap.size w W3) := Lib.hid (HB3.out.trans (hw3.mono HB3.out.size))
  have HH : Hid (∀ w', Below W3.heap.size W3 w' → w'.cell? ⟨M, 0, none⟩ = some (.int .i64 1) ∧ w'.cell? ⟨M, 1, none⟩ = some (.slice a3 n2 c3)) := Lib.hid (fun w' h => ⟨cell_on (cell_of hz rfl) h, cell_on (cell_of hz rfl) h⟩)
  have HY2 : Hid (∀ w', Below W3.heap.size W3 w' → Calls Tryd.prog 21 #[] w' fun e w'' => ∃ b, e = .returned (.agg #[.int .i64 1, .slice (some ⟨b, 0, none⟩) 2 2]) ∧ Nodes w'' (.slice (some ⟨b, 0, none⟩) 2 2) two ∧ Below W3.heap.size W3 w'') := Lib.hid (fun w' h => (two_any w').mono fun e w'' h2 => by
    obtain ⟨b, h3, h4, h5⟩ := h2
    exact ⟨b, h3, h4, h.trans (h5.mono h.size)⟩)
  have HSA : Hid (∀ w' b, Nodes w' (.slice (some ⟨b, 0, none⟩) 2 2) two → Below W3.heap.size W3 w' → Calls Tryd.prog 14 #[.agg #[.int .i64 1, .slice a3 n2 c3], .agg #[.int .i64 1, .slice (some ⟨b, 0, none⟩) 2 2]] w' fun e w'' => e = .returned (.bool true) ∧ Below W3.heap.size W3 w'') := Lib.hid (fun w' b h2 h => by
    have h3 := (HN3.out.on hw3).on h
    rw [hn2] at h3
    exact (jobs_same 1 h3 h2 (by rw [hn2, ← hn2]; decide) two_small).mono fun e w'' h4 => ⟨h4.1, h.trans (h4.2.mono h.size)⟩)
  have HR : Hid (Below W3.heap.size W3 W3) := Lib.hid (Below.refl _ _)
  have hdec : ((T.size : Int) == 19) = true := by simp [hTs]
  clear hz hw3 hM hn2 hW3
  go_region_held3 (fun w' => w'.cell? ⟨M, 0, none⟩ = some (.int .i64 1) ∧ w'.cell? ⟨M, 1, none⟩ = some (.slice a3 n2 c3)) (first | exact HH.out _ HR.out.drew | exact HH.out _ hb4 | exact HH.out _ hb5) (first
    | (go_at_call 21; with_reducible refine (HY2.out _ ?_).mono ?_; exact HR.out.drew; rintro e w4 ⟨b4, rfl, hn4, hb4⟩)
    | (go_at_call 14; with_reducible refine (HSA.out _ _ hn4 hb4).mono ?_; rintro e w5 ⟨rfl, hb5⟩))
  all_goals (go_wp2_with fail; go_ret; exact ⟨rfl, HBW.out.trans (hb5.mono HBW.out.size)⟩)
set_option maxHeartbeats 1600000 in
set_option maxRecDepth 1000000 in
theorem law_known (w : World) (ht : Tab w) : Calls Tryd.prog 3 #[] w fun e w' => e = .returned (.bool true) ∧ Below w.heap.size w w' := by
  have HT := Lib.hid ht
  have H1 := Lib.hid (take_any (w := w) ⟨#[]⟩ (by decide) ht)
  unfold TakePost at H1
  rw [take_none] at H1
  clear ht
  go_enter Tryd.func3, Tryd.ntmps3
  go_wp2_with fail
  refine H1.out.mono ?_
  rintro e w1 ⟨v1, rfl, hn1, hb1⟩
  obtain ⟨a1, c1, rfl, -, -⟩ := id hn1
  have HB1 := Lib.hid hb1
  clear hn1 hb1
  have HA : Hid (∀ o, Below w.heap.size w (w1.alloc o)) := Lib.hid (fun o => HB1.out.alloc HB1.out.size _)
  have H2 : Hid (∀ o, Calls Tryd.prog 8 #[.string ⟨#[2, 2]⟩] (w1.alloc o) (TakePost ⟨#[2, 2]⟩ (w1.alloc o))) := Lib.hid (fun o => take_any (w := w1.alloc o) ⟨#[2, 2]⟩ (by decide) (HT.out.on (HA.out o)))
  unfold TakePost at H2
  rw [take_short] at H2
  have H2' := Lib.hid (H2.out (.cells #[.int .i64 0, .slice a1 ([] : List Nd).length c1] 24))
  go_wp2_with fail
  refine H2'.out.mono ?_
  rintro e w2 ⟨v2, rfl, hn2, hb2⟩
  obtain ⟨a2, c2, rfl, -, -⟩ := id hn2
  have HB2 := Lib.hid ((HA.out _).trans (hb2.mono (HA.out _).size))
  clear hn2 hb2
  have HA2 : Hid (∀ o, Below w.heap.size w (w2.alloc o)) := Lib.hid (fun o => HB2.out.alloc HB2.out.size _)
  have H3 : Hid (∀ o, Calls Tryd.prog 9 #[.agg #[.int .i64 0, .slice none 0 0]] (w2.alloc o) fun e w' => e = .returned (.tuple #[.string (packO 0 []).1, .int .i64 (packO 0 []).2]) ∧ Below (w2.alloc o).heap.size (w2.alloc o) w') := Lib.hid (fun o => put_job 0 (HT.out.on (HA2.out o)) (nodes_nil _) (fun nd h => by cases h))
  rw [pack_none] at H3
  have H3' := Lib.hid (H3.out (.cells #[.int .i64 0, .slice a2 ([] : List Nd).length c2] 24))
  go_wp2_with fail
  refine H3'.out.mono ?_
  rintro e w3 ⟨rfl, hb3⟩
  have HB3 := Lib.hid ((HA2.out _).trans (hb3.mono (HA2.out _).size))
  clear hb3
  have HW := Lib.hid (works_any w3 (HT.out.on HB3.out))
  go_wp2_with fail
  refine HW.out.mono ?_
  rintro e w4 ⟨rfl, hb4⟩
  have HB4 := Lib.hid (HB3.out.trans (hb4.mono HB3.out.size))
  clear hb4
  go_wp2_with fail
  go_ret
  exact ⟨rfl, HB4.out⟩
end Go.Proofs.YtnelfokfgnikfaaDoor.pk
