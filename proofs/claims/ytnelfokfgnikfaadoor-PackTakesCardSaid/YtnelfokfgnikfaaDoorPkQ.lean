/- What Take answers. -/
import Derived.Test.YtnelfokfgnikfaaDoorPkZ
namespace Go.Proofs.YtnelfokfgnikfaaDoor.pk
set_option linter.unusedSimpArgs false
set_option linter.unusedVariables false
open Go.RowKit nam exp jb

theorem rowO_all {α : Type} {f : St → α × St} {P : α → Prop} (h : ∀ q, P (f q).1) : ∀ (n : Nat) (q : St), ∀ x ∈ (rowO f n q).1, P x
  | 0, q, x, hx => by simp [rowO] at hx
  | n + 1, q, x, hx => by
    rw [rowO] at hx
    rcases List.mem_cons.1 hx with rfl | h1
    · exact h q
    · exact rowO_all h n _ x h1
theorem byte_fits {q : St} {why : Int} : byt.fits ((withinO 255 why q).1.toNat : Int) := by
  have := within_range (most := 255) (why := why) (q := q) (by omega)
  exact ⟨by omega, by omega⟩
theorem expr_fits : ∀ (l : Nat) (q : St), ∀ m ∈ exN (exprO l q).1, byt.fits m
  | 0, q, m, hm => by
    have : exN (exprO 0 q).1 = [0, 0, 0] := by rw [exprO, exN_eq]; simp [Ex.zero, Ex.op, Ex.n, Ex.args, exNs_nil]
    rw [this] at hm
    simp at hm
    rw [hm]
    exact ⟨by omega, by omega⟩
  | l + 1, q, m, hm => by
    rw [exprO, exN_eq] at hm
    simp only [Ex.op, Ex.n, Ex.args, rowO_len, List.mem_cons] at hm
    rcases hm with rfl | rfl | rfl | hm
    · exact byte_fits
    · exact num_fits
    · have hm3 : (0 : Int) ≤ if l = 0 then 0 else 3 := by split <;> omega
      have h3 := within_range (most := if l = 0 then 0 else 3) (why := 3) (q := (numO (withinO 255 2 q).2).2) hm3
      have h4 : (if l = 0 then (0 : Int) else 3) ≤ 3 := by split <;> omega
      exact ⟨by omega, by omega⟩
    · exact exNs_all (P := byt.fits) (fun x hx => rowO_all (P := fun x => ∀ m ∈ exN x, byt.fits m) (fun q => expr_fits l q) _ _ x hx) m hm
theorem text_size {q : St} : (textO q).1.size ≤ 65536 := by
  unfold textO
  split
  · simp
  · show (byt.textO q.rest).1.size ≤ 65536
    have h0 : (byt.txt []).size ≤ 65536 := by rw [byt.txt_size]; simp
    unfold byt.textO
    split
    · exact h0
    split
    · exact h0
    split
    · exact h0
    split
    · exact h0
    · simp only [ByteArray.size_extract]
      omega
theorem node_fits (q : St) : NdFits (nodeO q).1 := by
  refine ⟨fun m hm => ?_, text_size⟩
  unfold nodeN nodeO at hm
  simp only [List.cons_append, List.mem_cons, List.mem_append] at hm
  rcases hm with rfl | rfl | rfl | hm | hm
  · exact byte_fits
  · exact num_fits
  · unfold insO
    rw [rowO_len]
    have := within_range (most := 12) (why := 3) (q := (headO q).2) (by omega)
    exact ⟨by omega, by omega⟩
  · exact rowO_all (P := byt.fits) (fun q => num_fits) _ _ m hm
  · exact expr_fits 17 _ m hm
theorem job_fits (q : St) : ∀ nd ∈ (jobO q).1.2, NdFits nd := by
  unfold jobO nodesO
  exact rowO_all (P := NdFits) node_fits _ _
theorem str_yes {a b : ByteArray} (h : a = b) : (a.toList == b.toList) = true := by subst h; simp
theorem setSame {w : World} {b j : Nat} {z : Value} {cur : Array Value} {t : TypeId} {fr : Nat × Nat} (h : w.heap[b]? = some (.cells cur t fr)) (hz : cur[j]? = some z) : w.setCell ⟨b, j, none⟩ z = w := by
  have hc : cur.setIfInBounds j z = cur := by
    apply Array.ext_getElem?
    intro i
    rw [Array.getElem?_setIfInBounds]
    split
    · rename_i hij
      subst hij
      split
      · exact hz.symm
      · rename_i hlt
        rw [Array.getElem?_eq_none (by omega)]
    · rfl
  have hh : (w.setCell ⟨b, j, none⟩ z).heap = w.heap := by
    apply Array.ext_getElem?
    intro k
    by_cases hk : k = b
    · subst hk
      rw [setCell_heap h, hc, h]
    · exact Below.heap_setCell _ _ _ _ hk
  unfold World.setCell at hh ⊢
  cases w
  simp only at hh ⊢
  rw [hh]
theorem setSame2 {w : World} {b : Nat} {x y : Value} {t : TypeId} (h : w.heap[b]? = some (.cells #[x, y] t (0, 0))) : (w.setCell ⟨b, 0, none⟩ x).setCell ⟨b, 1, none⟩ y = w := by
  have e1 : w.setCell ⟨b, 0, none⟩ x = w := setSame h rfl
  rw [e1]
  exact setSame h rfl
def TakePost (s : ByteArray) (w : World) (e : Ending) (w' : World) : Prop := ∃ v, e = .returned (.tuple #[.agg #[.int .i64 (takeO s).1.1, v], .int .i64 (takeO s).2]) ∧ Nodes w' v (takeO s).1.2 ∧ Below w.heap.size w w'
theorem nodes_nil (w : World) : Nodes w (.slice none 0 0) [] := ⟨none, 0, rfl, Nat.le_refl _, fun h => by simp at h⟩
theorem NRowsAt.below {H : Nat} {w w' : World} {v : Value} {rows : List NRow} (h : NRowsAt H w v rows) (hb : Below w.heap.size w w') : NRowsAt H w' v rows :=
  ⟨own_below' h.1 hb, fun c hc => ⟨own_below' (h.2 c hc).1 hb, (h.2 c hc).2.under hb⟩⟩
theorem fault_cell {w : World} {f : Nat} {c : Int} (cf : w.cell? ⟨f, 0, none⟩ = some (.int .i64 c)) : Calls Tryd.prog 40 #[ptr f] w fun e w' => e = .returned (.int .i64 c) ∧ w = w' := by
  go_enter Tryd.func40, Tryd.ntmps40
  go_wp2_with fail
  go_ret
  exact ⟨rfl, rfl⟩
theorem enters4 (args : Array Value) (w : World) : (callFunc 40 args).run Tryd.prog w = .ok (.enter 40 args) w := enters_of Tryd.func40 (by kernel_rfl) rfl args w
set_option maxHeartbeats 1600000 in
set_option maxRecDepth 1000000 in
theorem take_any {w : World} (s : ByteArray) (hs : s.size ≤ 1000000000) (ht : Tab w) : Calls Tryd.prog 8 #[.string s] w (TakePost s w) := by
  obtain ⟨N, hN⟩ : ∃ N, w.heap.size = N := ⟨_, rfl⟩
  obtain ⟨W, hW⟩ : ∃ W, w.alloc (.cells #[.int .i64 0, .slice none 0 0] 24) = W := ⟨_, rfl⟩
  have hwb : Below w.heap.size w W := by rw [← hW]; exact below_made _ _
  have HZ : Hid (W.heap[N]? = some (.cells #[.int .i64 0, .slice none 0 0] 24 (0, 0))) := Lib.hid (by rw [← hW]; exact heap_last hN.symm)
  have HWS : Hid (W.heap.size = N + 1) := Lib.hid (by rw [← hW, ← hN]; simp)
  have HB := Lib.hid hwb; have HT := Lib.hid ht; have HNN := Lib.hid hN
  have HOF := Lib.hid (readerOf_any s W hs)
  clear hwb ht hs
  go_enter Tryd.func8, Tryd.ntmps8
  go_wp2_with fail
  refine HOF.out.mono ?_
  rintro e w1 ⟨L, rfl, hr, hb1, hla, hlf⟩
  have HR1 := Lib.hid hr; have HB1 := Lib.hid hb1; have HLA := Lib.hid (And.intro hla hlf)
  unfold rdV numV withinV textV faultV
  obtain ⟨b, hb⟩ : ∃ b, w1.heap.size = b := ⟨_, rfl⟩
  clear hr hb1 hla hlf hW hN
  go_upto_region 2 with fail
  obtain ⟨W2, hW2⟩ : ∃ W2, w1.alloc (.cells #[numV L, withinV L, textV L, faultV L] 41) = W2 := ⟨_, rfl⟩
  have HX2 : Hid (W2.heap[b]? = some (.cells #[numV L, withinV L, textV L, faultV L] 41 (0, 0))) := Lib.hid (by rw [← hW2]; exact heap_last hb.symm)
  have HR2 : Hid (IsR W2 L ⟨s, 0⟩) := Lib.hid (by rw [← hW2]; exact HR1.out.under (below_made _ _))
  have HB2 : Hid (Below W.heap.size W W2) := Lib.hid (by rw [← hW2]; exact HB1.out.alloc HB1.out.size _)
  have HZ2 : Hid (W2.heap[N]? = some (.cells #[.int .i64 0, .slice none 0 0] 24 (0, 0))) := Lib.hid ((HB2.out.block N (by rw [HWS.out]; omega)).trans HZ.out)
  have HNB : Hid (N < b) := Lib.hid (by have := HB1.out.size; have := HWS.out; omega)
  unfold numV withinV textV faultV at hW2
  rw [hW2]
  have hx2 := HX2.out
  unfold numV withinV textV faultV at hx2
  have x0 : W2.cell? ⟨b, 0, none⟩ = some _ := cell_of hx2 rfl
  have x1 : W2.cell? ⟨b, 1, none⟩ = some _ := cell_of hx2 rfl
  have x2 : W2.cell? ⟨b, 2, none⟩ = some _ := cell_of hx2 rfl
  have x3 : W2.cell? ⟨b, 3, none⟩ = some _ := cell_of hx2 rfl
  obtain ⟨par, hpar⟩ : ∃ p, (jobO ⟨s, 0⟩).1.1 = p := ⟨_, rfl⟩
  obtain ⟨l, hl⟩ : ∃ l, (jobO ⟨s, 0⟩).1.2 = l := ⟨_, rfl⟩
  obtain ⟨q, hq⟩ : ∃ q, (jobO ⟨s, 0⟩).2 = q := ⟨_, rfl⟩
  have HJ : Hid (jobO ⟨s, 0⟩ = ((par, l), q)) := Lib.hid (by rw [← hpar, ← hl, ← hq])
  have HRJ := Lib.hid (readJob_any HR2.out)
  rw [HJ.out] at HRJ
  unfold rdV numV withinV textV faultV at HRJ
  have HNF : Hid (∀ nd ∈ l, NdFits nd) := Lib.hid (by rw [← hl]; exact job_fits _)
  clear hx2 hW2 hpar hl hq hb
  go_wp2_with fail
  refine HRJ.out.mono ?_
  rintro e w3 ⟨v, rows, rfl, hmap, hrows, hp⟩
  obtain ⟨av, cv, rfl⟩ := hrows.form
  obtain ⟨nv, hnv⟩ : ∃ n, rows.length = n := ⟨_, rfl⟩
  have HNV := Lib.hid hnv
  rw [hnv] at hrows ⊢
  have HRO := Lib.hid hrows; have HMP := Lib.hid hmap; have HP3 := Lib.hid hp
  have HZ3 := Lib.hid (hp.2.ty HR2.out HZ2.out (by decide) (by decide))
  have HX3 := Lib.hid (hp.2.ty HR2.out HX2.out (by decide) (by decide))
  have hB3 : Below w.heap.size W2 w3 := hp.2.below (by have := HLA.out.1; have := HB.out.size; omega) (by have := HLA.out.2; have := HB.out.size; omega) (by have := HB.out.size; have := HB2.out.size; omega)
  have HB3 : Hid (Below w.heap.size w w3) := Lib.hid ((HB.out.trans (HB2.out.mono HB.out.size)).trans hB3)
  obtain ⟨z0, z1, f0, f1⟩ := cells2 HZ3.out
  clear hmap hrows hp hnv hB3 x0 x1 x2 x3
  unfold jobV
  go_upto_region 3 with fail
  obtain ⟨W3, hW3⟩ : ∃ W3, (w3.setCell ⟨N, 0, none⟩ (.int .i64 par)).setCell ⟨N, 1, none⟩ (.slice av nv cv) = W3 := ⟨_, rfl⟩
  rw [hW3]
  have HE3 : Hid (W3.heap[N]? = some (.cells #[.int .i64 par, .slice av nv cv] 24 (0, 0))) := Lib.hid (by rw [← hW3]; exact set2 HZ3.out)
  have hother : ∀ k, k ≠ N → W3.heap[k]? = w3.heap[k]? := fun k hk => by rw [← hW3, Below.heap_setCell _ _ _ _ hk, Below.heap_setCell _ _ _ _ hk]
  have hfN : L.f ≠ N := by have := HLA.out.2; have := HWS.out; omega
  have hbN : b ≠ N := by have := HNB.out; omega
  have HCF : Hid (W3.cell? ⟨L.f, 0, none⟩ = some (.int .i64 q.err)) := Lib.hid (cell_of ((hother _ hfN).trans HP3.out.1.err) rfl)
  have x3 : W3.cell? ⟨b, 3, none⟩ = some (.func (.func 40) #[] #[ptr L.f]) := cell_of ((hother _ hbN).trans HX3.out) rfl
  have HNO : Hid (Nodes W3 (.slice av nv cv) l) := Lib.hid (by
    rw [← hW3, ← HMP.out]
    have hNW : N < W2.heap.size := (Array.getElem?_eq_some_iff.1 HZ2.out).1
    exact ((HRO.out.put hNW).put hNW).nodes)
  have HB4 : Hid (Below w.heap.size w W3) := Lib.hid (by
    rw [← hW3]
    have hNN := HNN.out
    exact (HB3.out.setCell (p := ⟨N, 0, none⟩) (by show w.heap.size ≤ N; omega) _).setCell (p := ⟨N, 1, none⟩) (by show w.heap.size ≤ N; omega) _)
  have HFA := Lib.hid (fault_cell HCF.out)
  have hen4 := enters4
  have HFN := Lib.hid (HJ.out)
  obtain ⟨E, hE⟩ : ∃ E, q.err = E := ⟨_, rfl⟩
  rw [hE] at HFA
  have HSZ : Hid (∀ w', Below w.heap.size w w' → Below w.heap.size w ((w'.setCell ⟨N, 0, none⟩ (.int .i64 0)).setCell ⟨N, 1, none⟩ (.slice none 0 0))) := Lib.hid (fun w' h => by
    have hNN := HNN.out
    exact (h.setCell (p := ⟨N, 0, none⟩) (by show w.heap.size ≤ N; omega) _).setCell (p := ⟨N, 1, none⟩) (by show w.heap.size ≤ N; omega) _)
  obtain ⟨y0, y1, g0, g1⟩ := cells2 HE3.out
  clear z0 z1 f0 f1 hother hW3 hfN hbN
  by_cases hE0 : E = 0
  · have hEb : (E != 0) = false := by simp [hE0]
    have HPJ := Lib.hid (put_job par (HT.out.on HB4.out) HNO.out HNF.out)
    obtain ⟨t, ht⟩ : ∃ t, (packO par l).1 = t := ⟨_, rfl⟩
    obtain ⟨c, hc⟩ : ∃ c, (packO par l).2 = c := ⟨_, rfl⟩
    rw [ht, hc] at HPJ
    have HTO : Hid (takeO s = if (mayO par l).2 ≠ 0 ∨ q.rest.size ≠ 0 then ((0, []), 2) else ((par, l), 0)) := Lib.hid (by
      unfold takeO
      rw [HJ.out, if_neg (by rw [hE, hE0]; simp)])
    have HAG : Hid (jobB par l = s ↔ q.rest.size = 0) := Lib.hid (by
      have h1 := job_again (s := s) (by rw [HJ.out]; show q.err = 0; rw [hE, hE0])
      rw [HJ.out] at h1
      exact h1)
    by_cases hm : (mayO par l).2 = 0
    · have hpk : packO par l = (jobB par l, 0) := by unfold packO; rw [if_neg (by simp [hm])]
      obtain rfl : c = 0 := by rw [← hc, hpk]
      have htj : t = jobB par l := by rw [← ht, hpk]
      by_cases hts : t = s
      · have hr0 : q.rest.size = 0 := HAG.out.1 (by rw [← htj]; exact hts)
        have HTF : Hid (takeO s = ((par, l), 0)) := Lib.hid (by rw [HTO.out, if_neg (by simp [hm, hr0])])
        have hsb := str_yes hts
        clear hm hpk htj hts hr0 ht hc hE hE0
        go_wp2_with fail
        refine HFA.out.mono ?_
        rintro e w4 ⟨rfl, rfl⟩
        go_wp2_with fail
        refine HPJ.out.mono ?_
        rintro e w5 ⟨rfl, hb5⟩
        have HB5 := Lib.hid hb5
        have HE5 := Lib.hid ((hb5.block N (Array.getElem?_eq_some_iff.1 HE3.out).1).trans HE3.out)
        clear hb5 y0 y1 g0 g1 x3
        obtain ⟨y0, y1, g0, g1⟩ := cells2 HE5.out
        go_wp2_with fail
        obtain ⟨e0, e1, -, -⟩ := cells2 (set2 (x' := .int .i64 par) (y' := .slice av nv cv) HE5.out)
        refine bodyPost_ret (v := .tuple #[.agg #[.int .i64 par, .slice av nv cv], .int .i64 0]) (by simp [results, Tryd.f8, go_sem, e0, e1]) rfl ?_
        unfold TakePost
        rw [HTF.out]
        have hsame := setSame2 HE5.out
        refine ⟨_, rfl, ?_, ?_⟩
        · rw [hsame]; exact HNO.out.on HB5.out
        · rw [hsame]; exact HB4.out.trans (HB5.out.mono HB4.out.size)
      · have HTF : Hid (takeO s = ((0, []), 2)) := Lib.hid (by rw [HTO.out, if_pos (.inr (fun h => hts (by rw [htj]; exact HAG.out.2 h)))])
        have hsb := byt.str_ne hts
        clear hm hpk htj hts ht hc hE hE0
        go_wp2_with fail
        refine HFA.out.mono ?_
        rintro e w4 ⟨rfl, rfl⟩
        go_wp2_with fail
        refine HPJ.out.mono ?_
        rintro e w5 ⟨rfl, hb5⟩
        have HB5 := Lib.hid hb5
        have HE5 := Lib.hid ((hb5.block N (Array.getElem?_eq_some_iff.1 HE3.out).1).trans HE3.out)
        clear hb5 y0 y1 g0 g1 x3
        obtain ⟨y0, y1, g0, g1⟩ := cells2 HE5.out
        go_wp2_with fail
        obtain ⟨e0, e1, -, -⟩ := cells2 (set2 (x' := .int .i64 0) (y' := .slice none 0 0) HE5.out)
        refine bodyPost_ret (v := .tuple #[.agg #[.int .i64 0, .slice none 0 0], .int .i64 2]) (by simp [results, Tryd.f8, go_sem, e0, e1]) rfl ?_
        unfold TakePost
        rw [HTF.out]
        exact ⟨_, rfl, nodes_nil _, HSZ.out _ (HB4.out.trans (HB5.out.mono HB4.out.size))⟩
    · have hpk : packO par l = (ByteArray.empty, 2) := by unfold packO; rw [if_pos hm]
      obtain rfl : c = 2 := by rw [← hc, hpk]
      have HTF : Hid (takeO s = ((0, []), 2)) := Lib.hid (by rw [HTO.out, if_pos (.inl hm)])
      clear hm hpk ht hc hE hE0
      go_wp2_with fail
      refine HFA.out.mono ?_
      rintro e w4 ⟨rfl, rfl⟩
      go_wp2_with fail
      refine HPJ.out.mono ?_
      rintro e w5 ⟨rfl, hb5⟩
      have HB5 := Lib.hid hb5
      have HE5 := Lib.hid ((hb5.block N (Array.getElem?_eq_some_iff.1 HE3.out).1).trans HE3.out)
      clear hb5 y0 y1 g0 g1 x3
      obtain ⟨y0, y1, g0, g1⟩ := cells2 HE5.out
      go_wp2_with fail
      obtain ⟨e0, e1, -, -⟩ := cells2 (set2 (x' := .int .i64 0) (y' := .slice none 0 0) HE5.out)
      refine bodyPost_ret (v := .tuple #[.agg #[.int .i64 0, .slice none 0 0], .int .i64 2]) (by simp [results, Tryd.f8, go_sem, e0, e1]) rfl ?_
      unfold TakePost
      rw [HTF.out]
      exact ⟨_, rfl, nodes_nil _, HSZ.out _ (HB4.out.trans (HB5.out.mono HB4.out.size))⟩
  · have hEb : (E != 0) = true := by simp [hE0]
    have HTF : Hid (takeO s = ((0, []), E)) := Lib.hid (by unfold takeO; rw [HJ.out]; simp only; rw [hE, if_pos hE0])
    clear hE hE0
    go_wp2_with fail
    refine HFA.out.mono ?_
    rintro e w4 ⟨rfl, rfl⟩
    go_wp2_with fail
    obtain ⟨e0, e1, -, -⟩ := cells2 (set2 (x' := .int .i64 0) (y' := .slice none 0 0) HE3.out)
    refine bodyPost_ret (v := .tuple #[.agg #[.int .i64 0, .slice none 0 0], .int .i64 E]) (by simp [results, Tryd.f8, go_sem, e0, e1]) rfl ?_
    unfold TakePost
    rw [HTF.out]
    exact ⟨_, rfl, nodes_nil _, HSZ.out _ HB4.out⟩
end Go.Proofs.YtnelfokfgnikfaaDoor.pk
