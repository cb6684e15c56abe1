/- What Put answers. -/
import Derived.Test.YtnelfokfgnikfaaDoorPkY
namespace Go.Proofs.YtnelfokfgnikfaaDoor.pk
set_option linter.unusedSimpArgs false
set_option linter.unusedVariables false
open Go.RowKit nam exp jb

theorem nodesB_take {l : List Nd} {k : Nat} (hk : k < l.length) : nodesB (l.take (k + 1)) = nodesB (l.take k) ++ nodeB l[k] := by
  apply bl_inj
  rw [bl_append, bl_nodesB, bl_nodesB, List.take_succ_eq_append_getElem hk, List.flatMap_append]
  simp
theorem nodesB_len : ∀ {l : List Nd}, (∀ nd ∈ l, NdFits nd ∧ nd.ins.length ≤ 1000 ∧ nd.x.size ≤ 10000) → (nodesB l).size ≤ 2000000 * l.length
  | [], _ => by simp [nodesB]
  | nd :: l, h => by
    obtain ⟨h1, h2, h3⟩ := h nd (by simp)
    have h4 := nodeB_len h1 h2 h3
    have h5 := nodesB_len (l := l) (fun m hm => h m (by simp [hm]))
    rw [nodesB, ByteArray.size_append, List.length_cons]
    omega
/-- What may be is small. -/
theorem may_small {par : Int} {l : List Nd} (h : (mayO par l).2 = 0) : l.length ≤ 12 ∧ byt.fits par ∧ ∀ nd ∈ l, nd.ins.length ≤ 1000 ∧ nd.x.size ≤ 10000 := by
  unfold mayO at h
  cases hb : boundedB par l with
  | false => rw [hb, if_pos rfl] at h; exact absurd h (by decide)
  | true =>
    rw [hb, if_neg (by simp)] at h
    have hl := bounded_len hb
    have h0 : (aloneO l).2 = 0 := by
      by_cases h1 : (aloneO l).2 = 0
      · exact h1
      · rw [if_pos h1] at h; exact absurd h h1
    have hpar : 1 ≤ par ∧ par ≤ 4 := by
      unfold boundedB at hb
      rw [Bool.and_eq_true, decide_eq_true_eq] at hb
      exact ⟨hb.1.1, hb.1.2.1⟩
    exact ⟨hl.1, ⟨by omega, by omega⟩, fun nd hn => ⟨(alone_all h0).2 nd hn, by have := hl.2 nd hn; omega⟩⟩
set_option maxHeartbeats 1600000 in
set_option maxRecDepth 1000000 in
theorem put_job {w : World} {v : Value} {l : List Nd} (par : Int) (ht : Tab w) (h : Nodes w v l) (hf : ∀ nd ∈ l, NdFits nd) :
    Calls Tryd.prog 9 #[.agg #[.int .i64 par, v]] w fun e w' => e = .returned (.tuple #[.string (packO par l).1, .int .i64 (packO par l).2]) ∧ Below w.heap.size w w' := by
  obtain ⟨a, c, rfl, -, hcl⟩ := id h
  obtain ⟨n, hn⟩ : ∃ n, l.length = n := ⟨_, rfl⟩
  rw [hn] at h ⊢
  obtain ⟨N, hN⟩ : ∃ N, w.heap.size = N := ⟨_, rfl⟩
  obtain ⟨W, hW⟩ : ∃ W, w.alloc (.cells #[.int .i64 par, .slice a n c] 24) = W := ⟨_, rfl⟩
  have hwb : Below w.heap.size w W := by rw [← hW]; exact below_made _ _
  have HZ : Hid (W.heap[N]? = some (.cells #[.int .i64 par, .slice a n c] 24 (0, 0))) := Lib.hid (by rw [← hW]; exact heap_last hN.symm)
  have HWS : Hid (W.heap.size = N + 1) := Lib.hid (by rw [← hW, ← hN]; simp)
  have HB := Lib.hid hwb; have HLN := Lib.hid hn; have HCL := Lib.hid hcl; have HF := Lib.hid hf
  have HM := Lib.hid (may_job par (ht.on hwb) (h.on hwb))
  obtain ⟨c0, c1, -, -⟩ := cells2 HZ.out
  obtain ⟨p, hp⟩ : ∃ p, (mayO par l).1 = p := ⟨_, rfl⟩
  obtain ⟨q, hq⟩ : ∃ q, (mayO par l).2 = q := ⟨_, rfl⟩
  rw [hp, hq] at HM
  by_cases hq0 : q = 0
  · have hsm := may_small (par := par) (l := l) (by rw [hq]; exact hq0)
    have HP : Hid (packO par l = (jobB par l, 0)) := Lib.hid (by unfold packO; rw [hq, if_neg (by simp [hq0])])
    have HSM := Lib.hid hsm.2.2
    have hn12 : n ≤ 12 := by rw [← hn]; exact hsm.1
    have HPF := Lib.hid hsm.2.1
    obtain ⟨t, htt⟩ : ∃ t, byt.txt (byt.flat [par, (n : Int)]) = t := ⟨_, rfl⟩
    have hnf : ∀ m ∈ [par, (n : Int)], byt.fits m := by
      intro m hm
      simp only [List.mem_cons, List.not_mem_nil, or_false] at hm
      rcases hm with rfl | rfl
      · exact hsm.2.1
      · exact ⟨by omega, by omega⟩
    have HPB : Hid (∀ w1 : World, Calls Tryd.prog 19 #[.slice (some ⟨w1.heap.size, 0, none⟩) 2 2] (w1.alloc (.cells #[.int .i64 par, .int .i64 (n : Int)] 2)) fun e w' => e = .returned (.string t) ∧ Below (w1.alloc (.cells #[.int .i64 par, .int .i64 (n : Int)] 2)).heap.size (w1.alloc (.cells #[.int .i64 par, .int .i64 (n : Int)] 2)) w') := Lib.hid (fun w1 => byt.put_at (l := [par, (n : Int)]) 2 htt (byt.rd_two w1 par n) hnf (by simp))
    have htz : t.size ≤ 20 := by rw [← htt]; exact flat_len hnf
    have HJB : Hid (jobB par l = t ++ nodesB l) := Lib.hid (by unfold jobB; rw [hn, htt])
    have HNZ : Hid (∀ k, (nodesB (l.take k)).size ≤ 24000000) := Lib.hid (fun k => by
      have h1 := nodesB_len (l := l.take k) (fun nd hnd => ⟨hf nd (List.mem_of_mem_take hnd), hsm.2.2 nd (List.mem_of_mem_take hnd)⟩)
      have h2 : (l.take k).length ≤ 12 := by rw [List.length_take]; omega
      omega)
    rw [HP.out, HJB.out]
    obtain ⟨J, hJ⟩ : ∃ J, t ++ nodesB l = J := ⟨_, rfl⟩
    have HJ := Lib.hid hJ
    rw [hJ]
    subst hq0
    clear ht h hwb hn hcl hf hp hq hsm htt hnf hJ
    go_enter Tryd.func9, Tryd.ntmps9
    go_wp2_with fail
    refine HM.out.mono ?_
    rintro e w1 ⟨rfl, hb1⟩
    have HB1 := Lib.hid hb1
    obtain ⟨c0, c1, -, -⟩ := cells2 ((hb1.block N (by rw [HWS.out]; omega)).trans HZ.out)
    have HPB1 := Lib.hid (HPB.out w1)
    have HBA : Hid (Below W.heap.size W (w1.alloc (.cells #[.int .i64 par, .int .i64 (n : Int)] 2))) := Lib.hid (HB1.out.alloc HB1.out.size _)
    clear hb1
    go_wp2_with fail
    refine HPB1.out.mono ?_
    rintro e w2 ⟨rfl, hb2⟩
    have hB2 := HBA.out.trans (hb2.mono HBA.out.size)
    have HB2 := Lib.hid hB2
    obtain ⟨c0, c1, -, -⟩ := cells2 ((hB2.block N (by rw [HWS.out]; omega)).trans HZ.out)
    clear hb2 hB2 hN hW
    go_wp2_with fail
    go_loopg [6, 26] n (fun g v6 v26 wr => ∃ k : Nat, k + g = n ∧ v26 = .int .i64 (k : Int) ∧ v6 = .string (t ++ nodesB (l.take k)) ∧ Below W.heap.size W wr)
    case atStart => exact ⟨0, by omega, rfl, by simp [nodesB], HB2.out⟩
    case round =>
      rename World => wr
      obtain ⟨k, hk, rfl, rfl, hb⟩ := hrel
      have HBR := Lib.hid hb
      have hnz := HNZ.out k
      by_cases hk' : k < n
      · have hkn : (k : Int) < (n : Int) := by omega
        have hkl : k < l.length := by rw [HLN.out]; exact hk'
        obtain ⟨b1, rfl, hat⟩ := HCL.out (by omega)
        obtain ⟨hlt, vi, va, p0, p1, p2, p3, p4, p5, p6, hvi, hva⟩ := (hat k hkl).on (HB.out.trans (hb.mono HB.out.size))
        have HTK : Hid (nodesB (l.take (k + 1)) = nodesB (l.take k) ++ nodeB l[k]) := Lib.hid (nodesB_take hkl)
        have hmem := List.getElem_mem hkl
        have hfx := HF.out _ hmem
        have hsx := HSM.out _ hmem
        obtain ⟨nd, hnd⟩ : ∃ nd, l[k] = nd := ⟨_, rfl⟩
        rw [hnd] at p0 p1 p3 p4 p6 hvi hva HTK hfx hsx
        obtain ⟨ai, ci, hvie, -⟩ := id hvi
        subst hvie
        obtain ⟨aa, ca, rfl, -⟩ := hva.form
        obtain ⟨W3, hW3⟩ : ∃ W3, wr.alloc (.cells #[.string nd.uid, .int .u8 (nd.kind : Int), .slice ai nd.ins.length ci, .int .u8 (nd.x.op : Int), .int .i64 nd.x.n, .slice aa nd.x.args.length ca, .int .i64 nd.n] 52) = W3 := ⟨_, rfl⟩
        have hwb3 : Below wr.heap.size wr W3 := by rw [← hW3]; exact below_made _ _
        obtain ⟨d0, d1, d2, d3, d4, d5, d6⟩ := box7 hW3
        have HC := Lib.hid (node_bytes (w := W3) (v := nodeV nd _ _) ⟨_, _, rfl, hvi.on hwb3, hva.under hwb3⟩ hfx hsx.1 hsx.2)
        have hbl := nodeB_len hfx hsx.1 hsx.2
        have HW3 : Hid (Below W.heap.size W W3) := Lib.hid (HBR.out.trans (hwb3.mono HBR.out.size))
        unfold nodeV at HC
        obtain ⟨Y, hY⟩ : ∃ Y, nodeB nd = Y := ⟨_, rfl⟩
        rw [hY] at HC HTK hbl
        obtain ⟨Z, hZ⟩ : ∃ Z, t ++ nodesB (l.take k) = Z := ⟨_, rfl⟩
        have hzs : Z.size ≤ 24000020 := by rw [← hZ, ByteArray.size_append]; omega
        have HZZ : Hid (t ++ nodesB (l.take (k + 1)) = Z ++ Y) := Lib.hid (by rw [HTK.out, ← hZ, ByteArray.append_assoc])
        rw [hZ]
        have hzs' : (Z.size : Int) ≤ 24000020 := by omega
        have hbl' : (Y.size : Int) ≤ 2000000 := by omega
        clear hb hnz hlt hvi hva hmem hfx hsx hnd hwb3 hY hZ hzs hbl hat hkl
        go_wp2_with fail
        refine HC.out.mono ?_
        rintro e w3 ⟨rfl, hb3⟩
        have HB3 := Lib.hid (HW3.out.trans (hb3.mono HW3.out.size))
        clear hb3
        go_wp2_with fail
        go_roundg (gk - 1)
        case measure => omega
        case rel => exact ⟨k + 1, by omega, by go_num, by rw [HZZ.out], HB3.out⟩
      · have hkn : ¬ (k : Int) < (n : Int) := by omega
        have htk : l.take k = l := List.take_of_length_le (by rw [HLN.out]; omega)
        rw [htk, HJ.out]
        have HX := Lib.hid (HB.out.trans (hb.mono HB.out.size))
        clear hb hnz htk
        go_wp2_with fail
        try rw [Exit.noGoto_ret]
        go_ret2
        exact ⟨rfl, HX.out⟩
  · have HP : Hid (packO par l = (ByteArray.empty, 2)) := Lib.hid (by unfold packO; rw [hq, if_pos hq0])
    rw [HP.out]
    have hne : (q != 0) = true := by simp [hq0]
    clear ht h hwb hn hcl hf hp hq hq0
    go_enter Tryd.func9, Tryd.ntmps9
    go_wp2_with fail
    refine HM.out.mono ?_
    rintro e w1 ⟨rfl, hb1⟩
    have HX := Lib.hid (HB.out.trans (hb1.mono HB.out.size)); clear hb1
    go_wp2_with fail
    go_ret2
    exact ⟨rfl, HX.out⟩
end Go.Proofs.YtnelfokfgnikfaaDoor.pk
