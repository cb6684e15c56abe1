/- What nodeBytes and Put answer. -/
import Derived.Test.YtnelfokfgnikfaaDoorPkX
import Derived.Test.YtnelfokfgnikfaaDoorPkW
namespace Go.Proofs.YtnelfokfgnikfaaDoor.pk
set_option linter.unusedSimpArgs false
set_option linter.unusedVariables false
open Go.RowKit nam exp jb

theorem rd_of {w : World} {a : Option Addr} {n cap : Nat} {l : List Int} (h : lg.Row w 2 1 (.slice a n cap) l.length (l.map byt.intV)) : byt.Rd w w.heap.size a l := fun hl => by
  rcases h.2 with ⟨h0, h1⟩ | ⟨g, c, cur, hv, hg, _⟩
  · exact absurd (List.eq_nil_of_length_eq_zero h1) hl
  · simp only [Value.slice.injEq] at hv
    obtain ⟨rfl, rfl, rfl⟩ := hv
    refine ⟨g, 0, rfl, (Array.getElem?_eq_some_iff.1 hg).1, fun j hj => ?_⟩
    have := h.cellAt (j := j) (u := .int .i64 (l.getD j 0)) (by rw [List.getElem?_map, List.getElem?_eq_getElem hj, List.getD_eq_getElem?_getD, List.getElem?_eq_getElem hj]; rfl)
    rw [Nat.zero_add]
    exact this
/-- A row that was made at once. -/
theorem row_made {w W : World} {xs : List Int} (hW : w.alloc (.cells (xs.map byt.intV).toArray 2) = W) (h0 : xs ≠ []) (hm : xs.length ≤ 1000) : RowN W (.slice (some ⟨w.heap.size, 0, none⟩) xs.length xs.length) xs := by
  subst hW
  refine ⟨by simp, .inr ⟨w.heap.size, xs.length, _, rfl, heap_last rfl, Nat.le_refl _, by unfold maxLen; omega, by simp, by rw [Nat.mul_one]; exact List.take_of_length_le (by simp)⟩⟩
/-- What may be put. -/
def NdFits (nd : Nd) : Prop := (∀ m ∈ nodeN nd, byt.fits m) ∧ nd.uid.size ≤ 65536
theorem nodeN_len (nd : Nd) : (nodeN nd).length = 3 + nd.ins.length + 3 * nd.x.size := by
  unfold nodeN
  simp only [List.cons_append, List.length_cons, List.length_append, exN_len]
  omega
theorem flat_len {l : List Int} (h : ∀ n ∈ l, byt.fits n) : (byt.txt (byt.flat l)).size ≤ 10 * l.length := by rw [byt.txt_size]; exact byt.flat_size l h
theorem putO_len {s : ByteArray} (h : s.size ≤ 65536) : (byt.putO s).1.size ≤ s.size + 10 ∧ (byt.putO s).2 = 0 := by
  unfold byt.putO
  rw [if_neg (by omega)]
  have := byt.sev_room (byt.fits_size (s := s) (by omega))
  simp only [ByteArray.size_append]
  exact ⟨by omega, trivial⟩
theorem nodeB_len {nd : Nd} (h : NdFits nd) (hi : nd.ins.length ≤ 1000) (hx : nd.x.size ≤ 10000) : (nodeB nd).size ≤ 2000000 := by
  unfold nodeB
  rw [ByteArray.size_append]
  have h1 := flat_len h.1
  rw [nodeN_len] at h1
  have h2 := (putO_len h.2).1
  have := h.2
  omega
set_option maxHeartbeats 1600000 in
set_option maxRecDepth 1000000 in
theorem node_bytes {w : World} {v : Value} {nd : Nd} (h : NodeIs w v nd) (hf : NdFits nd) (hi : nd.ins.length ≤ 1000) (hx : nd.x.size ≤ 10000) :
    Calls Tryd.prog 20 #[v] w fun e w' => e = .returned (.string (nodeB nd)) ∧ Below w.heap.size w w' := by
  obtain ⟨i0, hi0, hz0, hz1, hz2⟩ := info_parts info2
  obtain ⟨vi, va, rfl, hvi, hva⟩ := h
  obtain ⟨ai, ci, hvie, hcells⟩ := id hvi
  subst hvie
  obtain ⟨aa, ca, rfl, -⟩ := hva.form
  obtain ⟨N, hN⟩ : ∃ N, w.heap.size = N := ⟨_, rfl⟩
  obtain ⟨ni, hni⟩ : ∃ n, nd.ins.length = n := ⟨_, rfl⟩
  obtain ⟨na, hna⟩ : ∃ n, nd.x.args.length = n := ⟨_, rfl⟩
  obtain ⟨W, hW⟩ : ∃ W, w.alloc (.cells #[.string nd.uid, .int .u8 (nd.kind : Int), .slice ai ni ci, .int .u8 (nd.x.op : Int), .int .i64 nd.x.n, .slice aa na ca, .int .i64 nd.n] 52) = W := ⟨_, rfl⟩
  have hwb : Below w.heap.size w W := by rw [← hW]; exact below_made _ _
  have HZ : Hid (W.heap[N]? = some (.cells #[.string nd.uid, .int .u8 (nd.kind : Int), .slice ai ni ci, .int .u8 (nd.x.op : Int), .int .i64 nd.x.n, .slice aa na ca, .int .i64 nd.n] 52 (0, 0))) := Lib.hid (by rw [← hW]; exact heap_last hN.symm)
  have HWS : Hid (W.heap.size = N + 1) := Lib.hid (by rw [← hW, ← hN]; simp)
  have HB := Lib.hid hwb; have HNN := Lib.hid hN
  have HVI := Lib.hid hvi; have HVA := Lib.hid hva; have HCE := Lib.hid hcells
  have HNI := Lib.hid hni; have HNA := Lib.hid hna
  obtain ⟨t, ht⟩ : ∃ t, (byt.putO nd.uid).1 = t := ⟨_, rfl⟩
  have hpu : byt.putO nd.uid = (t, 0) := by rw [← ht, ← (putO_len hf.2).2]
  have HPT := Lib.hid (byt.putText_at hpu W (by have := hf.2; omega))
  have hkf : (nd.kind : Int) ≤ 9223372036854775807 := (hf.1 nd.kind (by simp [nodeN])).2
  have hk0 : (0 : Int) ≤ (nd.kind : Int) := by omega
  have HFF := Lib.hid hf.1
  obtain ⟨u, hu⟩ : ∃ u, byt.txt (byt.flat (nodeN nd)) = u := ⟨_, rfl⟩
  have HU := Lib.hid hu
  have HT : Hid (nodeB nd = t ++ u) := Lib.hid (by unfold nodeB; rw [ht, hu])
  have HNL := Lib.hid (nodeN_len nd)
  have htz := (putO_len hf.2).1
  rw [ht] at htz
  have HTZ : Hid ((t.size : Int) ≤ 70000) := Lib.hid (by have := hf.2; omega)
  rw [HT.out]
  have HND : Hid (nodeN nd = [(nd.kind : Int), nd.n, (ni : Int)] ++ nd.ins ++ exN nd.x) := Lib.hid (by unfold nodeN; rw [hni]; simp)
  unfold nodeV
  rw [hni, hna]
  obtain ⟨c0, c1, c2, c3, c4, c5, c6, -⟩ := cells7 HZ.out
  have hni1 : (ni : Int) ≤ 1000 := by omega
  have HHX := Lib.hid hx
  clear hvi hva hcells hwb hni hna ht hpu hf hi hx htz hu
  go_enter Tryd.func20, Tryd.ntmps20
  go_wp2_with fail
  refine HPT.out.mono ?_
  rintro e w1 ⟨rfl, hb1⟩
  obtain ⟨c0, c1, c2, c3, c4, c5, c6, -⟩ := cells7 ((hb1.block N (by rw [HWS.out]; omega)).trans HZ.out)
  have HB1 := Lib.hid hb1
  clear hb1 hW hN
  go_upto_region 3 with fail
  obtain ⟨W2, hW2⟩ : ∃ W2, w1.alloc (.cells #[.int .i64 (nd.kind : Int), .int .i64 nd.n, .int .i64 (ni : Int)] 2) = W2 := ⟨_, rfl⟩
  have hR2 : RowN W2 (.slice (some ⟨w1.heap.size, 0, none⟩) 3 3) [(nd.kind : Int), nd.n, (ni : Int)] := row_made (xs := [(nd.kind : Int), nd.n, (ni : Int)]) hW2 (by simp) (by simp)
  have hB2 : Below W.heap.size W W2 := by rw [← hW2]; exact HB1.out.alloc HB1.out.size _
  obtain ⟨v0, hv0⟩ : ∃ v0, Value.slice (some ⟨w1.heap.size, 0, none⟩) 3 3 = v0 := ⟨_, rfl⟩
  rw [hv0] at hR2
  have HR2 := Lib.hid hR2; have HB2 := Lib.hid hB2
  have HV0 : Hid (∀ g, v0.ownBlock = some g → W.heap.size ≤ g) := Lib.hid (fun g hg => by rw [← hv0] at hg; simp only [Value.ownBlock, Option.some.injEq] at hg; rw [← hg]; exact HB1.out.size)
  rw [hW2, hv0]
  obtain ⟨c0, c1, c2, c3, c4, c5, c6, -⟩ := cells7 ((hB2.block N (by rw [HWS.out]; omega)).trans HZ.out)
  clear hR2 hB2 hW2 hv0
  go_wp2_with fail
  go_loopg [5, 26] ni (fun g v5 v26 wr => ∃ k : Nat, k + g = ni ∧ v26 = .int .i64 (k : Int) ∧ RowN wr v5 ([(nd.kind : Int), nd.n, (ni : Int)] ++ nd.ins.take k) ∧ Below W.heap.size W wr ∧ ∀ g, v5.ownBlock = some g → W.heap.size ≤ g)
  case atStart => exact ⟨0, by omega, rfl, by simpa using HR2.out, HB2.out, HV0.out⟩
  case round =>
    rename World => wr
    obtain ⟨k, hk, rfl, hr, hb, hnw⟩ := hrel
    have HR := Lib.hid hr; have HBR := Lib.hid hb; have HNW := Lib.hid hnw
    have hkni : (k : Int) ≤ (ni : Int) := by omega
    by_cases hk' : k < ni
    · have hkn : (k : Int) < (ni : Int) := by omega
      have hkl : k < nd.ins.length := by rw [HNI.out]; exact hk'
      obtain ⟨b1, o1, rfl, hlt, hcs⟩ := HCE.out (by omega)
      have hc := ((HB.out.trans (hb.mono HB.out.size)).cell (p := ⟨b1, o1 + k, none⟩) hlt).trans (hcs k hkl)
      have hTK : nd.ins.take (k + 1) = nd.ins.take k ++ [nd.ins[k]] := List.take_succ_eq_append_getElem hkl
      obtain ⟨X, hX⟩ : ∃ X, nd.ins[k] = X := ⟨_, rfl⟩
      rw [hX] at hc hTK
      obtain ⟨L0, hL0⟩ : ∃ L0, [(nd.kind : Int), nd.n, (ni : Int)] ++ nd.ins.take k = L0 := ⟨_, rfl⟩
      have HL0 : Hid ([(nd.kind : Int), nd.n, (ni : Int)] ++ nd.ins.take (k + 1) = L0 ++ [X]) := Lib.hid (by rw [hTK, ← hL0, List.append_assoc])
      have hlen : L0.length ≤ 2000 := by rw [← hL0]; simp; omega
      rw [hL0] at HR hr
      have HRA : Hid (∀ o, lg.Row (wr.alloc o) 2 1 u5 L0.length (L0.map byt.intV)) := Lib.hid (fun o => lg.Row.below (w := wr) hr (below_made wr o))
      clear hr hb hnw hlt hcs hTK hX hL0 hkl
      go_wp2_with (at_builtin; refine lg.wpList_append_row _ rfl (.tmp 30) (.tmp 32) 57 rfl 2 i0 (.int .i64 0) 1 8 Tryd.underlying57 hi0 hz0 hz1 hz2 rfl (by decide) _ _ _ rfl (HRA.out _) ⟨_, 0, none⟩ 1 1 [.int .i64 X] rfl rfl (cells_new _ [.int .i64 X] _) (by simp [Value.oneCell']) (by decide) (by unfold maxLen; omega) (by omega) _ rfl ?_)
      intro gb cap w3 k1 g1 hat hlt
      have HN3 : Hid (RowN w3 (.slice (some ⟨gb, 0, none⟩) (L0.length + 1) cap) (L0 ++ [X])) := Lib.hid (by unfold RowN; simpa [byt.intV] using k1)
      have HB3 : Hid (Below W.heap.size W w3 ∧ ∀ g, (Value.slice (some ⟨gb, 0, none⟩) (L0.length + 1) cap).ownBlock = some g → W.heap.size ≤ g) := Lib.hid (by
        refine ⟨(HBR.out.alloc HBR.out.size _).grown g1 (by rw [World.size_alloc]; have := HBR.out.size; omega) (fun j hj => HNW.out j hj), fun g hg => ?_⟩
        simp only [Value.ownBlock, Option.some.injEq] at hg
        subst hg
        rcases hat with h1 | h1
        · exact HNW.out _ h1
        · have := HBR.out.size; omega)
      clear k1 g1 hat hlt
      go_wp2
      go_roundg (gk - 1)
      case measure => omega
      case rel => exact ⟨k + 1, by omega, by go_num, by rw [HL0.out]; exact HN3.out, HB3.out⟩
    · have hkn : ¬ (k : Int) < (ni : Int) := by omega
      have htk : nd.ins.take k = nd.ins := List.take_of_length_le (by rw [HNI.out]; omega)
      rw [htk] at hr
      obtain ⟨c0, c1, c2, c3, c4, c5, c6, -⟩ := cells7 ((hb.block N (by rw [HWS.out]; omega)).trans HZ.out)
      have hva : Lies wr Any (.slice aa na ca) nd.x.args := by have h1 := HVA.out.under (HB.out.trans (hb.mono HB.out.size)); rw [HNA.out] at h1; exact h1
      have HC := Lib.hid (with_any nd.x.size (by have := HHX.out; omega) nd.x (Nat.le_refl _) _ u5 _ wr (by have := HHX.out; simp [HNI.out]; omega) (fun m hm => HFF.out m (by rw [HND.out]; exact List.mem_append_right _ hm)) hva hr)
      unfold exV at HC
      clear hr hb hnw htk hva
      go_wp2_with fail
      refine HC.out.mono ?_
      rintro e w5 ⟨v', rfl, hr5, hg5, hn5⟩
      rw [← HND.out] at hr5
      obtain ⟨a', c', rfl⟩ := lg.Row.len hr5
      have HB5 : Hid (Below W.heap.size W w5) := Lib.hid (HBR.out.grown hg5 HBR.out.size (fun j hj => HNW.out j hj))
      have HPB := Lib.hid (byt.put_at (l := nodeN nd) (a := a') c' rfl (rd_of hr5) HFF.out (by rw [HNL.out, HNI.out]; have := HHX.out; omega))
      have HLB := Lib.hid (flat_len HFF.out)
      rw [HU.out] at HPB HLB
      have hus : (u.size : Int) ≤ 1000000 := by have := HLB.out; rw [HNL.out, HNI.out] at this; have := HHX.out; omega
      have hts := HTZ.out
      clear hr5 hg5 hn5
      go_wp2_with fail
      refine HPB.out.mono ?_
      rintro e w6 ⟨rfl, hb6⟩
      have HF : Hid (Below w.heap.size w w6) := Lib.hid (HB.out.trans ((HB5.out.trans (hb6.mono HB5.out.size)).mono HB.out.size))
      clear hb6
      go_wp2_with fail
      go_ret
      exact ⟨rfl, HF.out⟩
end Go.Proofs.YtnelfokfgnikfaaDoor.pk
