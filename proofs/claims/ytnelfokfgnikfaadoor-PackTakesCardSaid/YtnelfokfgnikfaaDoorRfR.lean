/- The law of any bytes. -/
import Derived.Test.YtnelfokfgnikfaaDoorRfO
import Derived.Test.YtnelfokfgnikfaaDoorPkK
namespace Go.Proofs.YtnelfokfgnikfaaDoor.rf
set_option linter.unusedSimpArgs false
set_option linter.unusedVariables false
open Go.RowKit nam exp jb pk

theorem take_small {s : ByteArray} (hs : s.size ≤ 1000000) : (takeO s).1.2.length ≤ 1000000 ∧ ∀ nd ∈ (takeO s).1.2, nd.ins.length ≤ 1000000 ∧ nd.x.size ≤ 1000000 := by
  unfold takeO
  split
  · exact ⟨by simp, fun nd h => by cases h⟩
  · rename_i h
    split
    · exact ⟨by simp, fun nd h => by cases h⟩
    · obtain ⟨h1, h2⟩ := job_small hs (by simpa using h)
      exact ⟨by show (jobO ⟨s, 0⟩).1.2.length ≤ _; omega, fun nd hn => (h2 nd hn).2⟩
set_option maxHeartbeats 1600000 in
set_option maxRecDepth 1000000 in
theorem law_takes (w : World) (s : ByteArray) (ht : Tab w) : Calls Tryd.prog 5 #[.string s] w fun e w' => e = .returned (.bool true) ∧ Below w.heap.size w w' := by
  have HT := Lib.hid ht
  by_cases hs : s.size > 20000
  · have hd : decide ((s.size : Int) > 20000) = true := by simp; omega
    have hd2 : (20000 : Int) < (s.size : Int) := by omega
    have HW := Lib.hid (works_any w ht)
    clear ht hs
    go_enter Tryd.func5, Tryd.ntmps5
    go_wp2_with fail
    refine HW.out.mono ?_
    rintro e w1 ⟨rfl, hb1⟩
    have HB1 := Lib.hid hb1
    clear hb1
    go_wp2_with fail
    go_ret
    exact ⟨rfl, HB1.out⟩
  · have hd : decide ((s.size : Int) > 20000) = false := by simp; omega
    have hd2 : ¬ (20000 : Int) < (s.size : Int) := by omega
    have H1 := Lib.hid (take_any s (by omega) ht)
    have H2 : Hid (∀ w', Calls Tryd.prog 13 #[.string s] w' (RtPost s w')) := Lib.hid (fun w' => rtake_any s (by omega))
    unfold TakePost at H1
    unfold RtPost at H2
    rw [takeR_eq] at H2
    have HSM := Lib.hid (take_small (s := s) (by omega))
    obtain ⟨par, hpar⟩ : ∃ p, (takeO s).1.1 = p := ⟨_, rfl⟩
    obtain ⟨l, hl⟩ : ∃ l, (takeO s).1.2 = l := ⟨_, rfl⟩
    obtain ⟨er, her⟩ : ∃ e, (takeO s).2 = e := ⟨_, rfl⟩
    rw [hpar, hl, her] at H1 H2
    rw [hl] at HSM
    have hee : (er == er) = true := by simp
    clear ht hs hpar hl her
    go_enter Tryd.func5, Tryd.ntmps5
    go_wp2_with fail
    refine H1.out.mono ?_
    rintro e w1 ⟨v1, rfl, hn1, hb1⟩
    obtain ⟨a1, c1, rfl, -, -⟩ := id hn1
    have HB1 := Lib.hid hb1; have HN1 := Lib.hid hn1
    obtain ⟨n, hn⟩ : ∃ n, l.length = n := ⟨_, rfl⟩
    have HLN := Lib.hid hn
    rw [hn] at HN1 ⊢
    clear hn1 hb1 hn
    go_upto_region 4 with fail
    obtain ⟨M, hM⟩ : ∃ M, w1.heap.size = M := ⟨_, rfl⟩
    obtain ⟨W1, hW1⟩ : ∃ W, w1.alloc (.cells #[.int .i64 par, .slice a1 n c1] 24) = W := ⟨_, rfl⟩
    rw [hM, hW1]
    have HZ1 : Hid (W1.heap[M]? = some (.cells #[.int .i64 par, .slice a1 n c1] 24 (0, 0))) := Lib.hid (by rw [← hW1]; exact heap_last hM.symm)
    have HBW : Hid (Below w.heap.size w W1) := Lib.hid (by rw [← hW1]; exact HB1.out.alloc HB1.out.size _)
    have HNW : Hid (Nodes W1 (.slice a1 n c1) l) := Lib.hid (by rw [← hW1]; exact HN1.out.on (below_made _ _))
    have H2W := Lib.hid (H2.out W1)
    clear hM hW1
    go_wp2_with fail
    refine H2W.out.mono ?_
    rintro e w2 ⟨v2, rfl, hn2, hb2⟩
    obtain ⟨a2, c2, rfl, -, -⟩ := id hn2
    have HB2 := Lib.hid (HBW.out.trans (hb2.mono HBW.out.size)); have HN2 := Lib.hid hn2
    have HNX := Lib.hid (HNW.out.on hb2)
    have HZ2 : Hid (w2.heap[M]? = _) := Lib.hid ((hb2.block M (Array.getElem?_eq_some_iff.1 HZ1.out).1).trans HZ1.out)
    rw [HLN.out] at HN2 ⊢
    clear hn2 hb2
    go_upto_region 5 with fail
    obtain ⟨K, hK⟩ : ∃ K, w2.heap.size = K := ⟨_, rfl⟩
    obtain ⟨W2, hW2⟩ : ∃ W, w2.alloc (.cells #[.int .i64 par, .slice a2 n c2] 24) = W := ⟨_, rfl⟩
    rw [hK, hW2]
    have hbm : Below w2.heap.size w2 W2 := by rw [← hW2]; exact below_made _ _
    have hk2 : W2.heap[K]? = some (.cells #[.int .i64 par, .slice a2 n c2] 24 (0, 0)) := by rw [← hW2]; exact heap_last hK.symm
    have HB3 : Hid (Below w.heap.size w W2) := Lib.hid (HB2.out.trans (hbm.mono HB2.out.size))
    have HSA := Lib.hid (jobs_same par (HNX.out.on hbm) (HN2.out.on hbm) HSM.out.1 HSM.out.2)
    have hz2 : W2.heap[M]? = some (.cells #[.int .i64 par, .slice a1 n c1] 24 (0, 0)) := (hbm.block M (Array.getElem?_eq_some_iff.1 HZ2.out).1).trans HZ2.out
    have m0 := cell_of hz2 (o := 0) rfl
    have m1 := cell_of hz2 (o := 1) rfl
    have k0 := cell_of hk2 (o := 0) rfl
    have k1 := cell_of hk2 (o := 1) rfl
    have HWK : Hid (∀ w', Below w.heap.size w w' → Calls Tryd.prog 10 #[] w' fun e w'' => e = .returned (.bool true) ∧ Below w.heap.size w w'') := Lib.hid (fun w' h => (works_any w' (HT.out.on h)).mono fun e w'' h2 => ⟨h2.1, h.trans (h2.2.mono h.size)⟩)
    clear hK hW2 hbm hk2 hz2
    go_wp2_with fail
    refine HSA.out.mono ?_
    rintro e w5 ⟨rfl, hb5⟩
    have HW6 := Lib.hid (HWK.out w5 (HB3.out.trans (hb5.mono HB3.out.size)))
    clear hb5
    go_wp2_with fail
    refine HW6.out.mono ?_
    rintro e w6 ⟨rfl, hb6⟩
    have HB6 := Lib.hid hb6
    clear hb6
    go_wp2_with fail
    go_ret
    exact ⟨rfl, HB6.out⟩
end Go.Proofs.YtnelfokfgnikfaaDoor.rf
