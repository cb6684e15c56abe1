/- The first node that is wrong, whatever stands behind it. -/
import Derived.Test.YtjmfneljgogohaaDoorJbK
import Derived.Deep.RegionWith
namespace Go.Proofs.YtjmfneljgogohaaDoor.jb
set_option linter.unusedSimpArgs false
set_option linter.unusedVariables false
open Go.RowKit nam exp

theorem errAt_eq {l : List Nd} {k : Nat} (h : k < l.length) : errAt l k = if mayB l[k] k = false then 120 else if 0 ≤ findI (l.take k) l[k].uid then 121 else 0 := by
  unfold errAt; rw [List.getElem?_eq_getElem h]
set_option maxHeartbeats 3200000 in
set_option maxRecDepth 1000000 in
theorem alone_any {w : World} {v : Value} {l : List Nd} (ht : Tab w) (h : Nodes w v l) (hl : l.length ≤ 1000000) (hs : ∀ nd ∈ l, nd.x.size ≤ 1000000) :
    Calls Tryd.prog 19 #[v] w fun e w' => e = .returned (.tuple #[.int .i64 (aloneO l).1, .int .i64 (aloneO l).2]) ∧ Below w.heap.size w w' := by
  have HNS := Lib.hid h; have HT := Lib.hid ht; have HS := Lib.hid hs
  obtain ⟨a, c, rfl, hlc, h2⟩ := h
  have HC := Lib.hid h2
  clear h2 ht hs
  obtain ⟨n, hn⟩ : ∃ n, l.length = n := ⟨_, rfl⟩
  have HN := Lib.hid hn
  rw [hn] at hl hlc HNS
  rw [hn]
  have HA : Hid (aloneO l = firstErr (errAt l) n 0) := Lib.hid (by unfold aloneO; rw [hn])
  clear hn
  go_enter Tryd.func19, Tryd.ntmps19
  go_wp2_with fail
  go_loopg [8] n (fun g v8 wr => ∃ k : Nat, k + g = n ∧ v8 = .int .i64 k ∧ firstErr (errAt l) g k = aloneO l ∧ Below w.heap.size w wr)
  case atStart => exact ⟨0, by omega, rfl, HA.out.symm, Below.refl _ _⟩
  case round =>
    obtain ⟨k, hk, rfl, hf, hb⟩ := hrel
    have HF := Lib.hid hf; have HB := Lib.hid hb; clear hf hb
    by_cases hkn : k < n
    · obtain ⟨g, rfl⟩ : ∃ g, gk = g + 1 := ⟨gk - 1, by omega⟩
      have hkl : k < l.length := by rw [HN.out]; exact hkn
      have hki : (k : Int) < (n : Int) := by omega
      have hkc : (k : Int) ≤ (c : Int) := by omega
      obtain ⟨b, rfl, hat⟩ := HC.out (by omega)
      obtain ⟨-, vi, va, c0, c1, c2, c3, c4, c5, c6, hvi, hva⟩ := (hat k hkl).on HB.out
      have HE := Lib.hid (errAt_eq hkl)
      have HSX := Lib.hid (HS.out l[k] (List.getElem_mem hkl))
      have HTK := Lib.hid ((HNS.out.on HB.out).take (k := k) (by rw [HN.out]; omega))
      obtain ⟨nd, hx⟩ : ∃ x, l[k] = x := ⟨_, rfl⟩
      rw [hx] at c0 c1 c3 c4 c6 hvi hva HE HSX
      obtain ⟨ai, ci, hvie, -⟩ := id hvi
      obtain ⟨aa, ca, hvae, -⟩ := hva.form
      subst hvie
      subst hvae
      have HBM : Hid (Below wr.heap.size wr (wr.alloc (.cells #[.string nd.uid, .int .u8 (nd.kind : Int), .slice ai nd.ins.length ci, .int .u8 (nd.x.op : Int), .int .i64 nd.x.n, .slice aa nd.x.args.length ca, .int .i64 nd.n] 30))) := Lib.hid (below_made wr _)
      have HB1 := Lib.hid (HB.out.trans (HBM.out.mono HB.out.size))
      have HM := Lib.hid (mayStand_any (p := k) (HT.out.on HB1.out) (⟨_, _, rfl, hvi.on HBM.out, hva.under HBM.out⟩ : NodeIs _ (nodeV nd _ _) nd) HSX.out)
      have hbx := @nd_box wr nd (.slice ai nd.ins.length ci) (.slice aa nd.x.args.length ca)
      have HBX := Lib.hid hbx
      obtain ⟨d0, d1, d2, d3, d4, d5, d6⟩ := hbx
      unfold nodeV at HM
      obtain ⟨m, hm⟩ : ∃ m, mayB nd k = m := ⟨_, rfl⟩
      rw [hm] at HM HE
      clear hx hkl hm hvi hva hat
      cases m with
      | false =>
        have HE2 : Hid (Ending.returned (.tuple #[.int .i64 (k : Int), .int .i64 120]) = .returned (.tuple #[.int .i64 (aloneO l).1, .int .i64 (aloneO l).2])) := Lib.hid (by
          have e0 : errAt l k = 120 := by rw [HE.out]; rfl
          rw [← HF.out, firstErr_stop (by rw [e0]; decide), e0])
        go_wp2_with fail
        refine HM.out.mono ?_
        rintro e w1 ⟨rfl, hb1⟩
        have HX := Lib.hid (HB1.out.trans (hb1.mono HB1.out.size)); clear hb1 d0 d1 d2 d3 d4 d5 d6 c0 c1 c2 c3 c4 c5 c6
        go_wp2_with fail
        try rw [Exit.noGoto_ret]
        go_ret2
        exact ⟨HE2.out, HX.out⟩
      | true =>
        obtain ⟨q, hq⟩ : ∃ q, findI (l.take k) nd.uid = q := ⟨_, rfl⟩
        rw [hq] at HE
        have HNM : Hid (∀ w', Below wr.heap.size wr w' → Calls Tryd.prog 23 #[.slice (some ⟨b, 0, none⟩) k c, .string nd.uid] w' fun e w'' => e = .returned (.int .i64 q) ∧ Below w'.heap.size w' w'') := Lib.hid (fun w' hb => by
          have := named_any nd.uid (HTK.out.on hb) (by rw [List.length_take]; omega)
          rw [hq] at this
          exact this)
        clear hq
        go_wp2_with fail
        refine HM.out.mono ?_
        rintro e w1 ⟨rfl, hb1⟩
        have HX := Lib.hid (HB1.out.trans (hb1.mono HB1.out.size))
        have HBW := Lib.hid (below_on' HBM.out hb1)
        obtain ⟨e0, e1, e2, e3, e4, e5, e6⟩ := HBX.out.on hb1
        clear hb1 d0 d1 d2 d3 d4 d5 d6 c0 c1 c2 c3 c4 c5 c6 e1 e2 e3 e4 e5 e6
        go_wp2_with fail
        by_cases hq0 : 0 ≤ q
        · have HE2 : Hid (Ending.returned (.tuple #[.int .i64 (k : Int), .int .i64 121]) = .returned (.tuple #[.int .i64 (aloneO l).1, .int .i64 (aloneO l).2])) := Lib.hid (by
            have e0 : errAt l k = 121 := by rw [HE.out, if_neg (by simp), if_pos hq0]
            rw [← HF.out, firstErr_stop (by rw [e0]; decide), e0])
          go_region_with (go_at_call 23; ((with_reducible refine (HNM.out _ (by first | exact HBW.out | exact HBW.out.drew)).mono ?_); rintro e w2 ⟨rfl, hb2⟩))
          all_goals
            have HX2 := Lib.hid (HX.out.drew.trans ((hb2 : Below w1.heap.size _ w2).mono HX.out.size)); clear hb2
            go_wp2_with fail
            try rw [Exit.noGoto_ret]
            go_ret2
            exact ⟨HE2.out, ⟨HX2.out.os, HX2.out.tape, HX2.out.output, HX2.out.size, HX2.out.block⟩⟩
        · have HE2 : Hid (firstErr (errAt l) g (k + 1) = aloneO l) := Lib.hid (by
            have e0 : errAt l k = 0 := by rw [HE.out, if_neg (by simp), if_neg hq0]
            rw [← HF.out, firstErr_step e0])
          go_region_with (go_at_call 23; ((with_reducible refine (HNM.out _ (by first | exact HBW.out | exact HBW.out.drew)).mono ?_); rintro e w2 ⟨rfl, hb2⟩))
          all_goals
            have HX2 := Lib.hid (HX.out.drew.trans ((hb2 : Below w1.heap.size _ w2).mono HX.out.size)); clear hb2
            go_wp2_with fail
            go_roundg g
            case rel => exact ⟨k + 1, by omega, by go_num, HE2.out, ⟨HX2.out.os, HX2.out.tape, HX2.out.output, HX2.out.size, HX2.out.block⟩⟩
            case measure => omega
    · have hki : ¬ (k : Int) < (n : Int) := by omega
      have hg0 : gk = 0 := by omega
      subst hg0
      have HE : Hid (Ending.returned (.tuple #[.int .i64 0, .int .i64 0]) = .returned (.tuple #[.int .i64 (aloneO l).1, .int .i64 (aloneO l).2])) := Lib.hid (by rw [← HF.out]; rfl)
      clear hkn
      go_wp2_with fail
      try rw [Exit.noGoto_ret]
      go_ret2
      exact ⟨HE.out, HB.out⟩
end Go.Proofs.YtjmfneljgogohaaDoor.jb
