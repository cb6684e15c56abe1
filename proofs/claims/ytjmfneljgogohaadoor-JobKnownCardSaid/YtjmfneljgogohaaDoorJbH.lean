/- Rows of nodes asked about by a function, whatever it is. -/
import Derived.Test.YtjmfneljgogohaaDoorJbD
import Derived.Test.YtjmfneljgogohaaDoorJbE
import Derived.Test.YtjmfneljgogohaaDoorJbG
namespace Go.Proofs.YtjmfneljgogohaaDoor.jb
set_option linter.unusedSimpArgs false
set_option linter.unusedVariables false
open Go.RowKit nam exp

/-- What a function answers of each node of a row. -/
def Tests (K : FuncId) (cp : Array Value) (w : World) (l : List Nd) (f : Nd → Bool) : Prop :=
  ∀ i (h : i < l.length) (w' : World) (u : Value), NodeIs w' u l[i] → Below w.heap.size w w' → Calls Tryd.prog K (#[u] ++ cp) w' fun e w'' => e = .returned (.bool (f l[i])) ∧ Below w'.heap.size w' w''
set_option maxHeartbeats 1600000 in
set_option maxRecDepth 1000000 in
theorem first_node {w : World} {v : Value} {l : List Nd} {K : FuncId} {cp : Array Value} {f : Nd → Bool} (h : Nodes w v l) (hl : l.length ≤ 1000000) (hen : ∀ args w, (callFunc K args).run Tryd.prog w = .ok (.enter K args) w) (hK : Tests K cp w l f) :
    Calls Tryd.prog 40 #[v, .func (.func K) #[] cp] w fun e w' => e = .returned (.int .i64 (firstI f l 0)) ∧ Below w.heap.size w w' := by
  have HNS := Lib.hid h
  obtain ⟨a, c, rfl, _, h2⟩ := h
  have HC := Lib.hid h2; have HK := Lib.hid hK
  clear h2 hK
  obtain ⟨n, hn⟩ : ∃ n, l.length = n := ⟨_, rfl⟩
  have HN := Lib.hid hn
  rw [hn] at hl
  rw [hn]
  clear hn
  go_enter Tryd.func40, Tryd.ntmps40
  go_wp2_with fail
  go_loopg [9] n (fun g v9 wr => ∃ k : Nat, k + g = n ∧ v9 = .int .i64 k ∧ firstI f (l.drop k) k = firstI f l 0 ∧ Below w.heap.size w wr)
  case atStart => exact ⟨0, by omega, rfl, rfl, Below.refl _ _⟩
  case round =>
    obtain ⟨k, hk, rfl, hf, hb⟩ := hrel
    have HF := Lib.hid hf; have HB := Lib.hid hb; clear hf hb
    by_cases hkn : k < n
    · have hkl : k < l.length := by rw [HN.out]; exact hkn
      have hki : (k : Int) < (n : Int) := by omega
      obtain ⟨b, rfl, hat⟩ := HC.out (by omega)
      obtain ⟨hb0, vi, va, c0, c1, c2, c3, c4, c5, c6, hvi, hva⟩ := (hat k hkl).on HB.out
      have HD := Lib.hid (firstI_drop (f := f) (k := k) hkl)
      have HC1 := Lib.hid (HK.out k hkl)
      obtain ⟨nd, hx⟩ : ∃ x, l[k] = x := ⟨_, rfl⟩
      rw [hx] at c0 c1 c3 c4 c6 hvi hva HD HC1
      obtain ⟨ai, ci, hvie, _⟩ := id hvi
      obtain ⟨aa, ca, hvae, _⟩ := hva.form
      subst hvie
      subst hvae
      obtain ⟨r, hr⟩ : ∃ r, f nd = r := ⟨_, rfl⟩
      rw [hr] at HD HC1
      have HB1 := Lib.hid (HB.out.trans ((below_made wr (.cells #[.string nd.uid, .int .u8 (nd.kind : Int), .slice ai nd.ins.length ci, .int .u8 (nd.x.op : Int), .int .i64 nd.x.n, .slice aa nd.x.args.length ca, .int .i64 nd.n] 30)).mono HB.out.size))
      have HC2 := Lib.hid (HC1.out _ (nodeV nd _ _) ⟨_, _, rfl, hvi.on (below_made wr (.cells #[.string nd.uid, .int .u8 (nd.kind : Int), .slice ai nd.ins.length ci, .int .u8 (nd.x.op : Int), .int .i64 nd.x.n, .slice aa nd.x.args.length ca, .int .i64 nd.n] 30)), hva.under (below_made wr (.cells #[.string nd.uid, .int .u8 (nd.kind : Int), .slice ai nd.ins.length ci, .int .u8 (nd.x.op : Int), .int .i64 nd.x.n, .slice aa nd.x.args.length ca, .int .i64 nd.n] 30))⟩ HB1.out)
      obtain ⟨d0, d1, d2, d3, d4, d5, d6⟩ := @box7 wr _ (.string nd.uid) (.int .u8 (nd.kind : Int)) (.slice ai nd.ins.length ci) (.int .u8 (nd.x.op : Int)) (.int .i64 nd.x.n) (.slice aa nd.x.args.length ca) (.int .i64 nd.n) 30 rfl
      unfold nodeV at HC2
      clear hx hkl hkn hr hb0 hvi hva hat HC1
      cases r with
      | true =>
        have HE : Hid (Ending.returned (.int .i64 (k : Int)) = .returned (.int .i64 (firstI f l 0))) := Lib.hid (by rw [← HF.out, HD.out]; simp)
        go_wp2_with fail
        refine HC2.out.mono ?_
        rintro e w1 ⟨rfl, hb1⟩
        have HX := Lib.hid (HB1.out.trans (hb1.mono HB1.out.size)); clear hb1 d0 d1 d2 d3 d4 d5 d6 c0 c1 c2 c3 c4 c5 c6
        go_wp2_with fail
        try rw [Exit.noGoto_ret]
        go_ret
        exact ⟨HE.out, HX.out⟩
      | false =>
        have HE : Hid (firstI f (l.drop (k + 1)) (k + 1) = firstI f l 0) := Lib.hid (by rw [← HF.out, HD.out]; simp)
        go_wp2_with fail
        refine HC2.out.mono ?_
        rintro e w1 ⟨rfl, hb1⟩
        have HX := Lib.hid (HB1.out.trans (hb1.mono HB1.out.size)); clear hb1 d0 d1 d2 d3 d4 d5 d6 c0 c1 c2 c3 c4 c5 c6
        go_wp2_with fail
        go_roundg (gk - 1)
        case rel => exact ⟨k + 1, by omega, by go_num, HE.out, HX.out⟩
        case measure => omega
    · have hki : ¬ (k : Int) < (n : Int) := by omega
      have HE : Hid (Ending.returned (.int .i64 (-1)) = .returned (.int .i64 (firstI f l 0))) := Lib.hid (by rw [← HF.out, List.drop_eq_nil_of_le (by rw [HN.out]; omega)]; rfl)
      clear hkn
      go_wp2_with fail
      try rw [Exit.noGoto_ret]
      go_ret
      exact ⟨HE.out, HB.out⟩
set_option maxHeartbeats 1600000 in
set_option maxRecDepth 1000000 in
theorem places_node {w : World} {v : Value} {l : List Nd} {K : FuncId} {cp : Array Value} {f : Nd → Bool} (h : Nodes w v l) (hl : l.length ≤ 1000000) (hen : ∀ args w, (callFunc K args).run Tryd.prog w = .ok (.enter K args) w) (hK : Tests K cp w l f) :
    Calls Tryd.prog 37 #[v, .func (.func K) #[] cp] w (PlPost (placesI f l 0) w) := by
  obtain ⟨i0, hi, hz0, hz1, hz2⟩ := info_parts info3
  obtain ⟨a, c, rfl, _, h2⟩ := h
  have HC := Lib.hid h2; have HK := Lib.hid hK
  clear h2 hK
  obtain ⟨n, hn⟩ : ∃ n, l.length = n := ⟨_, rfl⟩
  have HN := Lib.hid hn
  rw [hn] at hl
  rw [hn]
  clear hn
  go_enter Tryd.func37, Tryd.ntmps37
  go_wp2_with fail
  go_loopg [5, 10] n (fun g v5 v10 wr => ∃ (k : Nat) (done : List Int), k + g = n ∧ v10 = .int .i64 k ∧ done.length ≤ k ∧ done ++ placesI f (l.drop k) k = placesI f l 0 ∧ wr.ownsRow w.heap.size 3 1 v5 done.length (done.map intV) ∧ Below w.heap.size w wr)
  case atStart => exact ⟨0, [], by omega, rfl, by simp, rfl, World.ownsRow_nil _ _ _ _, Below.refl _ _⟩
  case round =>
    obtain ⟨k, done, hk, rfl, hdk, hf, hr, hb⟩ := hrel
    have HF := Lib.hid hf; have HB := Lib.hid hb; have HR := Lib.hid hr; clear hf hb hr
    by_cases hkn : k < n
    · have hkl : k < l.length := by rw [HN.out]; exact hkn
      have hki : (k : Int) < (n : Int) := by omega
      obtain ⟨b, rfl, hat⟩ := HC.out (by omega)
      obtain ⟨hb0, vi, va, c0, c1, c2, c3, c4, c5, c6, hvi, hva⟩ := (hat k hkl).on HB.out
      have HD := Lib.hid (placesI_drop (f := f) (k := k) hkl)
      have HC1 := Lib.hid (HK.out k hkl)
      obtain ⟨nd, hx⟩ : ∃ x, l[k] = x := ⟨_, rfl⟩
      rw [hx] at c0 c1 c3 c4 c6 hvi hva HD HC1
      obtain ⟨ai, ci, hvie, _⟩ := id hvi
      obtain ⟨aa, ca, hvae, _⟩ := hva.form
      subst hvie
      subst hvae
      obtain ⟨r, hr⟩ : ∃ r, f nd = r := ⟨_, rfl⟩
      rw [hr] at HD HC1
      have HBM : Hid (Below wr.heap.size wr (wr.alloc (.cells #[.string nd.uid, .int .u8 (nd.kind : Int), .slice ai nd.ins.length ci, .int .u8 (nd.x.op : Int), .int .i64 nd.x.n, .slice aa nd.x.args.length ca, .int .i64 nd.n] 30))) := Lib.hid (below_made wr _)
      have HB1 := Lib.hid (HB.out.trans (HBM.out.mono HB.out.size))
      have HC2 := Lib.hid (HC1.out _ (nodeV nd _ _) ⟨_, _, rfl, hvi.on HBM.out, hva.under HBM.out⟩ HB1.out)
      obtain ⟨d0, d1, d2, d3, d4, d5, d6⟩ := @box7 wr _ (.string nd.uid) (.int .u8 (nd.kind : Int)) (.slice ai nd.ins.length ci) (.int .u8 (nd.x.op : Int)) (.int .i64 nd.x.n) (.slice aa nd.x.args.length ca) (.int .i64 nd.n) 30 rfl
      unfold nodeV at HC2
      clear hx hkl hr hb0 hvi hva hat HC1
      cases r with
      | true =>
        have HE : Hid ((done ++ [(k : Int)]) ++ placesI f (l.drop (k + 1)) (k + 1) = placesI f l 0) := Lib.hid (by rw [← HF.out, HD.out]; simp)
        go_wp2_with fail
        refine HC2.out.mono ?_
        rintro e w1 ⟨rfl, hb1⟩
        have HBW := Lib.hid (below_on' HBM.out hb1)
        have HO := Lib.hid (own_below' HR.out HBW.out)
        have HSZ : Hid (∀ o, w.heap.size ≤ (w1.alloc o).heap.size) := Lib.hid (fun o => by rw [World.size_alloc]; have := HB.out.size; have := HBW.out.size; omega)
        clear hb1 d0 d1 d2 d3 d4 d5 d6 c0 c1 c2 c3 c4 c5 c6
        go_wp2_with (at_builtin; refine wpList_append_own _ rfl (.tmp 18) (.tmp 20) 25 rfl w.heap.size 3 i0 (.int .i64 0) 1 8 Tryd.underlying25 hi hz0 hz1 hz2 rfl (by decide) _ _ _ rfl (HO.out.alloc _) ⟨_, 0, none⟩ 1 1 [.int .i64 (k : Int)] rfl rfl (cell_one_new _ _ _) (by simp [Value.oneCell']) (by unfold maxLen; omega) (by omega) (HSZ.out _) ?_)
        intro v' w2 k4 g4 _
        have HM := Lib.hid (places_more HB.out HR.out HBW.out k4 g4)
        clear k4 g4
        go_wp2
        go_roundg (gk - 1)
        case rel => exact ⟨k + 1, _, by omega, by go_num, by simp; omega, HE.out, HM.out.1, HM.out.2⟩
        case measure => omega
      | false =>
        have HE : Hid (done ++ placesI f (l.drop (k + 1)) (k + 1) = placesI f l 0) := Lib.hid (by rw [← HF.out, HD.out]; simp)
        go_wp2_with fail
        refine HC2.out.mono ?_
        rintro e w1 ⟨rfl, hb1⟩
        have HX := Lib.hid (And.intro (own_below' HR.out (below_on' HBM.out hb1)) (HB1.out.trans (hb1.mono HB1.out.size))); clear hb1 d0 d1 d2 d3 d4 d5 d6 c0 c1 c2 c3 c4 c5 c6
        go_wp2_with fail
        go_roundg (gk - 1)
        case rel => exact ⟨k + 1, done, by omega, by go_num, by omega, HE.out, HX.out.1, HX.out.2⟩
        case measure => omega
    · have hki : ¬ (k : Int) < (n : Int) := by omega
      have HE : Hid (done = placesI f l 0) := Lib.hid (drop_len HF.out (by rw [HN.out]; omega))
      clear hkn
      go_wp2_with fail
      try rw [Exit.noGoto_ret]
      go_ret
      exact ⟨_, rfl, by rw [← HE.out]; exact HR.out, HB.out⟩
end Go.Proofs.YtjmfneljgogohaaDoor.jb
