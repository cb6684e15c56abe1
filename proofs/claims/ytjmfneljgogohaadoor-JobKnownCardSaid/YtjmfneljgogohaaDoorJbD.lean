/- Rows of whole numbers asked about by a function, whatever it is. -/
import Derived.Test.YtjmfneljgogohaaDoorJbC
namespace Go.Proofs.YtjmfneljgogohaaDoor.jb
set_option linter.unusedSimpArgs false
set_option linter.unusedVariables false
open Go.RowKit nam exp

set_option maxHeartbeats 800000 in
set_option maxRecDepth 1000000 in
theorem first_int {w : World} {v : Value} {l : List Int} {K : FuncId} {cp : Array Value} {f : Int → Bool} (h : IRow w v l) (hl : l.length ≤ 1000000) (hen : ∀ args w, (callFunc K args).run Tryd.prog w = .ok (.enter K args) w)
    (hK : ∀ i (h : i < l.length) (w' : World), Below w.heap.size w w' → Calls Tryd.prog K (#[.int .i64 l[i]] ++ cp) w' fun e w'' => e = .returned (.bool (f l[i])) ∧ Below w'.heap.size w' w'') :
    Calls Tryd.prog 47 #[v, .func (.func K) #[] cp] w fun e w' => e = .returned (.int .i64 (firstI f l 0)) ∧ Below w.heap.size w w' := by
  obtain ⟨a, c, rfl, h2⟩ := h
  have HC := Lib.hid h2; have HK := Lib.hid hK
  clear h2 hK
  obtain ⟨n, hn⟩ : ∃ n, l.length = n := ⟨_, rfl⟩
  have HN := Lib.hid hn
  rw [hn] at hl
  rw [hn]
  clear hn
  go_enter Tryd.func47, Tryd.ntmps47
  go_wp2_with fail
  go_loopg [9] n (fun g v9 wr => ∃ k : Nat, k + g = n ∧ v9 = .int .i64 k ∧ firstI f (l.drop k) k = firstI f l 0 ∧ Below w.heap.size w wr)
  case atStart => exact ⟨0, by omega, rfl, rfl, Below.refl _ _⟩
  case round =>
    obtain ⟨k, hk, rfl, hf, hb⟩ := hrel
    have HF := Lib.hid hf; have HB := Lib.hid hb; clear hf hb
    by_cases hkn : k < n
    · have hkl : k < l.length := by rw [HN.out]; exact hkn
      have hki : (k : Int) < (n : Int) := by omega
      obtain ⟨b, o, rfl, hlt, hc⟩ := HC.out (by omega)
      have hc := (HB.out.cell (p := ⟨b, o + k, none⟩) hlt).trans (hc k hkl)
      have HD := Lib.hid (firstI_drop (f := f) (k := k) hkl)
      have HC1 := Lib.hid (HK.out k hkl wr HB.out)
      obtain ⟨x, hx⟩ : ∃ x, l[k] = x := ⟨_, rfl⟩
      rw [hx] at hc HD HC1
      obtain ⟨r, hr⟩ : ∃ r, f x = r := ⟨_, rfl⟩
      rw [hr] at HD HC1
      clear hx hkl hkn hr hlt
      cases r with
      | true =>
        have HE : Hid (Ending.returned (.int .i64 (k : Int)) = .returned (.int .i64 (firstI f l 0))) := Lib.hid (by rw [← HF.out, HD.out]; simp)
        go_wp2_with fail
        refine HC1.out.mono ?_
        rintro e w1 ⟨rfl, hb1⟩
        have HX := Lib.hid (HB.out.trans (hb1.mono HB.out.size)); clear hb1
        go_wp2_with fail
        try rw [Exit.noGoto_ret]
        go_ret
        exact ⟨HE.out, HX.out⟩
      | false =>
        have HE : Hid (firstI f (l.drop (k + 1)) (k + 1) = firstI f l 0) := Lib.hid (by rw [← HF.out, HD.out]; simp)
        go_wp2_with fail
        refine HC1.out.mono ?_
        rintro e w1 ⟨rfl, hb1⟩
        have HX := Lib.hid (HB.out.trans (hb1.mono HB.out.size)); clear hb1
        go_wp2_with fail
        go_roundg (gk - 1)
        case rel => exact ⟨k + 1, by omega, by go_num, HE.out, HX.out⟩
        case measure => omega
    · have hki : ¬ (k : Int) < (n : Int) := by omega
      have HE : Hid (Ending.returned (.int .i64 (-1)) = .returned (.int .i64 (firstI f l 0))) := Lib.hid (by rw [← HF.out, List.drop_eq_nil_of_le (by rw [HN.out]; omega)]; rfl)
      clear hkn
      go_wp2_with fail
      try rw [Exit.noGoto_ret]
      go_ret
      exact ⟨HE.out, HB.out⟩
/-- What places answers. -/
def PlPost (l : List Int) (w : World) (e : Ending) (w' : World) : Prop := ∃ v, e = .returned v ∧ w'.ownsRow w.heap.size 3 1 v l.length (l.map intV) ∧ Below w.heap.size w w'
theorem drop_len {α : Type} {f : α → Bool} {l : List α} {done : List Int} {k : Nat} (h : done ++ placesI f (l.drop k) k = placesI f l 0) (hk : l.length ≤ k) : done = placesI f l 0 := by
  rw [← h, List.drop_eq_nil_of_le hk]; simp [placesI]
theorem places_more {w wr w1 w2 : World} {k : Nat} {done : List Int} {v5 v' : Value} {o : Obj} (hb : Below w.heap.size w wr) (hr : wr.ownsRow w.heap.size 3 1 v5 done.length (done.map intV)) (hb1 : Below wr.heap.size wr w1)
    (k4 : w2.ownsRow w.heap.size 3 1 v' (done.length + 1) (done.map intV ++ [.int .i64 (k : Int)])) (g4 : (w1.alloc o).grownBy w2 v5.ownBlock) : w2.ownsRow w.heap.size 3 1 v' (done ++ [(k : Int)]).length ((done ++ [(k : Int)]).map intV) ∧ Below w.heap.size w w2 := by
  refine ⟨by simpa [intV] using k4, ?_⟩
  have b1 := hb.trans (hb1.mono hb.size)
  exact (b1.alloc b1.size _).grown g4 (by rw [World.size_alloc]; have := b1.size; omega) (fun j hj => (hr.lt j hj).1)
set_option maxHeartbeats 800000 in
set_option maxRecDepth 1000000 in
theorem places_int {w : World} {v : Value} {l : List Int} {K : FuncId} {cp : Array Value} {f : Int → Bool} (h : IRow w v l) (hl : l.length ≤ 1000000) (hen : ∀ args w, (callFunc K args).run Tryd.prog w = .ok (.enter K args) w)
    (hK : ∀ i (h : i < l.length) (w' : World), Below w.heap.size w w' → Calls Tryd.prog K (#[.int .i64 l[i]] ++ cp) w' fun e w'' => e = .returned (.bool (f l[i])) ∧ Below w'.heap.size w' w'') :
    Calls Tryd.prog 49 #[v, .func (.func K) #[] cp] w (PlPost (placesI f l 0) w) := by
  obtain ⟨i0, hi, hz0, hz1, hz2⟩ := info_parts info3
  obtain ⟨a, c, rfl, h2⟩ := h
  have HC := Lib.hid h2; have HK := Lib.hid hK
  clear h2 hK
  obtain ⟨n, hn⟩ : ∃ n, l.length = n := ⟨_, rfl⟩
  have HN := Lib.hid hn
  rw [hn] at hl
  rw [hn]
  clear hn
  go_enter Tryd.func49, Tryd.ntmps49
  go_wp2_with fail
  go_loopg [5, 10] n (fun g v5 v10 wr => ∃ (k : Nat) (done : List Int), k + g = n ∧ v10 = .int .i64 k ∧ done.length ≤ k ∧ done ++ placesI f (l.drop k) k = placesI f l 0 ∧ wr.ownsRow w.heap.size 3 1 v5 done.length (done.map intV) ∧ Below w.heap.size w wr)
  case atStart => exact ⟨0, [], by omega, rfl, by simp, rfl, World.ownsRow_nil _ _ _ _, Below.refl _ _⟩
  case round =>
    obtain ⟨k, done, hk, rfl, hdk, hf, hr, hb⟩ := hrel
    have HF := Lib.hid hf; have HB := Lib.hid hb; have HR := Lib.hid hr; clear hf hb hr
    by_cases hkn : k < n
    · have hkl : k < l.length := by rw [HN.out]; exact hkn
      have hki : (k : Int) < (n : Int) := by omega
      obtain ⟨b, o, rfl, hlt, hc⟩ := HC.out (by omega)
      have hc := (HB.out.cell (p := ⟨b, o + k, none⟩) hlt).trans (hc k hkl)
      have HD := Lib.hid (placesI_drop (f := f) (k := k) hkl)
      have HC1 := Lib.hid (HK.out k hkl wr HB.out)
      obtain ⟨x, hx⟩ : ∃ x, l[k] = x := ⟨_, rfl⟩
      rw [hx] at hc HD HC1
      obtain ⟨r, hr⟩ : ∃ r, f x = r := ⟨_, rfl⟩
      rw [hr] at HD HC1
      clear hx hkl hr hlt
      cases r with
      | true =>
        have HE : Hid ((done ++ [(k : Int)]) ++ placesI f (l.drop (k + 1)) (k + 1) = placesI f l 0) := Lib.hid (by rw [← HF.out, HD.out]; simp)
        go_wp2_with fail
        refine HC1.out.mono ?_
        rintro e w1 ⟨rfl, hb1⟩
        have HO := Lib.hid (own_below' HR.out hb1)
        have HB1 := Lib.hid hb1
        have HSZ : Hid (∀ o, w.heap.size ≤ (w1.alloc o).heap.size) := Lib.hid (fun o => by rw [World.size_alloc]; have := HB.out.size; have := hb1.size; omega)
        clear hb1
        go_wp2_with (at_builtin; refine wpList_append_own _ rfl (.tmp 18) (.tmp 20) 25 rfl w.heap.size 3 i0 (.int .i64 0) 1 8 Tryd.underlying25 hi hz0 hz1 hz2 rfl (by decide) _ _ _ rfl (HO.out.alloc _) ⟨_, 0, none⟩ 1 1 [.int .i64 (k : Int)] rfl rfl (cell_one_new _ _ _) (by simp [Value.oneCell']) (by unfold maxLen; omega) (by omega) (HSZ.out _) ?_)
        intro v' w2 k4 g4 _
        have HM := Lib.hid (places_more HB.out HR.out HB1.out k4 g4)
        clear k4 g4
        go_wp2
        go_roundg (gk - 1)
        case rel => exact ⟨k + 1, _, by omega, by go_num, by simp; omega, HE.out, HM.out.1, HM.out.2⟩
        case measure => omega
      | false =>
        have HE : Hid (done ++ placesI f (l.drop (k + 1)) (k + 1) = placesI f l 0) := Lib.hid (by rw [← HF.out, HD.out]; simp)
        go_wp2_with fail
        refine HC1.out.mono ?_
        rintro e w1 ⟨rfl, hb1⟩
        have HX := Lib.hid (And.intro (own_below' HR.out hb1) (HB.out.trans (hb1.mono HB.out.size))); clear hb1
        go_wp2_with fail
        go_roundg (gk - 1)
        case rel => exact ⟨k + 1, done, by omega, by go_num, by omega, HE.out, HX.out.1, HX.out.2⟩
        case measure => omega
    · have hki : ¬ (k : Int) < (n : Int) := by omega
      have HE : Hid (done = placesI f l 0) := Lib.hid (drop_len HF.out (by rw [HN.out]; omega))
      clear hkn
      go_wp2_with fail
      try rw [Exit.noGoto_ret]
      go_ret
      exact ⟨_, rfl, by rw [← HE.out]; exact HR.out, HB.out⟩
end Go.Proofs.YtjmfneljgogohaaDoor.jb
