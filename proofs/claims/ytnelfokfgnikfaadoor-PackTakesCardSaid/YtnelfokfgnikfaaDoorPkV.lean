/- What readNode and readJob answer, and readerOf. -/
import Derived.Test.YtnelfokfgnikfaaDoorPkU
namespace Go.Proofs.YtnelfokfgnikfaaDoor.pk
set_option linter.unusedSimpArgs false
set_option linter.unusedVariables false
open Go.RowKit nam exp jb
attribute [local go_sem ↓] Go.wp_at_zero Go.wp_at_succ

abbrev zeroN : Obj := .cells #[.string ⟨#[]⟩, .int .u8 0, .slice none 0 0, .int .u8 0, .int .i64 0, .slice none 0 0, .int .i64 0] 52
section
variable {w : World} {b : Nat} {x0 x1 x2 x3 x4 x5 x6 a' b' c' d' e' f' g' : Value} {t : TypeId}
theorem cells7 (h : w.heap[b]? = some (.cells #[x0, x1, x2, x3, x4, x5, x6] t (0, 0))) : w.cell? ⟨b, 0, none⟩ = some x0 ∧ w.cell? ⟨b, 1, none⟩ = some x1 ∧ w.cell? ⟨b, 2, none⟩ = some x2 ∧ w.cell? ⟨b, 3, none⟩ = some x3 ∧ w.cell? ⟨b, 4, none⟩ = some x4 ∧
    w.cell? ⟨b, 5, none⟩ = some x5 ∧ w.cell? ⟨b, 6, none⟩ = some x6 ∧ ∀ j, w.frozen? ⟨b, j, none⟩ = false :=
  ⟨cell_of h rfl, cell_of h rfl, cell_of h rfl, cell_of h rfl, cell_of h rfl, cell_of h rfl, cell_of h rfl, fun j => by simp [World.frozen?, h]⟩
abbrev put7 (w : World) (b : Nat) (a' b' c' d' e' f' g' : Value) : World := ((((((w.setCell ⟨b, 0, none⟩ a').setCell ⟨b, 1, none⟩ b').setCell ⟨b, 2, none⟩ c').setCell ⟨b, 3, none⟩ d').setCell ⟨b, 4, none⟩ e').setCell ⟨b, 5, none⟩ f').setCell ⟨b, 6, none⟩ g'
theorem set7 (h : w.heap[b]? = some (.cells #[x0, x1, x2, x3, x4, x5, x6] t (0, 0))) : (put7 w b a' b' c' d' e' f' g').heap[b]? = some (.cells #[a', b', c', d', e', f', g'] t (0, 0)) :=
  by
  have h1 := setCell_heap (j := 0) (z := a') h
  have h2 := setCell_heap (j := 1) (z := b') h1
  have h3 := setCell_heap (j := 2) (z := c') h2
  have h4 := setCell_heap (j := 3) (z := d') h3
  have h5 := setCell_heap (j := 4) (z := e') h4
  have h6 := setCell_heap (j := 5) (z := f') h5
  have h7 := setCell_heap (j := 6) (z := g') h6
  simp only [List.setIfInBounds_toArray, List.set_cons_zero, List.set_cons_succ] at h7
  exact h7
theorem On.put7 {L : Lay} {N : Nat} {w0 : World} {q : St} (h : On L N w0 q w) (hb : w0.heap.size ≤ b) (hN : N < b) : On L N w0 q (put7 w b a' b' c' d' e' f' g') :=
  ((((((h.put hb hN).put hb hN).put hb hN).put hb hN).put hb hN).put hb hN).put hb hN
theorem RPost.put7 {L : Lay} {w0 : World} {q : St} (h : RPost L w0 q w) (hM : L.M ≤ w0.heap.size) (hb : w0.heap.size ≤ b) : RPost L w0 q (put7 w b a' b' c' d' e' f' g') :=
  ((((((h.put hM hb).put hM hb).put hM hb).put hM hb).put hM hb).put hM hb).put hM hb
theorem own_put {B e size n j : Nat} {v z : Value} {xs : List Value} (h : w.ownsRow B e size v n xs) (hne : ∀ g, v.ownBlock = some g → g ≠ b) : (w.setCell ⟨b, j, none⟩ z).ownsRow B e size v n xs := by
  obtain ⟨k1, k2 | ⟨g, cap, cur, rfl, a1, a2, a3⟩⟩ := h
  · exact ⟨k1, .inl k2⟩
  · exact ⟨k1, .inr ⟨g, cap, cur, rfl, a1, (Below.heap_setCell _ _ _ _ (hne g rfl)).trans a2, a3⟩⟩
theorem RowOk.put {H j : Nat} {z : Value} {c : NRow} (h : RowOk H w c) (hb : b < H) : RowOk H (w.setCell ⟨b, j, none⟩ z) c :=
  ⟨own_put h.1 fun g hg e => by have := (h.1.lt g hg).1; omega, Lies.put h.2 fun k hk => by omega⟩
theorem RowOk.put7 {H : Nat} {c : NRow} (h : RowOk H w c) (hb : b < H) : RowOk H (put7 w b a' b' c' d' e' f' g') c :=
  ((((((h.put hb).put hb).put hb).put hb).put hb).put hb).put hb
end
set_option maxRecDepth 1000000 in
theorem nodeInt_any {w : World} {L : Lay} {q : St} {N : Nat} (h : IsR w L q) (hb : BoxR w L N) : Calls Tryd.prog 61 #[ptr N] w fun e w' => e = .returned (.int .i64 (numO q).1) ∧ RPost L w (numO q).2 w' := by
  have c0 := hb.four.1
  have HN := Lib.hid (num_any h)
  have hen := enters1
  obtain ⟨n, hn⟩ : ∃ n, (numO q).1 = n := ⟨_, rfl⟩
  obtain ⟨q1, hq1⟩ : ∃ q1, (numO q).2 = q1 := ⟨_, rfl⟩
  rw [hn, hq1] at HN ⊢
  clear h hb hn hq1
  go_enter Tryd.func61, Tryd.ntmps61
  go_wp2_with fail
  refine HN.out.mono ?_
  rintro e w1 ⟨rfl, hp⟩
  have HP := Lib.hid hp; clear hp
  go_wp2_with fail
  go_ret
  exact ⟨rfl, HP.out⟩
def NodePost (L : Lay) (w : World) (nd : Nd) (q' : St) (e : Ending) (w' : World) : Prop := ∃ vi va, e = .returned (nodeV nd vi va) ∧ RowOk w.heap.size w' (nd, vi, va) ∧ RPost L w q' w'
theorem enters3 (args : Array Value) (w : World) : (callFunc 38 args).run Tryd.prog w = .ok (.enter 38 args) w := enters_of Tryd.func38 (by kernel_rfl) rfl args w
set_option maxHeartbeats 3200000 in
set_option maxRecDepth 1000000 in
theorem node_any {w : World} {L : Lay} {q : St} (h : IsR w L q) : Calls Tryd.prog 43 #[rdV L] w (NodePost L w (nodeO q).1 (nodeO q).2) := by
  obtain ⟨W, hW⟩ : ∃ W, (w.alloc (.cells #[numV L, withinV L, textV L, faultV L] 41)).alloc zeroN = W := ⟨_, rfl⟩
  obtain ⟨N, hN⟩ : ∃ N, w.heap.size = N := ⟨_, rfl⟩
  have hwb : Below w.heap.size w W := by rw [← hW]; exact (below_made w _).alloc (by simp) _
  have hWs : W.heap.size = N + 1 + 1 := by rw [← hW, ← hN]; simp
  have hb0 : W.heap[N]? = some (.cells #[numV L, withinV L, textV L, faultV L] 41 (0, 0)) := by rw [← hW]; exact heap_old (heap_last hN.symm)
  have hb2 : W.heap[N + 1]? = some zeroN := by rw [← hW]; exact heap_last (by simp [hN])
  have HB := Lib.hid hwb; have HLM := Lib.hid h.lM
  have HO0 : Hid (On L N W q W) := Lib.hid ⟨h.under hwb, ⟨hb0, by rw [← hN]; exact h.lM⟩, Leaves.refl _ _⟩
  have HB2 := Lib.hid hb2
  have HNW : Hid (∀ b, W.heap.size ≤ b → N < b) := Lib.hid (fun b hb => by omega)
  have HW := Lib.hid hWs
  obtain ⟨nd, hnd⟩ : ∃ nd, (nodeO q).1 = nd := ⟨_, rfl⟩
  obtain ⟨q9, hq9⟩ : ∃ q9, (nodeO q).2 = q9 := ⟨_, rfl⟩
  have HE := Lib.hid (And.intro hnd hq9)
  rw [hnd, hq9]
  clear hnd hq9
  have HTX : Hid (∀ w', On L N W q w' → Calls Tryd.prog 38 #[ptr L.f, ptr L.s, ptr L.a] w' fun e w'' => e = .returned (.string (textO q).1) ∧ RPost L w' (textO q).2 w'') := Lib.hid (fun w' h1 => text_any h1.rd)
  obtain ⟨uid, huid⟩ : ∃ u, (textO q).1 = u := ⟨_, rfl⟩
  obtain ⟨q0, hq0⟩ : ∃ q0, (textO q).2 = q0 := ⟨_, rfl⟩
  rw [huid, hq0] at HTX
  obtain ⟨m, hm⟩ : ∃ m : Nat, (withinO 255 2 q0).1.toNat = m := ⟨_, rfl⟩
  have hmi := nat_back (most := 255) (why := 2) (q := q0) (by omega)
  have hmr := within_range (most := 255) (why := 2) (q := q0) (by omega)
  rw [hm] at hmi
  have HBY : Hid (∀ w', On L N W q0 w' → Calls Tryd.prog 59 #[rdV L] w' fun e w'' => e = .returned (.int .u8 (m : Int)) ∧ RPost L w' (withinO 255 2 q0).2 w'') := Lib.hid (fun w' h1 => by have := byte_any h1.rd; rw [← hmi] at this; exact this)
  obtain ⟨q1, hq1⟩ : ∃ q1, (withinO 255 2 q0).2 = q1 := ⟨_, rfl⟩
  rw [hq1] at HBY
  have HNU : Hid (∀ w', On L N W q1 w' → Calls Tryd.prog 35 #[ptr L.f, ptr L.s, ptr L.a] w' fun e w'' => e = .returned (.int .i64 (numO q1).1) ∧ RPost L w' (numO q1).2 w'') := Lib.hid (fun w' h1 => num_any h1.rd)
  obtain ⟨n, hn⟩ : ∃ n, (numO q1).1 = n := ⟨_, rfl⟩
  obtain ⟨q2, hq2⟩ : ∃ q2, (numO q1).2 = q2 := ⟨_, rfl⟩
  rw [hn, hq2] at HNU
  have HH : Hid (headO q = ((uid, m, n), q2)) := Lib.hid (by unfold headO; rw [huid, hq0, hm, hq1, hn, hq2])
  obtain ⟨li, hli⟩ : ∃ li, (insO q2).1 = li := ⟨_, rfl⟩
  obtain ⟨q3, hq3⟩ : ∃ q3, (insO q2).2 = q3 := ⟨_, rfl⟩
  obtain ⟨x, hx⟩ : ∃ x, (exprO 17 q3).1 = x := ⟨_, rfl⟩
  obtain ⟨q4, hq4⟩ : ∃ q4, (exprO 17 q3).2 = q4 := ⟨_, rfl⟩
  have HF : Hid (nodeO q = (⟨uid, m, li, x, n⟩, q4)) := Lib.hid (by unfold nodeO; rw [HH.out]; simp only; rw [hli, hq3, hx, hq4])
  obtain rfl : nd = ⟨uid, m, li, x, n⟩ := by rw [← HE.out.1, HF.out]
  obtain rfl : q9 = q4 := by rw [← HE.out.2, HF.out]
  have HI := Lib.hid (And.intro hli hq3); have HX := Lib.hid (And.intro hx hq4)
  have hen1 := enters1
  have hen3 := enters3
  unfold rdV numV withinV textV faultV at HBY
  unfold rdV numV withinV textV faultV
  unfold numV withinV textV faultV at hW
  have HWW := Lib.hid hW
  have HNN := Lib.hid hN
  clear h hwb hb0 hb2 hWs hm hmi hmr hq1 hn hq2 hW hN huid hq0 hli hq3 hx hq4 HE HF HH
  go_enter Tryd.func43, Tryd.ntmps43
  go_upto_region 1 with fail
  rw [HNN.out, HWW.out]
  go_cut [3] (fun t wx => ∃ b, t = ptr b ∧ W.heap.size ≤ b ∧ wx.heap[b]? = some (.cells #[.string uid, .int .u8 (m : Int), .slice none 0 0, .int .u8 0, .int .i64 0, .slice none 0 0, .int .i64 n] 52 (0, 0)) ∧ On L N W q2 wx)
  case first =>
    refine dsk.wp_region_peel2 (by kernel_rfl) (by simp only [List.dropLast_cons_cons, List.dropLast_singleton]; exact rfl) rfl (by kernel_rfl) ?_
    refine wpAny_of_held (S := fun w' => w'.cell? ⟨N, 0, none⟩ = some (.func (.func 35) #[] #[ptr L.f, ptr L.s, ptr L.a]) ∧ w'.cell? ⟨N, 1, none⟩ = some (.func (.func 37) #[] #[ptr L.n, ptr L.f]) ∧ w'.cell? ⟨N, 2, none⟩ = some (.func (.func 38) #[] #[ptr L.f, ptr L.s, ptr L.a]) ∧ w'.cell? ⟨N, 3, none⟩ = some (.func (.func 40) #[] #[ptr L.f])) _ _ _ _ ?_
    have hHeld : W.drew.cell? ⟨N, 0, none⟩ = some (.func (.func 35) #[] #[ptr L.f, ptr L.s, ptr L.a]) ∧ W.drew.cell? ⟨N, 1, none⟩ = some (.func (.func 37) #[] #[ptr L.n, ptr L.f]) ∧ W.drew.cell? ⟨N, 2, none⟩ = some (.func (.func 38) #[] #[ptr L.f, ptr L.s, ptr L.a]) ∧ W.drew.cell? ⟨N, 3, none⟩ = some (.func (.func 40) #[] #[ptr L.f]) := HO0.out.drew.box.four
    have HO := Lib.hid HO0.out.drew
    refine wpAnyH_take (i := 0) (v := ?v1) rfl (by kernel_rfl) (by kernel_rfl) (by kernel_rfl) (fun _ _ _ h => h) (Or.inl ⟨by rfl, ?hy1⟩) (by assumption) ?rest1
    case hy1 => (intro w0 hSw; (try dsimp only at hSw); go_simp; try with_reducible rfl)
    try simp only [Act.put, List.getElem_toArray, List.getElem_cons_zero, List.getElem_cons_succ, List.setIfInBounds_toArray, List.set_cons_zero, List.set_cons_succ]
    refine wpAnyH_take (i := 1) (v := ?v2) rfl (by kernel_rfl) (by kernel_rfl) (by kernel_rfl) (fun _ _ _ h => h) (Or.inl ⟨by rfl, ?hy2⟩) (by assumption) ?rest2
    case hy2 => (intro w0 hSw; (try dsimp only at hSw); go_simp; try with_reducible rfl)
    try simp only [Act.put, List.getElem_toArray, List.getElem_cons_zero, List.getElem_cons_succ, List.setIfInBounds_toArray, List.set_cons_zero, List.set_cons_succ]
    refine wpAnyH_take (i := 3) (v := ?v3) rfl (by kernel_rfl) (by kernel_rfl) (by kernel_rfl) (fun _ _ _ h => h) (Or.inl ⟨by rfl, ?hy3⟩) (by assumption) ?rest3
    case hy3 => (intro w0 hSw; (try dsimp only at hSw); go_simp; try with_reducible rfl)
    try simp only [Act.put, List.getElem_toArray, List.getElem_cons_zero, List.getElem_cons_succ, List.setIfInBounds_toArray, List.set_cons_zero, List.set_cons_succ]
    refine wpAnyH_take (i := 5) (v := ?v4) rfl (by kernel_rfl) (by kernel_rfl) (by kernel_rfl) (fun _ _ _ h => h) (Or.inl ⟨by rfl, ?hy4⟩) (by assumption) ?rest4
    case hy4 => (intro w0 hSw; (try dsimp only at hSw); go_simp; try with_reducible rfl)
    try simp only [Act.put, List.getElem_toArray, List.getElem_cons_zero, List.getElem_cons_succ, List.setIfInBounds_toArray, List.set_cons_zero, List.set_cons_succ]
    refine wpAnyH_take (i := 6) (v := ?v5) rfl (by kernel_rfl) (by kernel_rfl) (by kernel_rfl) (fun _ _ _ h => h) (Or.inl ⟨by rfl, ?hy5⟩) (by assumption) ?rest5
    case hy5 => (intro w0 hSw; (try dsimp only at hSw); go_simp; try with_reducible rfl)
    try simp only [Act.put, List.getElem_toArray, List.getElem_cons_zero, List.getElem_cons_succ, List.setIfInBounds_toArray, List.set_cons_zero, List.set_cons_succ]
    refine wpAnyH_ready (rs := [2, 9]) (by kernel_rfl) (by simp) ?_
    refine AllReadyH.cons rfl (fun KQ hKQ => ?_) (AllReadyH.cons rfl (fun KQ hKQ => ?_) AllReadyH.nil)
    · go_simp
      refine (HTX.out _ HO.out).mono ?_
      rintro e WX1 ⟨rfl, hp⟩
      have HO := Lib.hid (HO.out.call hp)
      clear hp
      refine hKQ.out _ _ ?_ (fun hHeld => ?_)
      · exact HO.out.box.four
      clear hKQ KQ
      try simp only [Act.put, List.getElem_toArray, List.getElem_cons_zero, List.getElem_cons_succ, List.setIfInBounds_toArray, List.set_cons_zero, List.set_cons_succ]
      refine wpAnyH_ready (rs := [4, 9]) (by kernel_rfl) (by simp) ?_
      refine AllReadyH.cons rfl (fun KQ hKQ => ?_) (AllReadyH.cons rfl (fun KQ hKQ => ?_) AllReadyH.nil)
      · go_simp
        refine (HBY.out _ HO.out).mono ?_
        rintro e WX2 ⟨rfl, hp⟩
        have HO := Lib.hid (HO.out.call hp)
        clear hp
        refine hKQ.out _ _ ?_ (fun hHeld => ?_)
        · exact HO.out.box.four
        clear hKQ KQ
        try simp only [Act.put, List.getElem_toArray, List.getElem_cons_zero, List.getElem_cons_succ, List.setIfInBounds_toArray, List.set_cons_zero, List.set_cons_succ]
        refine wpAnyH_ready (rs := [7, 9]) (by kernel_rfl) (by simp) ?_
        refine AllReadyH.cons rfl (fun KQ hKQ => ?_) (AllReadyH.cons rfl (fun KQ hKQ => ?_) AllReadyH.nil)
        · go_simp
          refine (HNU.out _ HO.out).mono ?_
          rintro e WX3 ⟨rfl, hp⟩
          have HO := Lib.hid (HO.out.call hp)
          clear hp
          refine hKQ.out _ _ ?_ (fun hHeld => ?_)
          · exact HO.out.box.four
          clear hKQ KQ
          try simp only [Act.put, List.getElem_toArray, List.getElem_cons_zero, List.getElem_cons_succ, List.setIfInBounds_toArray, List.set_cons_zero, List.set_cons_succ]
          refine wpAnyH_ready (rs := [8, 9]) (by kernel_rfl) (by simp) ?_
          refine AllReadyH.cons rfl (fun KQ hKQ => ?_) (AllReadyH.cons rfl (fun KQ hKQ => ?_) AllReadyH.nil)
          · go_simp
            refine hKQ.out _ _ ?_ (fun hHeld => ?_)
            · exact HO.out.box.four
            clear hKQ KQ
            try simp only [Act.put, List.getElem_toArray, List.getElem_cons_zero, List.getElem_cons_succ, List.setIfInBounds_toArray, List.set_cons_zero, List.set_cons_succ]
            refine wpAnyH_ready (rs := [9]) (by kernel_rfl) (by simp) ?_
            refine AllReadyH.cons rfl (fun KQ hKQ => ?_) AllReadyH.nil
            go_simp
            refine hKQ.out _ _ ?_ (fun hHeld => ?_)
            · exact (HO.out.made (zeroN)).box.four
            clear hKQ KQ
            try simp only [Act.put, List.getElem_toArray, List.getElem_cons_zero, List.getElem_cons_succ, List.setIfInBounds_toArray, List.set_cons_zero, List.set_cons_succ]
            have HZ := Lib.hid (heap_last (w := WX3) (o := zeroN) rfl)
            have HBM : Hid (W.heap.size ≤ WX3.heap.size) := Lib.hid HO.out.lv.size
            have HOB := Lib.hid HO.out
            have HO := Lib.hid (HO.out.made (zeroN))
            refine wpAnyH_done (by kernel_rfl) ?_ _
            change wpList _ _ _ _ _ _
            go_wp2_with fail
            go_meet
            exact ⟨_, rfl, HBM.out, heap_last rfl, HOB.out.made _⟩
          · go_simp
            refine hKQ.out _ _ ?_ (fun hHeld => ?_)
            · exact (HO.out.made (zeroN)).box.four
            clear hKQ KQ
            try simp only [Act.put, List.getElem_toArray, List.getElem_cons_zero, List.getElem_cons_succ, List.setIfInBounds_toArray, List.set_cons_zero, List.set_cons_succ]
            have HZ := Lib.hid (heap_last (w := WX3) (o := zeroN) rfl)
            have HBM : Hid (W.heap.size ≤ WX3.heap.size) := Lib.hid HO.out.lv.size
            have HOB := Lib.hid HO.out
            have HO := Lib.hid (HO.out.made (zeroN))
            refine wpAnyH_ready (rs := [8]) (by kernel_rfl) (by simp) ?_
            refine AllReadyH.cons rfl (fun KQ hKQ => ?_) AllReadyH.nil
            go_simp
            refine hKQ.out _ _ ?_ (fun hHeld => ?_)
            · exact HO.out.box.four
            clear hKQ KQ
            try simp only [Act.put, List.getElem_toArray, List.getElem_cons_zero, List.getElem_cons_succ, List.setIfInBounds_toArray, List.set_cons_zero, List.set_cons_succ]
            refine wpAnyH_done (by kernel_rfl) ?_ _
            change wpList _ _ _ _ _ _
            go_wp2_with fail
            go_meet
            exact ⟨_, rfl, HBM.out, heap_last rfl, HOB.out.made _⟩
        · go_simp
          refine hKQ.out _ _ ?_ (fun hHeld => ?_)
          · exact (HO.out.made (zeroN)).box.four
          clear hKQ KQ
          try simp only [Act.put, List.getElem_toArray, List.getElem_cons_zero, List.getElem_cons_succ, List.setIfInBounds_toArray, List.set_cons_zero, List.set_cons_succ]
          have HZ := Lib.hid (heap_last (w := WX2) (o := zeroN) rfl)
          have HBM : Hid (W.heap.size ≤ WX2.heap.size) := Lib.hid HO.out.lv.size
          have HOB := Lib.hid HO.out
          have HO := Lib.hid (HO.out.made (zeroN))
          refine wpAnyH_ready (rs := [7]) (by kernel_rfl) (by simp) ?_
          refine AllReadyH.cons rfl (fun KQ hKQ => ?_) AllReadyH.nil
          go_simp
          refine (HNU.out _ HO.out).mono ?_
          rintro e WX3 ⟨rfl, hp⟩
          have HZ := Lib.hid (HO.out.stays hp.2 HZ.out (by decide) (by decide))
          have HO := Lib.hid (HO.out.call hp)
          clear hp
          refine hKQ.out _ _ ?_ (fun hHeld => ?_)
          · exact HO.out.box.four
          clear hKQ KQ
          try simp only [Act.put, List.getElem_toArray, List.getElem_cons_zero, List.getElem_cons_succ, List.setIfInBounds_toArray, List.set_cons_zero, List.set_cons_succ]
          refine wpAnyH_ready (rs := [8]) (by kernel_rfl) (by simp) ?_
          refine AllReadyH.cons rfl (fun KQ hKQ => ?_) AllReadyH.nil
          go_simp
          refine hKQ.out _ _ ?_ (fun hHeld => ?_)
          · exact HO.out.box.four
          clear hKQ KQ
          try simp only [Act.put, List.getElem_toArray, List.getElem_cons_zero, List.getElem_cons_succ, List.setIfInBounds_toArray, List.set_cons_zero, List.set_cons_succ]
          refine wpAnyH_done (by kernel_rfl) ?_ _
          change wpList _ _ _ _ _ _
          obtain ⟨z0, z1, z2, z3, z4, z5, z6, hf⟩ := cells7 HZ.out
          have f0 := hf 0; have f1 := hf 1; have f2 := hf 2; have f3 := hf 3; have f4 := hf 4; have f5 := hf 5; have f6 := hf 6
          clear hf
          have HS7 := Lib.hid (set7 (a' := .string uid) (b' := .int .u8 (m : Int)) (c' := .slice none 0 0) (d' := .int .u8 0) (e' := .int .i64 0) (f' := .slice none 0 0) (g' := .int .i64 n) HZ.out)
          go_wp2_with fail
          go_meet
          exact ⟨_, rfl, HBM.out, HS7.out, On.put7 HO.out HBM.out (HNW.out _ HBM.out)⟩
      · go_simp
        refine hKQ.out _ _ ?_ (fun hHeld => ?_)
        · exact (HO.out.made (zeroN)).box.four
        clear hKQ KQ
        try simp only [Act.put, List.getElem_toArray, List.getElem_cons_zero, List.getElem_cons_succ, List.setIfInBounds_toArray, List.set_cons_zero, List.set_cons_succ]
        have HZ := Lib.hid (heap_last (w := WX1) (o := zeroN) rfl)
        have HBM : Hid (W.heap.size ≤ WX1.heap.size) := Lib.hid HO.out.lv.size
        have HOB := Lib.hid HO.out
        have HO := Lib.hid (HO.out.made (zeroN))
        refine wpAnyH_ready (rs := [4]) (by kernel_rfl) (by simp) ?_
        refine AllReadyH.cons rfl (fun KQ hKQ => ?_) AllReadyH.nil
        go_simp
        refine (HBY.out _ HO.out).mono ?_
        rintro e WX2 ⟨rfl, hp⟩
        have HZ := Lib.hid (HO.out.stays hp.2 HZ.out (by decide) (by decide))
        have HO := Lib.hid (HO.out.call hp)
        clear hp
        refine hKQ.out _ _ ?_ (fun hHeld => ?_)
        · exact HO.out.box.four
        clear hKQ KQ
        try simp only [Act.put, List.getElem_toArray, List.getElem_cons_zero, List.getElem_cons_succ, List.setIfInBounds_toArray, List.set_cons_zero, List.set_cons_succ]
        refine wpAnyH_ready (rs := [7]) (by kernel_rfl) (by simp) ?_
        refine AllReadyH.cons rfl (fun KQ hKQ => ?_) AllReadyH.nil
        go_simp
        refine (HNU.out _ HO.out).mono ?_
        rintro e WX3 ⟨rfl, hp⟩
        have HZ := Lib.hid (HO.out.stays hp.2 HZ.out (by decide) (by decide))
        have HO := Lib.hid (HO.out.call hp)
        clear hp
        refine hKQ.out _ _ ?_ (fun hHeld => ?_)
        · exact HO.out.box.four
        clear hKQ KQ
        try simp only [Act.put, List.getElem_toArray, List.getElem_cons_zero, List.getElem_cons_succ, List.setIfInBounds_toArray, List.set_cons_zero, List.set_cons_succ]
        refine wpAnyH_ready (rs := [8]) (by kernel_rfl) (by simp) ?_
        refine AllReadyH.cons rfl (fun KQ hKQ => ?_) AllReadyH.nil
        go_simp
        refine hKQ.out _ _ ?_ (fun hHeld => ?_)
        · exact HO.out.box.four
        clear hKQ KQ
        try simp only [Act.put, List.getElem_toArray, List.getElem_cons_zero, List.getElem_cons_succ, List.setIfInBounds_toArray, List.set_cons_zero, List.set_cons_succ]
        refine wpAnyH_done (by kernel_rfl) ?_ _
        change wpList _ _ _ _ _ _
        obtain ⟨z0, z1, z2, z3, z4, z5, z6, hf⟩ := cells7 HZ.out
        have f0 := hf 0; have f1 := hf 1; have f2 := hf 2; have f3 := hf 3; have f4 := hf 4; have f5 := hf 5; have f6 := hf 6
        clear hf
        have HS7 := Lib.hid (set7 (a' := .string uid) (b' := .int .u8 (m : Int)) (c' := .slice none 0 0) (d' := .int .u8 0) (e' := .int .i64 0) (f' := .slice none 0 0) (g' := .int .i64 n) HZ.out)
        go_wp2_with fail
        go_meet
        exact ⟨_, rfl, HBM.out, HS7.out, On.put7 HO.out HBM.out (HNW.out _ HBM.out)⟩
    · go_simp
      refine hKQ.out _ _ ?_ (fun hHeld => ?_)
      · exact (HO.out.made (zeroN)).box.four
      clear hKQ KQ
      try simp only [Act.put, List.getElem_toArray, List.getElem_cons_zero, List.getElem_cons_succ, List.setIfInBounds_toArray, List.set_cons_zero, List.set_cons_succ]
      have HZ : Hid ((W.drew.alloc (zeroN)).heap[W.heap.size]? = some (zeroN)) := Lib.hid (heap_last rfl)
      have HBM : Hid (W.heap.size ≤ W.heap.size) := Lib.hid HO.out.lv.size
      have HOB := Lib.hid HO.out
      have HO := Lib.hid (HO.out.made (zeroN))
      refine wpAnyH_ready (rs := [2]) (by kernel_rfl) (by simp) ?_
      refine AllReadyH.cons rfl (fun KQ hKQ => ?_) AllReadyH.nil
      go_simp
      refine (HTX.out _ HO.out).mono ?_
      rintro e WX1 ⟨rfl, hp⟩
      have HZ := Lib.hid (HO.out.stays hp.2 HZ.out (by decide) (by decide))
      have HO := Lib.hid (HO.out.call hp)
      clear hp
      refine hKQ.out _ _ ?_ (fun hHeld => ?_)
      · exact HO.out.box.four
      clear hKQ KQ
      try simp only [Act.put, List.getElem_toArray, List.getElem_cons_zero, List.getElem_cons_succ, List.setIfInBounds_toArray, List.set_cons_zero, List.set_cons_succ]
      refine wpAnyH_ready (rs := [4]) (by kernel_rfl) (by simp) ?_
      refine AllReadyH.cons rfl (fun KQ hKQ => ?_) AllReadyH.nil
      go_simp
      refine (HBY.out _ HO.out).mono ?_
      rintro e WX2 ⟨rfl, hp⟩
      have HZ := Lib.hid (HO.out.stays hp.2 HZ.out (by decide) (by decide))
      have HO := Lib.hid (HO.out.call hp)
      clear hp
      refine hKQ.out _ _ ?_ (fun hHeld => ?_)
      · exact HO.out.box.four
      clear hKQ KQ
      try simp only [Act.put, List.getElem_toArray, List.getElem_cons_zero, List.getElem_cons_succ, List.setIfInBounds_toArray, List.set_cons_zero, List.set_cons_succ]
      refine wpAnyH_ready (rs := [7]) (by kernel_rfl) (by simp) ?_
      refine AllReadyH.cons rfl (fun KQ hKQ => ?_) AllReadyH.nil
      go_simp
      refine (HNU.out _ HO.out).mono ?_
      rintro e WX3 ⟨rfl, hp⟩
      have HZ := Lib.hid (HO.out.stays hp.2 HZ.out (by decide) (by decide))
      have HO := Lib.hid (HO.out.call hp)
      clear hp
      refine hKQ.out _ _ ?_ (fun hHeld => ?_)
      · exact HO.out.box.four
      clear hKQ KQ
      try simp only [Act.put, List.getElem_toArray, List.getElem_cons_zero, List.getElem_cons_succ, List.setIfInBounds_toArray, List.set_cons_zero, List.set_cons_succ]
      refine wpAnyH_ready (rs := [8]) (by kernel_rfl) (by simp) ?_
      refine AllReadyH.cons rfl (fun KQ hKQ => ?_) AllReadyH.nil
      go_simp
      refine hKQ.out _ _ ?_ (fun hHeld => ?_)
      · exact HO.out.box.four
      clear hKQ KQ
      try simp only [Act.put, List.getElem_toArray, List.getElem_cons_zero, List.getElem_cons_succ, List.setIfInBounds_toArray, List.set_cons_zero, List.set_cons_succ]
      refine wpAnyH_done (by kernel_rfl) ?_ _
      change wpList _ _ _ _ _ _
      obtain ⟨z0, z1, z2, z3, z4, z5, z6, hf⟩ := cells7 HZ.out
      have f0 := hf 0; have f1 := hf 1; have f2 := hf 2; have f3 := hf 3; have f4 := hf 4; have f5 := hf 5; have f6 := hf 6
      clear hf
      have HS7 := Lib.hid (set7 (a' := .string uid) (b' := .int .u8 (m : Int)) (c' := .slice none 0 0) (d' := .int .u8 0) (e' := .int .i64 0) (f' := .slice none 0 0) (g' := .int .i64 n) HZ.out)
      go_wp2_with fail
      go_meet
      exact ⟨_, rfl, HBM.out, HS7.out, On.put7 HO.out HBM.out (HNW.out _ HBM.out)⟩
  case rest =>
    rename World => w4
    obtain ⟨b, rfl, hb, hz, ho⟩ := hcut
    have HROW := Lib.hid (row_int (K := 61) (cp := #[ptr N]) (f := numO) 12 (by omega) (by omega) ho.rd (enters_of Tryd.func61 (by kernel_rfl) rfl) (fun q5 w5 h5 hl5 => nodeInt_any h5 (ho.box.leaves hl5 ho.rd)))
    have hins : rowO numO (withinO 12 3 q2).1.toNat (withinO 12 3 q2).2 = (li, q3) := by have h1 := HI.out; unfold insO at h1; rw [← h1.1, ← h1.2]
    rw [hins] at HROW
    unfold rdV numV withinV textV faultV at HROW
    obtain ⟨c0, c1, c2, c3⟩ := ho.box.four
    have HO4 := Lib.hid ho; have HZ4 := Lib.hid hz; have HBB := Lib.hid hb
    have HR4 : Hid (w4.heap[N + 1]? = some zeroN) := Lib.hid (ho.lv.ty HO0.out.rd HB2.out (by decide) (by decide))
    clear ho hz hb hins
    go_wp2_with fail
    refine HROW.out.mono ?_
    rintro e w5 ⟨v, rfl, hown, hp⟩
    obtain ⟨av, cv, rfl, -, -⟩ := own_slice hown
    obtain ⟨nv, hnv⟩ : ∃ nv, li.length = nv := ⟨_, rfl⟩
    have HNV := Lib.hid hnv
    rw [hnv] at hown ⊢
    have HOW := Lib.hid hown; have HP5 := Lib.hid hp
    have HZ5 := Lib.hid (hp.2.ty HO4.out.rd HZ4.out (by decide) (by decide))
    have HR5 := Lib.hid (hp.2.ty HO4.out.rd HR4.out (by decide) (by decide))
    have HO5 := Lib.hid (HO4.out.call hp)
    obtain ⟨z0, z1, z2, z3, z4, z5, z6, hf⟩ := cells7 HZ5.out
    have f2 := hf 2
    clear hown hp hnv hf c0 c1 c2 c3
    go_upto_region 3 with fail
    obtain ⟨W5, hW5⟩ : ∃ W5, w5.setCell ⟨b, 2, none⟩ (.slice av nv cv) = W5 := ⟨_, rfl⟩
    rw [hW5]
    have hne : N + 1 ≠ b := by have := HBB.out; have := HW.out; omega
    have HNE := Lib.hid hne
    have HW5 := Lib.hid hW5
    have HE5 : Hid (W5.heap[b]? = some (.cells #[.string uid, .int .u8 (m : Int), .slice av nv cv, .int .u8 0, .int .i64 0, .slice none 0 0, .int .i64 n] 52 (0, 0))) := Lib.hid (by rw [← hW5]; exact setCell_heap HZ5.out)
    have HT5 : Hid (W5.heap[N + 1]? = some zeroN) := Lib.hid (by rw [← hW5, Below.heap_setCell _ _ _ _ hne]; exact HR5.out)
    have HO6 : Hid (On L N W q3 W5) := Lib.hid (by rw [← hW5]; exact HO5.out.put HBB.out (HNW.out _ HBB.out))
    have HOW5 : Hid (W5.ownsRow w4.heap.size 3 1 (.slice av nv cv) nv (li.map intV)) := Lib.hid (by
      rw [← hW5]
      exact own_put HOW.out fun g hg e => by have := (HOW.out.lt g hg).1; have := (Array.getElem?_eq_some_iff.1 HZ4.out).1; omega)
    have HXP := Lib.hid (expr_any 17 (by omega) (by omega) W5 L q3 HO6.out.rd)
    rw [HX.out.1, HX.out.2] at HXP
    unfold rdV numV withinV textV faultV at HXP
    obtain ⟨c0, c1, c2, c3⟩ := HO6.out.box.four
    clear z0 z1 z2 z3 z4 z5 z6 f2 hne hW5
    go_wp2_with fail
    refine HXP.out.mono ?_
    rintro e w6 ⟨va, rfl, hla, hp⟩
    obtain ⟨aa, ca, rfl, -⟩ := hla.form
    obtain ⟨na, hna⟩ : ∃ na, x.args.length = na := ⟨_, rfl⟩
    rw [hna] at hla ⊢
    unfold exV
    have HLA := Lib.hid hla; have HP6 := Lib.hid hp
    have HZ6 := Lib.hid (hp.2.ty HO6.out.rd HE5.out (by decide) (by decide))
    have HR6 := Lib.hid (hp.2.ty HO6.out.rd HT5.out (by decide) (by decide))
    have HO7 := Lib.hid (HO6.out.call hp)
    have HOW6 := Lib.hid (hp.2.own HO6.out.rd (by have := HO4.out.rd.lM; exact this) HOW5.out)
    obtain ⟨z0, z1, z2, z3, z4, z5, z6, hf⟩ := cells7 HZ6.out
    have f3 := hf 3; have f4 := hf 4; have f5 := hf 5
    clear hla hp hna hf c0 c1 c2 c3
    go_upto_region 4 with fail
    obtain ⟨W6, hW6⟩ : ∃ W6, (((w6.setCell ⟨b, 3, none⟩ (.int .u8 (x.op : Int))).setCell ⟨b, 4, none⟩ (.int .i64 x.n)).setCell ⟨b, 5, none⟩ (.slice aa na ca)) = W6 := ⟨_, rfl⟩
    rw [hW6]
    have HE6 : Hid (W6.heap[b]? = some (.cells #[.string uid, .int .u8 (m : Int), .slice av nv cv, .int .u8 (x.op : Int), .int .i64 x.n, .slice aa na ca, .int .i64 n] 52 (0, 0))) := Lib.hid (by
      have h3 := setCell_heap (j := 3) (z := .int .u8 (x.op : Int)) HZ6.out
      have h4 := setCell_heap (j := 4) (z := .int .i64 x.n) h3
      have h5 := setCell_heap (j := 5) (z := .slice aa na ca) h4
      simp only [List.setIfInBounds_toArray, List.set_cons_zero, List.set_cons_succ] at h5
      rw [← hW6]; exact h5)
    have HT6 : Hid (W6.heap[N + 1]? = some zeroN) := Lib.hid (by rw [← hW6, Below.heap_setCell _ _ _ _ HNE.out, Below.heap_setCell _ _ _ _ HNE.out, Below.heap_setCell _ _ _ _ HNE.out]; exact HR6.out)
    have HFIN : Hid (NodePost L w ⟨uid, m, li, x, n⟩ q9 (.returned (.agg #[.string uid, .int .u8 (m : Int), .slice av nv cv, .int .u8 (x.op : Int), .int .i64 x.n, .slice aa na ca, .int .i64 n])) (put7 W6 (N + 1) (.string uid) (.int .u8 (m : Int)) (.slice av nv cv) (.int .u8 (x.op : Int)) (.int .i64 x.n) (.slice aa na ca) (.int .i64 n))) := Lib.hid (by
      have hN := HNN.out; have hWsz := HW.out; have hbb := HBB.out; have hLM := HLM.out; have h4sz := HO4.out.lv.size; have h6sz := HO6.out.lv.size
      have hb4 := (Array.getElem?_eq_some_iff.1 HZ4.out).1
      have h45 : w4.heap.size ≤ W5.heap.size := by
        have h1 := HP5.out.2.size
        have h2 : W5.heap.size = w5.heap.size := by rw [← HW5.out]; simp
        omega
      have hRP : RPost L w q9 w6 := ⟨HO7.out.rd, (Leaves.of_below HB.out).trans HO7.out.lv⟩
      have hok : RowOk w4.heap.size w6 (⟨uid, m, li, x, n⟩, .slice av nv cv, .slice aa na ca) := ⟨by show w6.ownsRow _ 3 1 _ li.length _; rw [HNV.out]; exact HOW6.out, HLA.out.mono fun k hk => by have hk' : W5.heap.size ≤ k := hk; omega⟩
      refine ⟨.slice av nv cv, .slice aa na ca, rfl, ?_, ?_⟩
      · rw [← hW6]
        exact ((((hok.put hb4).put hb4).put hb4).put7 (by omega)).more (by omega)
      · rw [← hW6]
        exact (((hRP.put hLM (by omega)).put hLM (by omega)).put hLM (by omega)).put7 hLM (by omega))
    obtain ⟨y0, y1, y2, y3, y4, y5, y6, -⟩ := cells7 HE6.out
    obtain ⟨t0, t1, t2, t3, t4, t5, t6, hf⟩ := cells7 HT6.out
    have g0 := hf 0; have g1 := hf 1; have g2 := hf 2; have g3 := hf 3; have g4 := hf 4; have g5 := hf 5; have g6 := hf 6
    have HS7 := Lib.hid (set7 (a' := .string uid) (b' := .int .u8 (m : Int)) (c' := .slice av nv cv) (d' := .int .u8 (x.op : Int)) (e' := .int .i64 x.n) (f' := .slice aa na ca) (g' := .int .i64 n) HT6.out)
    clear z0 z1 z2 z3 z4 z5 z6 f3 f4 f5 hf hW6
    go_wp2_with fail
    obtain ⟨e0, e1, e2, e3, e4, e5, e6, -⟩ := cells7 HS7.out
    exact bodyPost_ret (v := .agg #[.string uid, .int .u8 (m : Int), .slice av nv cv, .int .u8 (x.op : Int), .int .i64 x.n, .slice aa na ca, .int .i64 n]) (by simp [results, Tryd.f43, go_sem, e0, e1, e2, e3, e4, e5, e6]) rfl HFIN.out
end Go.Proofs.YtnelfokfgnikfaaDoor.pk
