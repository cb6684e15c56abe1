/- What Put, Cut and shorten do. -/
import Derived.Test.YtbnnbaoimidfnaaC
namespace Go.Proofs.Ytbnnbaoimidfnaa.lg
set_option linter.unusedSimpArgs false
set_option linter.unusedVariables false
open Go.RowKit byt frm dsk
attribute [local go_sem ↓] Go.wp_at_zero Go.wp_at_succ

section
variable {w w' w1 w2 w3 : World} {G F : Nat → Prop} {l d : Nat} {x x1 x2 : D} {y y2 : Lg} {v : Value} {E : Int}
theorem Parts.frame (h : Parts w G F l d x y v) (hf : ∀ k, G k → w'.heap[k]? = w.heap[k]?) (hs : w.heap.size ≤ w'.heap.size) : Parts w' G F l d x y v :=
  ⟨h.disk.frame (fun k hk => hf k (h.fG k hk)) hs, h.log.frame (hf l h.gl) fun g hg => hf g (h.gv g hg), h.fl, h.fv, h.fG, h.gl, h.gv, fun k hk => Nat.lt_of_lt_of_le (h.lt k hk) hs⟩
theorem Parts.below (h : Parts w G F l d x y v) (hb : Below w.heap.size w w') : Parts w' G F l d x y v := h.frame (fun k hk => hb.block k (h.lt k hk)) hb.size
theorem below_dr (hb : Below w.heap.size w w') : Below w.heap.size w w'.drew := ⟨hb.os, hb.tape, hb.output, hb.size, hb.block⟩
theorem PostL.after (hb : Below w.heap.size w w1) (hG : ∀ k, G k → k < w.heap.size) (p : PostL G l d x2 y2 w1 w2) : PostL G l d x2 y2 w w2 := by
  have h1 := hb.size
  have h2 := p.only.size
  refine ⟨p.log.mono (fun k hk => ?_) fun k hk => ?_, (Only.of_below hb).then p.only⟩
  · rcases hk with hk | ⟨hk, hk'⟩
    · exact .inl hk
    · exact .inr ⟨by omega, hk'⟩
  · rcases hk with hk | ⟨_, hk⟩
    · exact p.log.lt (.inl hk)
    · exact hk
theorem put_close {r : Fr} (hp : Parts w G F l d x y v) (p : Post F d x1 w w2) (ha : Added w2 w3 l d y v r) (hok : Lg.Ok { y with recs := y.recs ++ [r], loose := true } x1) :
    PostL G l d x1 { y with recs := y.recs ++ [r], loose := true } w (w3.setCell ⟨l, 5, none⟩ (.bool true)) := by
  obtain ⟨⟨v', hat, hv⟩, ho⟩ := ha
  refine PostL.of_step (hp.step p (ho.then (only_one w3)) (v' := v') (LogAt.set hat 5 _ (fun j hj => ?_) rfl) fun g hg => ?_) hok
  · unfold cellsL
    by_cases h4 : j = 5
    · subst h4; rfl
    · rw [if_neg h4]
      by_cases h0 : j = 0
      · simp [h0]
      · by_cases h1 : j = 1
        · simp [h1]
        · by_cases h2 : j = 2
          · simp [h2]
          · by_cases h3 : j = 3
            · simp [h3]
            · simp [h0, h1, h2, h3, show j = 4 from by omega]
  · obtain ⟨h1, h2⟩ := hv g hg
    exact ⟨h1, by simpa using h2⟩
theorem put_zero (p : ByteArray) (hp : p.size ≤ 9223372036854775807) (h : IsLog w G l d x y) : Calls Try.prog 11 #[ptr l 0, .int .u8 0, .string p] w fun e w' => e = .returned (.int .i64 2) ∧ PostL G l d x y w w' := by
  have HC := Lib.hid (putF_at (putF_zero p) w (by decide) hp)
  have H := Lib.hid h
  clear h
  go_enter Try.func11, Try.ntmps11
  go_wp2_with fail
  refine HC.out.mono ?_
  rintro e w1 ⟨rfl, hb⟩
  have HB := Lib.hid hb
  clear hb
  go_wp2_with fail
  go_ret
  exact ⟨rfl, PostL.after HB.out (fun k hk => H.out.lt hk) (PostL.refl (H.out.below HB.out))⟩
set_option maxHeartbeats 1600000 in
set_option maxRecDepth 100000 in
theorem put_any (r : Fr) (hr : 0 < r.1.1) (h : IsLog w G l d x y) (hs : putL x y r = (E, x2, y2)) (hlen : x.loose.length ≤ 1099511627776) :
    Calls Try.prog 11 #[ptr l 0, .int .u8 (r.1.1 : Nat), .string r.1.2] w fun e w' => e = .returned (.int .i64 E) ∧ PostL G l d x2 y2 w w' := by
  have hok2 := putL_ok hs hr h.ok
  have hyl := h.ok.len h.xok
  have hys := h.ok.size h.xok
  obtain ⟨F, v, hp, hok⟩ := id h
  obtain ⟨f, L, s, b⟩ := y
  obtain ⟨⟨k, p⟩, hkp⟩ := r
  have hkp' : k < 256 ∧ p.size ≤ 65536 := hkp
  dsimp only at hr hyl hys ⊢
  obtain ⟨t, ht⟩ : ∃ t, fb ⟨(k, p), hkp⟩ = t := ⟨_, rfl⟩
  obtain ⟨n, hn⟩ : ∃ n, t.size = n := ⟨_, rfl⟩
  have hfz : fsz ⟨(k, p), hkp⟩ = n := by rw [← fb_size, ht, hn]
  have HF := Lib.hid hfz
  unfold putL at hs
  rw [ht] at hs
  obtain ⟨E1, x1, h1⟩ : ∃ E1 x1, x.append f t = (E1, x1) := ⟨_, _, rfl⟩
  dsimp only at hs
  rw [h1] at hs
  have HE := Lib.hid h1
  have hpf : putF k p = (t, 0) := by rw [← ht]; exact putF_fine (by omega) hkp'.2
  have HC := Lib.hid (putF_at hpf w hkp'.1 (by omega))
  have HP0 := Lib.hid hp
  have HR := Lib.hid hr
  have h0 := hn
  clear hpf h1 ht hfz hr
  by_cases hE : E1 = 0
  · subst hE
    rw [if_pos rfl] at hs
    simp only [Prod.mk.injEq] at hs
    obtain ⟨rfl, rfl, rfl⟩ := hs
    have HOK := Lib.hid hok2
    have HYL := Lib.hid hyl
    have HYS := Lib.hid hys
    clear hp hok h hok2 hyl hys
    have HN := Lib.hid hn
    clear hn h0
    go_enter Try.func11, Try.ntmps11
    go_wp2_with fail
    refine HC.out.mono ?_
    rintro e w1 ⟨rfl, hb⟩
    have HP := Lib.hid (HP0.out.below (below_dr hb))
    have HA := Lib.hid (append_at HE.out w1.drew F d HP.out.disk hlen)
    have HB := Lib.hid hb
    clear hb
    go_wp2_with fail
    refine wp_region_peel2 (by kernel_rfl) (by simp only [List.dropLast_cons_cons, List.dropLast_singleton]; exact rfl) rfl (by kernel_rfl) ?_
    refine wpAny_of_held (S := fun w' => w'.cell? ⟨l, 0, none⟩ = some (ptr d 0) ∧ w'.cell? ⟨l, 1, none⟩ = some (.int .i64 (f : Nat))) _ _ _ _ ?_
    have hHeld : w1.drew.cell? ⟨l, 0, none⟩ = some (ptr d 0) ∧ w1.drew.cell? ⟨l, 1, none⟩ = some (.int .i64 (f : Nat)) := ⟨HP.out.log.cell0, HP.out.log.cell1⟩
    refine wpAnyH_take (i := 0) (v := ?v1) rfl (by kernel_rfl) (by kernel_rfl) (by kernel_rfl) (fun _ _ _ h => h) (Or.inl ⟨by rfl, ?hy1⟩) (by assumption) ?rest1
    case hy1 => (intro w0 hSw; (try dsimp only at hSw); go_simp; try with_reducible rfl)
    try simp only [Act.put, List.getElem_toArray, List.getElem_cons_zero, List.getElem_cons_succ, List.setIfInBounds_toArray, List.set_cons_zero, List.set_cons_succ]
    refine wpAnyH_take (i := 1) (v := ?v2) rfl (by kernel_rfl) (by kernel_rfl) (by kernel_rfl) (fun _ _ _ h => h) (Or.inl ⟨by rfl, ?hy2⟩) (by assumption) ?rest2
    case hy2 => (intro w0 hSw; (try dsimp only at hSw); go_simp; try with_reducible rfl)
    try simp only [Act.put, List.getElem_toArray, List.getElem_cons_zero, List.getElem_cons_succ, List.setIfInBounds_toArray, List.set_cons_zero, List.set_cons_succ]
    refine wpAnyH_take (i := 2) (v := ?v3) rfl (by kernel_rfl) (by kernel_rfl) (by kernel_rfl) (fun _ _ _ h => h) (Or.inl ⟨by rfl, ?hy3⟩) (by assumption) ?rest3
    case hy3 => (intro w0 hSw; (try dsimp only at hSw); go_simp; try with_reducible rfl)
    try simp only [Act.put, List.getElem_toArray, List.getElem_cons_zero, List.getElem_cons_succ, List.setIfInBounds_toArray, List.set_cons_zero, List.set_cons_succ]
    refine wpAnyH_take (i := 3) (v := ?v4) rfl (by kernel_rfl) (by kernel_rfl) (by kernel_rfl) (fun _ _ _ h => h) (Or.inl ⟨by rfl, ?hy4⟩) (by assumption) ?rest4
    case hy4 => (intro w0 hSw; (try dsimp only at hSw); go_simp; try with_reducible rfl)
    try simp only [Act.put, List.getElem_toArray, List.getElem_cons_zero, List.getElem_cons_succ, List.setIfInBounds_toArray, List.set_cons_zero, List.set_cons_succ]
    refine wpAnyH_take (i := 4) (v := ?v5) rfl (by kernel_rfl) (by kernel_rfl) (by kernel_rfl) (fun _ _ _ h => h) (Or.inl ⟨by rfl, ?hy5⟩) (by assumption) ?rest5
    case hy5 => (intro w0 hSw; (try dsimp only at hSw); go_simp; try with_reducible rfl)
    try simp only [Act.put, List.getElem_toArray, List.getElem_cons_zero, List.getElem_cons_succ, List.setIfInBounds_toArray, List.set_cons_zero, List.set_cons_succ]
    refine wpAnyH_take (i := 5) (v := ?v6) rfl (by kernel_rfl) (by kernel_rfl) (by kernel_rfl) (fun _ _ _ h => h) (Or.inl ⟨by rfl, ?hy6⟩) (by assumption) ?rest6
    case hy6 => (intro w0 hSw; (try dsimp only at hSw); go_simp; try with_reducible rfl)
    try simp only [Act.put, List.getElem_toArray, List.getElem_cons_zero, List.getElem_cons_succ, List.setIfInBounds_toArray, List.set_cons_zero, List.set_cons_succ]
    refine wpAnyH_take (i := 6) (v := ?v7) rfl (by kernel_rfl) (by kernel_rfl) (by kernel_rfl) (fun _ _ _ h => h) (Or.inl ⟨by rfl, ?hy7⟩) (by assumption) ?rest7
    case hy7 => (intro w0 hSw; (try dsimp only at hSw); go_simp; try with_reducible rfl)
    try simp only [Act.put, List.getElem_toArray, List.getElem_cons_zero, List.getElem_cons_succ, List.setIfInBounds_toArray, List.set_cons_zero, List.set_cons_succ]
    refine wpAnyH_take (i := 7) (v := ?v8) rfl (by kernel_rfl) (by kernel_rfl) (by kernel_rfl) (fun _ _ _ h => h) (Or.inl ⟨by rfl, ?hy8⟩) (by assumption) ?rest8
    case hy8 => (intro w0 hSw; (try dsimp only at hSw); go_simp; try with_reducible rfl)
    try simp only [Act.put, List.getElem_toArray, List.getElem_cons_zero, List.getElem_cons_succ, List.setIfInBounds_toArray, List.set_cons_zero, List.set_cons_succ]
    refine wpAnyH_take (i := 8) (v := ?v9) rfl (by kernel_rfl) (by kernel_rfl) (by kernel_rfl) (fun _ _ _ h => h) (Or.inl ⟨by rfl, ?hy9⟩) (by assumption) ?rest9
    case hy9 => (intro w0 hSw; (try dsimp only at hSw); go_simp; try with_reducible rfl)
    try simp only [Act.put, List.getElem_toArray, List.getElem_cons_zero, List.getElem_cons_succ, List.setIfInBounds_toArray, List.set_cons_zero, List.set_cons_succ]
    refine wpAnyH_ready (rs := [9]) (by kernel_rfl) (by simp) ?_
    refine AllReadyH.cons rfl (fun K hK => ?_) AllReadyH.nil
    go_simp
    go_at_call 24
    refine HA.out.mono ?_
    rintro e w2 ⟨rfl, p2⟩
    have hat := HP.out.kept p2
    have hh := And.intro hat.cell0 hat.cell1
    have P2 := Lib.hid p2
    clear p2 hat
    refine hK.out _ _ ?_ (fun hHeld => ?_)
    · exact hh
    clear hK K
    try simp only [Act.put, List.getElem_toArray, List.getElem_cons_zero, List.getElem_cons_succ, List.setIfInBounds_toArray, List.set_cons_zero, List.set_cons_succ]
    refine wpAnyH_done (by kernel_rfl) ?_ _
    change wpList _ _ _ _ _ _
    clear hHeld hh
    go_wp2_with fail
    rw [HN.out]
    refine (add_any ⟨(k, p), hkp⟩ n HF.out w2 (HP.out.kept P2.out) (by have := HYL.out; show L.length ≤ _; omega) (by have := HYS.out; show whl L ≤ _; omega)).mono ?_
    rintro e w3 ⟨rfl, hadd⟩
    obtain ⟨⟨v', hat3, _⟩, _⟩ := id hadd
    have c5 := hat3.cell5
    have f5 := hat3.row.frozen 5
    dsimp only at c5
    have HADD := Lib.hid hadd
    clear hadd hat3
    go_wp2_with fail
    go_ret
    exact ⟨rfl, PostL.after (below_dr HB.out) (fun k hk => HP0.out.lt k hk) (put_close HP.out P2.out HADD.out HOK.out)⟩
  · rw [if_neg hE] at hs
    simp only [Prod.mk.injEq] at hs
    obtain ⟨rfl, rfl, rfl⟩ := hs
    have HOK := Lib.hid hok2
    have hE' : (E1 != 0) = true := by simp [hE]
    clear hp hok h hok2 hyl hys hn h0 hE HF
    go_enter Try.func11, Try.ntmps11
    go_wp2_with fail
    refine HC.out.mono ?_
    rintro e w1 ⟨rfl, hb⟩
    have HP := Lib.hid (HP0.out.below (below_dr hb))
    have HA := Lib.hid (append_at HE.out w1.drew F d HP.out.disk hlen)
    have HB := Lib.hid hb
    clear hb
    go_wp2_with fail
    refine wp_region_peel2 (by kernel_rfl) (by simp only [List.dropLast_cons_cons, List.dropLast_singleton]; exact rfl) rfl (by kernel_rfl) ?_
    refine wpAny_of_held (S := fun w' => w'.cell? ⟨l, 0, none⟩ = some (ptr d 0) ∧ w'.cell? ⟨l, 1, none⟩ = some (.int .i64 (f : Nat))) _ _ _ _ ?_
    have hHeld : w1.drew.cell? ⟨l, 0, none⟩ = some (ptr d 0) ∧ w1.drew.cell? ⟨l, 1, none⟩ = some (.int .i64 (f : Nat)) := ⟨HP.out.log.cell0, HP.out.log.cell1⟩
    refine wpAnyH_take (i := 0) (v := ?v10) rfl (by kernel_rfl) (by kernel_rfl) (by kernel_rfl) (fun _ _ _ h => h) (Or.inl ⟨by rfl, ?hy10⟩) (by assumption) ?rest10
    case hy10 => (intro w0 hSw; (try dsimp only at hSw); go_simp; try with_reducible rfl)
    try simp only [Act.put, List.getElem_toArray, List.getElem_cons_zero, List.getElem_cons_succ, List.setIfInBounds_toArray, List.set_cons_zero, List.set_cons_succ]
    refine wpAnyH_take (i := 1) (v := ?v11) rfl (by kernel_rfl) (by kernel_rfl) (by kernel_rfl) (fun _ _ _ h => h) (Or.inl ⟨by rfl, ?hy11⟩) (by assumption) ?rest11
    case hy11 => (intro w0 hSw; (try dsimp only at hSw); go_simp; try with_reducible rfl)
    try simp only [Act.put, List.getElem_toArray, List.getElem_cons_zero, List.getElem_cons_succ, List.setIfInBounds_toArray, List.set_cons_zero, List.set_cons_succ]
    refine wpAnyH_take (i := 2) (v := ?v12) rfl (by kernel_rfl) (by kernel_rfl) (by kernel_rfl) (fun _ _ _ h => h) (Or.inl ⟨by rfl, ?hy12⟩) (by assumption) ?rest12
    case hy12 => (intro w0 hSw; (try dsimp only at hSw); go_simp; try with_reducible rfl)
    try simp only [Act.put, List.getElem_toArray, List.getElem_cons_zero, List.getElem_cons_succ, List.setIfInBounds_toArray, List.set_cons_zero, List.set_cons_succ]
    refine wpAnyH_take (i := 3) (v := ?v13) rfl (by kernel_rfl) (by kernel_rfl) (by kernel_rfl) (fun _ _ _ h => h) (Or.inl ⟨by rfl, ?hy13⟩) (by assumption) ?rest13
    case hy13 => (intro w0 hSw; (try dsimp only at hSw); go_simp; try with_reducible rfl)
    try simp only [Act.put, List.getElem_toArray, List.getElem_cons_zero, List.getElem_cons_succ, List.setIfInBounds_toArray, List.set_cons_zero, List.set_cons_succ]
    refine wpAnyH_take (i := 4) (v := ?v14) rfl (by kernel_rfl) (by kernel_rfl) (by kernel_rfl) (fun _ _ _ h => h) (Or.inl ⟨by rfl, ?hy14⟩) (by assumption) ?rest14
    case hy14 => (intro w0 hSw; (try dsimp only at hSw); go_simp; try with_reducible rfl)
    try simp only [Act.put, List.getElem_toArray, List.getElem_cons_zero, List.getElem_cons_succ, List.setIfInBounds_toArray, List.set_cons_zero, List.set_cons_succ]
    refine wpAnyH_take (i := 5) (v := ?v15) rfl (by kernel_rfl) (by kernel_rfl) (by kernel_rfl) (fun _ _ _ h => h) (Or.inl ⟨by rfl, ?hy15⟩) (by assumption) ?rest15
    case hy15 => (intro w0 hSw; (try dsimp only at hSw); go_simp; try with_reducible rfl)
    try simp only [Act.put, List.getElem_toArray, List.getElem_cons_zero, List.getElem_cons_succ, List.setIfInBounds_toArray, List.set_cons_zero, List.set_cons_succ]
    refine wpAnyH_take (i := 6) (v := ?v16) rfl (by kernel_rfl) (by kernel_rfl) (by kernel_rfl) (fun _ _ _ h => h) (Or.inl ⟨by rfl, ?hy16⟩) (by assumption) ?rest16
    case hy16 => (intro w0 hSw; (try dsimp only at hSw); go_simp; try with_reducible rfl)
    try simp only [Act.put, List.getElem_toArray, List.getElem_cons_zero, List.getElem_cons_succ, List.setIfInBounds_toArray, List.set_cons_zero, List.set_cons_succ]
    refine wpAnyH_take (i := 7) (v := ?v17) rfl (by kernel_rfl) (by kernel_rfl) (by kernel_rfl) (fun _ _ _ h => h) (Or.inl ⟨by rfl, ?hy17⟩) (by assumption) ?rest17
    case hy17 => (intro w0 hSw; (try dsimp only at hSw); go_simp; try with_reducible rfl)
    try simp only [Act.put, List.getElem_toArray, List.getElem_cons_zero, List.getElem_cons_succ, List.setIfInBounds_toArray, List.set_cons_zero, List.set_cons_succ]
    refine wpAnyH_take (i := 8) (v := ?v18) rfl (by kernel_rfl) (by kernel_rfl) (by kernel_rfl) (fun _ _ _ h => h) (Or.inl ⟨by rfl, ?hy18⟩) (by assumption) ?rest18
    case hy18 => (intro w0 hSw; (try dsimp only at hSw); go_simp; try with_reducible rfl)
    try simp only [Act.put, List.getElem_toArray, List.getElem_cons_zero, List.getElem_cons_succ, List.setIfInBounds_toArray, List.set_cons_zero, List.set_cons_succ]
    refine wpAnyH_ready (rs := [9]) (by kernel_rfl) (by simp) ?_
    refine AllReadyH.cons rfl (fun K hK => ?_) AllReadyH.nil
    go_simp
    go_at_call 24
    refine HA.out.mono ?_
    rintro e w2 ⟨rfl, p2⟩
    have hat := HP.out.kept p2
    have hh := And.intro hat.cell0 hat.cell1
    have P2 := Lib.hid p2
    clear p2 hat
    refine hK.out _ _ ?_ (fun hHeld => ?_)
    · exact hh
    clear hK K
    try simp only [Act.put, List.getElem_toArray, List.getElem_cons_zero, List.getElem_cons_succ, List.setIfInBounds_toArray, List.set_cons_zero, List.set_cons_succ]
    refine wpAnyH_done (by kernel_rfl) ?_ _
    change wpList _ _ _ _ _ _
    clear hHeld hh
    go_wp2_with fail
    go_ret
    exact ⟨rfl, PostL.after (below_dr HB.out) (fun k hk => HP0.out.lt k hk) (HP.out.same P2.out HOK.out)⟩
end
end Go.Proofs.Ytbnnbaoimidfnaa.lg
