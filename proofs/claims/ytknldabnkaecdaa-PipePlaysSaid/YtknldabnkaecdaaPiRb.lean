/- What the reference's New, Put, Head and Take answer, and what they leave. -/
import Derived.Test.YtknldabnkaecdaaPiRa
import Derived.Test.YtknldabnkaecdaaPiU
import Derived.Test.YtknldabnkaecdaaPiG
import Derived.Test.YtknldabnkaecdaaDkR
namespace Go.Proofs.Ytknldabnkaecdaa.pip
set_option linter.unusedSimpArgs false
set_option linter.unusedVariables false
open Go.RowKit
attribute [local go_sem ↓] Go.wp_at_zero Go.wp_at_succ
/-- What a slice reads does not lie in the reference's own block. -/
theorem Sr.ref {w : World} {v : Value} {rs : List Rc} (h : Sr w v rs) {r : Nat} {u : Value} {room : Int} (hr : w.heap[r]? = some (.cells #[u, .int .i64 room] 48 (0, 0))) :
    ∀ ad m k, v = .slice (some ad) m k → 0 < rs.length → ad.block ≠ r := by
  intro ad m k e hl hN
  obtain ⟨q, hq⟩ := rec_at (rs := rs) (k := 0) hl
  obtain ⟨g, o, c', e1, e2, p1, p2, p3⟩ := h.at hq
  rw [e] at e1
  injection e1 with e1 _ _
  obtain rfl := Option.some.inj e1
  obtain rfl : g = r := hN
  rw [cell_of_row w g _ _ _ _ hr] at p3
  have h1 := (Array.getElem?_eq_some_iff.1 p3).1
  have h2 : (#[u, Value.int .i64 room] : Array Value).size = 2 := rfl
  omega
set_option maxRecDepth 1000000 in
theorem rnew_no (q : Int) (w : World) (h : q < 1 ∨ 8 < q) : Calls Try.prog 17 #[.int .i64 q] w fun e w' => e = .returned (.tuple #[.pointer none, .int .i64 2]) ∧ w' = w := by
  by_cases h1 : q < 1
  · clear h
    go_enter Try.func17, Try.ntmps17
    go_wp2_with fail
    go_ret2
    exact ⟨rfl, rfl⟩
  · have h8 : 8 < q := by omega
    clear h
    go_enter Try.func17, Try.ntmps17
    go_wp2_with fail
    go_ret2
    exact ⟨rfl, rfl⟩
theorem newRef_is (w : World) (q : Int) : IsRef (w.alloc (.cells #[.slice none 0 0, .int .i64 q] 48)) w.heap.size q [] :=
  ⟨_, [], rfl, Go.heap_alloc_new w _, Mr.nil _, by simp⟩
set_option maxRecDepth 1000000 in
theorem rnew_yes (q : Int) (w : World) (h1 : 1 ≤ q) (h8 : q ≤ 8) : Calls Try.prog 17 #[.int .i64 q] w fun e w' =>
    e = .returned (.tuple #[.pointer (some ⟨w.heap.size, 0, none⟩), .int .i64 0]) ∧ IsRef w' w.heap.size q [] ∧ Below w.heap.size w w' := by
  have HP := Lib.hid (newRef_is w q)
  have HB := Lib.hid (below_made w (.cells #[.slice none 0 0, .int .i64 q] 48))
  have g1 : ¬ (q < 1) := by omega
  have g2 : ¬ (8 < q) := by omega
  clear h1 h8
  go_enter Try.func17, Try.ntmps17
  go_wp2_with fail
  go_ret2
  exact ⟨rfl, HP.out, HB.out⟩
set_option maxHeartbeats 1600000 in
set_option maxRecDepth 1000000 in
theorem rput_bad {w : World} (r : Nat) {v : Value} {m : Ms} (hv : MV w v m) (hl : m.2.2.length * 24 ≤ 140737488355328) (hm : mayB m = false) :
    Calls Try.prog 18 #[.pointer (some ⟨r, 0, none⟩), v] w fun e w' => e = .returned (.int .i64 2) ∧ Below w.heap.size w w' := by
  obtain ⟨a, k, rfl, hs⟩ := hv.parts
  obtain ⟨x, y, rs⟩ := m
  dsimp only at hs hl ⊢ hv
  obtain ⟨n, hn⟩ : ∃ q, rs.length = q := ⟨_, rfl⟩
  rw [hn] at hs ⊢
  have hb0 := below_made w (.cells #[.int .i64 x, .int .i64 y, .slice a n k] 29)
  have hx0 := Bx.new w x y (.slice a n k)
  obtain ⟨W0, hW0⟩ : ∃ W, w.alloc (.cells #[.int .i64 x, .int .i64 y, .slice a n k] 29) = W := ⟨_, rfl⟩
  rw [hW0] at hb0 hx0
  have HM := Lib.hid (rmay_any W0 (v := .agg #[.int .i64 x, .int .i64 y, .slice a n k]) (m := (x, y, rs)) ⟨_, rfl, hs.below hb0⟩ (by dsimp only; omega))
  rw [hm] at HM
  have HB0 := Lib.hid hb0
  obtain ⟨⟨c0, c1, c2⟩, f0⟩ := hx0.facts
  clear hv hs hl hm hb0 hx0 hn
  go_enter Try.func18, Try.ntmps18
  go_wp2_with (go_at_call 23; ((with_reducible refine HM.out.mono ?_); rintro e w' ⟨rfl, h1⟩; have HB1 := Lib.hid h1; clear h1))
  go_ret
  exact ⟨rfl, below_on' HB0.out HB1.out⟩
set_option maxHeartbeats 6400000 in
set_option maxRecDepth 1000000 in
theorem rput_any {w : World} {r : Nat} {room : Int} {ms : List Ms} (h : IsRef w r room ms) {v : Value} {m : Ms} (hv : MV w v m) (hl : m.2.2.length * 24 ≤ 140737488355328) (hm : mayB m = true) (h8 : ms.length ≤ 8) :
    Calls Try.prog 18 #[.pointer (some ⟨r, 0, none⟩), v] w fun e w' =>
      if room ≤ (ms.length : Int) then e = .returned (.int .i64 7) ∧ Below w.heap.size w w' else e = .returned (.int .i64 0) ∧ IsRef w' r room (ms ++ [m]) ∧ Only (· = r) w w' := by
  obtain ⟨a, c, rfl, hs⟩ := hv.parts
  obtain ⟨x, y, rs⟩ := m
  dsimp only at hs hl ⊢ hv
  obtain ⟨u, rows, hms, hr, hrow, hsr⟩ := id h
  obtain ⟨al, cl, rfl⟩ := hrow.len
  have hlen : rows.length = ms.length := by rw [← hms, List.length_map]
  obtain ⟨k, hk⟩ : ∃ q, rs.length = q := ⟨_, rfl⟩
  rw [hk] at hs ⊢
  obtain ⟨nl, hnl⟩ : ∃ q, rows.length = q := ⟨_, rfl⟩
  have hml : ms.length = nl := by rw [← hlen, hnl]
  rw [hnl] at hr hrow
  have hb0 := below_made w (.cells #[.int .i64 x, .int .i64 y, .slice a k c] 29)
  have hx0 := Bx.new w x y (.slice a k c)
  obtain ⟨N, hN⟩ : ∃ q, w.heap.size = q := ⟨_, rfl⟩
  rw [hN] at hx0
  obtain ⟨W0, hW0⟩ : ∃ W, w.alloc (.cells #[.int .i64 x, .int .i64 y, .slice a k c] 29) = W := ⟨_, rfl⟩
  rw [hW0] at hb0 hx0
  have HM := Lib.hid (rmay_any W0 (v := .agg #[.int .i64 x, .int .i64 y, .slice a k c]) (m := (x, y, rs)) ⟨_, rfl, hs.below hb0⟩ (by dsimp only; omega))
  rw [hm] at HM
  have HB0 := Lib.hid hb0
  have HX0 := Lib.hid hx0
  have HR := Lib.hid hr
  have HROW := Lib.hid hrow
  have HSR := Lib.hid hsr
  have HMS := Lib.hid hms
  have HK := Lib.hid hk
  have HNL := Lib.hid hnl
  have HH := Lib.hid h
  have HS := Lib.hid hs
  have h8n : (nl : Int) ≤ 8 := by omega
  have H8 : Hid (rows.length ≤ 8) := Lib.hid (by omega)
  rw [hml]
  obtain ⟨⟨c0, c1, c2⟩, f0⟩ := hx0.facts
  clear hv hs hl hm hb0 hx0 hr hrow hsr hms hlen hk hnl hml h h8
  by_cases hfull : room ≤ (nl : Int)
  · simp only [if_pos hfull]
    go_enter Try.func18, Try.ntmps18
    go_upto_region 3 with (go_at_call 23; ((with_reducible refine HM.out.mono ?_); rintro e W1 ⟨rfl, h1⟩; have HB1 := Lib.hid (below_on' HB0.out h1); clear h1))
    have hr1 := (HB1.out.block r (lt_of_get HR.out)).trans HR.out
    have z0 : W1.cell? ⟨r, 0, none⟩ = some (.slice al nl cl) := by rw [cell_of_row W1 r 0 _ _ _ hr1]; rfl
    have z1 : W1.cell? ⟨r, 1, none⟩ = some (.int .i64 room) := by rw [cell_of_row W1 r 1 _ _ _ hr1]; rfl
    have HR1 := Lib.hid hr1
    clear hr1
    go_quiet (fail)
    go_wp2_with fail
    go_ret
    exact ⟨rfl, by first | exact below_on' HB1.out (below_drewN _ _) | (rw [← hN]; exact below_on' HB1.out (below_drewN _ _))⟩
  · simp only [if_neg hfull]
    go_enter Try.func18, Try.ntmps18
    go_upto_region 3 with (go_at_call 23; ((with_reducible refine HM.out.mono ?_); rintro e W1 ⟨rfl, h1⟩; have HB1 := Lib.hid (below_on' HB0.out h1); have HX1 := Lib.hid (HX0.out.below h1); clear h1))
    have hr1 := (HB1.out.block r (lt_of_get HR.out)).trans HR.out
    have z0 : W1.cell? ⟨r, 0, none⟩ = some (.slice al nl cl) := by rw [cell_of_row W1 r 0 _ _ _ hr1]; rfl
    have z1 : W1.cell? ⟨r, 1, none⟩ = some (.int .i64 room) := by rw [cell_of_row W1 r 1 _ _ _ hr1]; rfl
    have HR1 := Lib.hid hr1
    clear hr1
    go_quiet (fail)
    have HB2 : Hid (Below w.heap.size w (W1.drewN nq)) := Lib.hid (below_on' HB1.out (below_drewN _ _))
    have HX2 : Hid (Bx (W1.drewN nq) N x y (.slice a k c)) := Lib.hid (HX1.out.below (below_drewN _ _))
    have HR2 : Hid ((W1.drewN nq).heap[r]? = some (.cells #[.slice al nl cl, .int .i64 room] 48 (0, 0))) := Lib.hid HR1.out
    generalize W1.drewN nq = W2 at HB2 HX2 HR2 ⊢
    clear z0 z1
    go_wp2_with fail
    have HKEEP : Hid (∀ W, Below W2.drew.heap.size W2.drew W → W.cell? ⟨r, 0, none⟩ = some (.slice al nl cl) ∧ W.cell? ⟨N, 0, none⟩ = some (.int .i64 x) ∧ W.cell? ⟨N, 1, none⟩ = some (.int .i64 y) ∧ W.cell? ⟨N, 2, none⟩ = some (.slice a k c)) := Lib.hid (fun W hW => by
      have hb : Below W2.heap.size W2 W := ⟨hW.os, hW.tape, hW.output, hW.size, hW.block⟩
      have hr := (hb.block r (lt_of_get HR2.out)).trans HR2.out
      have hf := (HX2.out.below hb).facts.1
      exact ⟨by rw [cell_of_row W r 0 _ _ _ hr]; rfl, hf.1, hf.2.1, hf.2.2⟩)
    have HZ : Hid (∀ W, Below W2.drew.heap.size W2.drew W → W.cell? ⟨r, 0, none⟩ = some (.slice al nl cl) ∧ W.frozen? ⟨r, 0, none⟩ = false) := Lib.hid (fun W hW => by
      have hb : Below W2.heap.size W2 W := ⟨hW.os, hW.tape, hW.output, hW.size, hW.block⟩
      have hr := (hb.block r (lt_of_get HR2.out)).trans HR2.out
      exact ⟨by rw [cell_of_row W r 0 _ _ _ hr]; rfl, frozen_of_row W r 0 _ _ hr⟩)
    have hrowW : Mr W2.drew (.slice al nl cl) rows := (HROW.out.keep (.of_below HB2.out)).keep (.of_below ⟨rfl, rfl, rfl, Nat.le_refl _, fun _ _ => rfl⟩)
    obtain ⟨vA, wA, aA, cA, w4A, rA1, rA2, bA, pA⟩ := ordA hrowW H8.out ⟨x, y, a, rs, c⟩
    obtain ⟨vB, wB, aB, cB, w4B, rB1, rB2, bB, pB⟩ := ordB hrowW H8.out ⟨x, y, a, rs, c⟩
    obtain ⟨vC, wC, aC, cC, w4C, rC1, rC2, bC, pC⟩ := ordC hrowW H8.out ⟨x, y, a, rs, c⟩
    dsimp only at rA1 rA2 rB1 rB2 rC1 rC2
    rw [HK.out] at rA2 rB1 rC1
    have HFIN : Hid (∀ W a4 c4, Put3 W2.drew W rows ⟨x, y, a, rs, c⟩ a4 c4 → IsRef (W.setCell ⟨r, 0, none⟩ (.slice a4 (rows.length + 1) c4)) r room (ms ++ [(x, y, rs)]) ∧ Only (· = r) w (W.setCell ⟨r, 0, none⟩ (.slice a4 (rows.length + 1) c4))) := Lib.hid (fun W a4 c4 hp => by
      have hb : Below W2.heap.size W2 W := ⟨hp.1.os, hp.1.tape, hp.1.output, hp.1.size, hp.1.block⟩
      have hr := (hb.block r (lt_of_get HR2.out)).trans HR2.out
      have hbw : Below w.heap.size w W := below_on' HB2.out hb
      have hon : Only (· = r) W (W.setCell ⟨r, 0, none⟩ (.slice a4 (rows.length + 1) c4)) := Only.setCell W r 0 _
      have hmr := (Mr.own hp.2).2.keep (.of_only hon (fun g cur fr hg he => by rw [hg, hr] at he; injection he with he; injection he with _ he; exact absurd he (by decide)))
      refine ⟨⟨_, rows ++ [⟨x, y, a, rs, c⟩], by rw [List.map_append, HMS.out]; rfl, by rw [heap_setCell_same W r 0 _ _ _ hr]; rfl, hmr, fun q hq => ?_⟩, (Only.of_below hbw).then hon⟩
      have hsq : Sr W (.slice q.a q.rs.length q.cap) q.rs := by
        rcases List.mem_append.1 hq with hq | hq
        · exact (HSR.out q hq).below hbw
        · obtain rfl := List.mem_singleton.1 hq
          show Sr W (.slice a rs.length c) rs
          rw [HK.out]; exact HS.out.below hbw
      exact hsq.msg hon (hsq.ref hr))
    have hrl := HNL.out
    rw [hrl] at HFIN rA2 rB2 rC2
    have HPA := Lib.hid pA
    have HPB := Lib.hid pB
    have HPC := Lib.hid pC
    have HR3A := Lib.hid rA1
    have HR4A := Lib.hid rA2
    have HB2A := Lib.hid bA
    have HR3B := Lib.hid rB1
    have HR4B := Lib.hid rB2
    have HB3B := Lib.hid bB
    have HR3C := Lib.hid rC1
    have HR4C := Lib.hid rC2
    have HB3C := Lib.hid bC
    clear hrowW rA1 rA2 rB1 rB2 rC1 rC2 bA bB bC pA pB pC hrl
    refine dsk.wp_region_peel2 (by kernel_rfl) (by simp only [List.dropLast_cons_cons, List.dropLast_singleton]; exact rfl) rfl (by kernel_rfl) ?_
    refine wpAny_of_held (S := fun w' => w'.cell? ⟨r, 0, none⟩ = some (.slice al nl cl) ∧ w'.cell? ⟨N, 0, none⟩ = some (.int .i64 x) ∧ w'.cell? ⟨N, 1, none⟩ = some (.int .i64 y) ∧ w'.cell? ⟨N, 2, none⟩ = some (.slice a k c)) _ _ _ _ ?_
    have hHeld := (HKEEP.out _ (Below.refl _ _))
    refine wpAnyH_take (i := 0) (v := ?v1) rfl (by kernel_rfl) (by kernel_rfl) (by kernel_rfl) (fun _ _ _ h => h) (Or.inl ⟨by rfl, ?hy1⟩) (by assumption) ?rest1
    case hy1 => (intro w0 hSw; (try dsimp only at hSw); go_simp; try with_reducible rfl)
    try simp only [Act.put, List.getElem_toArray, List.getElem_cons_zero, List.getElem_cons_succ, List.setIfInBounds_toArray, List.set_cons_zero, List.set_cons_succ]
    refine wpAnyH_take (i := 2) (v := ?v2) rfl (by kernel_rfl) (by kernel_rfl) (by kernel_rfl) (fun _ _ _ h => h) (Or.inl ⟨by rfl, ?hy2⟩) (by assumption) ?rest2
    case hy2 => (intro w0 hSw; (try dsimp only at hSw); go_simp; try with_reducible rfl)
    try simp only [Act.put, List.getElem_toArray, List.getElem_cons_zero, List.getElem_cons_succ, List.setIfInBounds_toArray, List.set_cons_zero, List.set_cons_succ]
    refine wpAnyH_take (i := 3) (v := ?v3) rfl (by kernel_rfl) (by kernel_rfl) (by kernel_rfl) (fun _ _ _ h => h) (Or.inl ⟨by rfl, ?hy3⟩) (by assumption) ?rest3
    case hy3 => (intro w0 hSw; (try dsimp only at hSw); go_simp; try with_reducible rfl)
    try simp only [Act.put, List.getElem_toArray, List.getElem_cons_zero, List.getElem_cons_succ, List.setIfInBounds_toArray, List.set_cons_zero, List.set_cons_succ]
    refine wpAnyH_take (i := 4) (v := ?v4) rfl (by kernel_rfl) (by kernel_rfl) (by kernel_rfl) (fun _ _ _ h => h) (Or.inl ⟨by rfl, ?hy4⟩) (by assumption) ?rest4
    case hy4 => (intro w0 hSw; (try dsimp only at hSw); go_simp; try with_reducible rfl)
    try simp only [Act.put, List.getElem_toArray, List.getElem_cons_zero, List.getElem_cons_succ, List.setIfInBounds_toArray, List.set_cons_zero, List.set_cons_succ]
    refine wpAnyH_take (i := 5) (v := ?v5) rfl (by kernel_rfl) (by kernel_rfl) (by kernel_rfl) (fun _ _ _ h => h) (Or.inl ⟨by rfl, ?hy5⟩) (by assumption) ?rest5
    case hy5 => (intro w0 hSw; (try dsimp only at hSw); go_simp; try with_reducible rfl)
    try simp only [Act.put, List.getElem_toArray, List.getElem_cons_zero, List.getElem_cons_succ, List.setIfInBounds_toArray, List.set_cons_zero, List.set_cons_succ]
    refine wpAnyH_take (i := 7) (v := ?v6) rfl (by kernel_rfl) (by kernel_rfl) (by kernel_rfl) (fun _ _ _ h => h) (Or.inl ⟨by rfl, ?hy6⟩) (by assumption) ?rest6
    case hy6 => (intro w0 hSw; (try dsimp only at hSw); go_simp; try with_reducible rfl)
    try simp only [Act.put, List.getElem_toArray, List.getElem_cons_zero, List.getElem_cons_succ, List.setIfInBounds_toArray, List.set_cons_zero, List.set_cons_succ]
    refine wpAnyH_ready (rs := [1, 8]) (by kernel_rfl) (by simp) ?_
    refine AllReadyH.cons rfl (fun KQ hKQ => ?_) (AllReadyH.cons rfl (fun KQ hKQ => ?_) AllReadyH.nil)
    · go_simp
      refine hKQ.out _ _ ?_ (fun hHeld => ?_)
      · exact HKEEP.out _ (below_made _ _)
      clear hKQ KQ
      try simp only [Act.put, List.getElem_toArray, List.getElem_cons_zero, List.getElem_cons_succ, List.setIfInBounds_toArray, List.set_cons_zero, List.set_cons_succ]
      refine wpAnyH_ready (rs := [6, 8]) (by kernel_rfl) (by simp) ?_
      refine AllReadyH.cons rfl (fun KQ hKQ => ?_) (AllReadyH.cons rfl (fun KQ hKQ => ?_) AllReadyH.nil)
      · refine step_app rfl (.tmp 19) (.tmp 23) 46 rfl rfl (by rfl) HR3A.out ?_
        refine hKQ.out _ _ ?_ (fun hHeld => ?_)
        · exact HKEEP.out _ (HB2A.out)
        clear hKQ KQ
        try simp only [Act.put, List.getElem_toArray, List.getElem_cons_zero, List.getElem_cons_succ, List.setIfInBounds_toArray, List.set_cons_zero, List.set_cons_succ]
        refine wpAnyH_ready (rs := [8]) (by kernel_rfl) (by simp) ?_
        refine AllReadyH.cons rfl (fun KQ hKQ => ?_) AllReadyH.nil
        go_simp
        refine hKQ.out _ _ ?_ (fun hHeld => ?_)
        · exact HKEEP.out _ (below_on' HB2A.out (below_made _ _))
        clear hKQ KQ
        try simp only [Act.put, List.getElem_toArray, List.getElem_cons_zero, List.getElem_cons_succ, List.setIfInBounds_toArray, List.set_cons_zero, List.set_cons_succ]
        refine wpAnyH_ready (rs := [9]) (by kernel_rfl) (by simp) ?_
        refine AllReadyH.cons rfl (fun KQ hKQ => ?_) AllReadyH.nil
        refine step_app rfl (.tmp 24) (.tmp 26) 46 rfl rfl (by rfl) HR4A.out ?_
        refine hKQ.out _ _ ?_ (fun hHeld => ?_)
        · exact HKEEP.out _ (HPA.out.1)
        clear hKQ KQ
        try simp only [Act.put, List.getElem_toArray, List.getElem_cons_zero, List.getElem_cons_succ, List.setIfInBounds_toArray, List.set_cons_zero, List.set_cons_succ]
        refine wpAnyH_take (i := 10) (v := ?v7) rfl (by kernel_rfl) (by kernel_rfl) (by kernel_rfl) (fun _ _ _ h => h) (Or.inl ⟨by rfl, ?hy7⟩) (by assumption) ?rest7
        case hy7 => (intro w0 hSw; (try dsimp only at hSw); go_simp; try with_reducible rfl)
        try simp only [Act.put, List.getElem_toArray, List.getElem_cons_zero, List.getElem_cons_succ, List.setIfInBounds_toArray, List.set_cons_zero, List.set_cons_succ]
        refine wpAnyH_take (i := 11) (v := ?v8) rfl (by kernel_rfl) (by kernel_rfl) (by kernel_rfl) (fun _ _ _ h => h) (Or.inl ⟨by rfl, ?hy8⟩) (by assumption) ?rest8
        case hy8 => (intro w0 hSw; (try dsimp only at hSw); go_simp; try with_reducible rfl)
        try simp only [Act.put, List.getElem_toArray, List.getElem_cons_zero, List.getElem_cons_succ, List.setIfInBounds_toArray, List.set_cons_zero, List.set_cons_succ]
        refine wpAnyH_done (by kernel_rfl) ?_ _
        change wpList _ _ _ _ _ _
        have hz := (HZ.out _ HPA.out.1)
        obtain ⟨zc, zf⟩ := hz
        clear hHeld
        go_wp2_with fail
        go_ret
        exact ⟨rfl, HFIN.out _ _ _ HPA.out⟩
      · go_simp
        refine hKQ.out _ _ ?_ (fun hHeld => ?_)
        · exact HKEEP.out _ (below_on' (below_made _ _) (below_made _ _))
        clear hKQ KQ
        try simp only [Act.put, List.getElem_toArray, List.getElem_cons_zero, List.getElem_cons_succ, List.setIfInBounds_toArray, List.set_cons_zero, List.set_cons_succ]
        refine wpAnyH_ready (rs := [6]) (by kernel_rfl) (by simp) ?_
        refine AllReadyH.cons rfl (fun KQ hKQ => ?_) AllReadyH.nil
        refine step_app rfl (.tmp 19) (.tmp 23) 46 rfl rfl (by rfl) HR3B.out ?_
        refine hKQ.out _ _ ?_ (fun hHeld => ?_)
        · exact HKEEP.out _ (HB3B.out)
        clear hKQ KQ
        try simp only [Act.put, List.getElem_toArray, List.getElem_cons_zero, List.getElem_cons_succ, List.setIfInBounds_toArray, List.set_cons_zero, List.set_cons_succ]
        refine wpAnyH_ready (rs := [9]) (by kernel_rfl) (by simp) ?_
        refine AllReadyH.cons rfl (fun KQ hKQ => ?_) AllReadyH.nil
        refine step_app rfl (.tmp 24) (.tmp 26) 46 rfl rfl (by rfl) HR4B.out ?_
        refine hKQ.out _ _ ?_ (fun hHeld => ?_)
        · exact HKEEP.out _ (HPB.out.1)
        clear hKQ KQ
        try simp only [Act.put, List.getElem_toArray, List.getElem_cons_zero, List.getElem_cons_succ, List.setIfInBounds_toArray, List.set_cons_zero, List.set_cons_succ]
        refine wpAnyH_take (i := 10) (v := ?v9) rfl (by kernel_rfl) (by kernel_rfl) (by kernel_rfl) (fun _ _ _ h => h) (Or.inl ⟨by rfl, ?hy9⟩) (by assumption) ?rest9
        case hy9 => (intro w0 hSw; (try dsimp only at hSw); go_simp; try with_reducible rfl)
        try simp only [Act.put, List.getElem_toArray, List.getElem_cons_zero, List.getElem_cons_succ, List.setIfInBounds_toArray, List.set_cons_zero, List.set_cons_succ]
        refine wpAnyH_take (i := 11) (v := ?v10) rfl (by kernel_rfl) (by kernel_rfl) (by kernel_rfl) (fun _ _ _ h => h) (Or.inl ⟨by rfl, ?hy10⟩) (by assumption) ?rest10
        case hy10 => (intro w0 hSw; (try dsimp only at hSw); go_simp; try with_reducible rfl)
        try simp only [Act.put, List.getElem_toArray, List.getElem_cons_zero, List.getElem_cons_succ, List.setIfInBounds_toArray, List.set_cons_zero, List.set_cons_succ]
        refine wpAnyH_done (by kernel_rfl) ?_ _
        change wpList _ _ _ _ _ _
        have hz := (HZ.out _ HPB.out.1)
        obtain ⟨zc, zf⟩ := hz
        clear hHeld
        go_wp2_with fail
        go_ret
        exact ⟨rfl, HFIN.out _ _ _ HPB.out⟩
    · go_simp
      refine hKQ.out _ _ ?_ (fun hHeld => ?_)
      · exact HKEEP.out _ (below_made _ _)
      clear hKQ KQ
      try simp only [Act.put, List.getElem_toArray, List.getElem_cons_zero, List.getElem_cons_succ, List.setIfInBounds_toArray, List.set_cons_zero, List.set_cons_succ]
      refine wpAnyH_ready (rs := [1]) (by kernel_rfl) (by simp) ?_
      refine AllReadyH.cons rfl (fun KQ hKQ => ?_) AllReadyH.nil
      go_simp
      refine hKQ.out _ _ ?_ (fun hHeld => ?_)
      · exact HKEEP.out _ (below_on' (below_made _ _) (below_made _ _))
      clear hKQ KQ
      try simp only [Act.put, List.getElem_toArray, List.getElem_cons_zero, List.getElem_cons_succ, List.setIfInBounds_toArray, List.set_cons_zero, List.set_cons_succ]
      refine wpAnyH_ready (rs := [6]) (by kernel_rfl) (by simp) ?_
      refine AllReadyH.cons rfl (fun KQ hKQ => ?_) AllReadyH.nil
      refine step_app rfl (.tmp 19) (.tmp 23) 46 rfl rfl (by rfl) HR3C.out ?_
      refine hKQ.out _ _ ?_ (fun hHeld => ?_)
      · exact HKEEP.out _ (HB3C.out)
      clear hKQ KQ
      try simp only [Act.put, List.getElem_toArray, List.getElem_cons_zero, List.getElem_cons_succ, List.setIfInBounds_toArray, List.set_cons_zero, List.set_cons_succ]
      refine wpAnyH_ready (rs := [9]) (by kernel_rfl) (by simp) ?_
      refine AllReadyH.cons rfl (fun KQ hKQ => ?_) AllReadyH.nil
      refine step_app rfl (.tmp 24) (.tmp 26) 46 rfl rfl (by rfl) HR4C.out ?_
      refine hKQ.out _ _ ?_ (fun hHeld => ?_)
      · exact HKEEP.out _ (HPC.out.1)
      clear hKQ KQ
      try simp only [Act.put, List.getElem_toArray, List.getElem_cons_zero, List.getElem_cons_succ, List.setIfInBounds_toArray, List.set_cons_zero, List.set_cons_succ]
      refine wpAnyH_take (i := 10) (v := ?v11) rfl (by kernel_rfl) (by kernel_rfl) (by kernel_rfl) (fun _ _ _ h => h) (Or.inl ⟨by rfl, ?hy11⟩) (by assumption) ?rest11
      case hy11 => (intro w0 hSw; (try dsimp only at hSw); go_simp; try with_reducible rfl)
      try simp only [Act.put, List.getElem_toArray, List.getElem_cons_zero, List.getElem_cons_succ, List.setIfInBounds_toArray, List.set_cons_zero, List.set_cons_succ]
      refine wpAnyH_take (i := 11) (v := ?v12) rfl (by kernel_rfl) (by kernel_rfl) (by kernel_rfl) (fun _ _ _ h => h) (Or.inl ⟨by rfl, ?hy12⟩) (by assumption) ?rest12
      case hy12 => (intro w0 hSw; (try dsimp only at hSw); go_simp; try with_reducible rfl)
      try simp only [Act.put, List.getElem_toArray, List.getElem_cons_zero, List.getElem_cons_succ, List.setIfInBounds_toArray, List.set_cons_zero, List.set_cons_succ]
      refine wpAnyH_done (by kernel_rfl) ?_ _
      change wpList _ _ _ _ _ _
      have hz := (HZ.out _ HPC.out.1)
      obtain ⟨zc, zf⟩ := hz
      clear hHeld
      go_wp2_with fail
      go_ret
      exact ⟨rfl, HFIN.out _ _ _ HPC.out⟩
end Go.Proofs.Ytknldabnkaecdaa.pip
