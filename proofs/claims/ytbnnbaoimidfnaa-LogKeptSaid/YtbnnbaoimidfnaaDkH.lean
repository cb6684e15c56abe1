/- What change does, where there is power for it. -/
import Derived.Test.YtbnnbaoimidfnaaDkG
namespace Go.Proofs.Ytbnnbaoimidfnaa.dsk
set_option linter.unusedSimpArgs false
set_option linter.unusedVariables false
open Go.RowKit
attribute [local go_sem ↓] Go.wp_at_zero Go.wp_at_succ

/-- Behind a change's call: the files have it, the loose ones don't yet. -/
structure Mid (w w3 : World) (F : Nat → Prop) (x1 : D) (f : Files) (d : Nat) (v1 v2 lo : Value) (vs us : Nat → Value) (ps : List (Value × Value)) : Prop where
  row : w3.rowIs d 49 36 (cellsD x1.room x1.off x1.left vs us lo)
  rest : Rest w3 (Grow F w w3) x1 f vs us lo ps
  box : w3.heap[w.heap.size]? = some (.cells #[v1, v2] 69 (0, 0))
  only : Only F w w3
  lolt : ∀ g, lo.ownBlock = some g → g < w.heap.size
  own : F d
  ne : d < w.heap.size
section
variable {w w2 w3 w5 : World} {F : Nat → Prop} {x x1 : D} {f : Files} {d : Nat} {c : Chg} {v1 v2 lo lo' : Value} {vs us vs' R : Nat → Value} {ps : List (Value × Value)} {o : Obj}
theorem op_block (hr : w.rowIs d 49 36 R) (hD : OpDone (w.alloc o) w2 F d x1 f vs us lo ps) {k : Nat} {C : Array Value} {T : TypeId} {fr : Nat × Nat} (hk : w.heap[k]? = some (.cells C T fr)) (hT : T ≠ 49) : w2.heap[k]? = some (.cells C T fr) := by
  have hlt := (Array.getElem?_eq_some_iff.1 hk).1
  obtain ⟨c, hd, _⟩ := hr
  rw [hD.only.block k (by simp; omega) (kind_ne hk hd hT), heap_alloc_old w _ hlt]
  exact hk
theorem op_box (hr : w.rowIs d 49 36 R) (hD : OpDone (w.alloc o) w2 F d x1 f vs us lo ps) : w2.heap[w.heap.size]? = some o := by
  have := hr.lt
  rw [hD.only.block _ (by simp) (by omega)]
  exact heap_alloc_new w _
theorem mid_of (hr : w.rowIs d 49 36 R) (hR : Rest w F x x.now vs us lo ps) (hd : F d) (hD : OpDone (w.alloc (.cells #[v1, v2] 69)) w2 F d x1 x.now vs us lo ps)
    (hdid : Did w2.drew w3 d 3 36 49 (cellsD x1.room x1.off x1.left vs us lo) vs vs' f) : Mid w w3 F x1 f d v1 v2 lo vs' us ps := by
  have hfl : Fls w2.drew vs x.now := hD.rest.now.frame fun _ _ _ _ => rfl
  have hrow : w2.drew.rowIs d 49 36 (cellsD x1.room x1.off x1.left vs us lo) := hD.row
  have hsz : w2.heap.size = w.heap.size + 1 := by rw [hD.size]; simp
  have hsz3 : w2.heap.size ≤ w3.heap.size := hdid.size
  have hrest : Rest w2.drew F x1 x.now vs us lo ps := hD.rest.frame (fun _ _ => rfl) (Nat.le_refl _)
  have h3 := hrest.did hrow (by decide) (fun T' hT => by rcases hT with rfl | rfl | rfl <;> decide) hdid
  have hon : Only F w w2 := (Only.alloc F w _).trans hD.only fun k hk _ => by rw [hk]; exact hd
  have hon3' : Only F w2.drew w3 := hdid.only hd fun i hi g hg => hR.fv i hi g hg
  have hon3 : Only F w2 w3 := ⟨hon3'.os, hon3'.tape, hon3'.output, hon3'.size, hon3'.block⟩
  refine ⟨hdid.row.congr fun j hj => ?_, h3.mono (fun k hk => ?_) fun k hk => ?_, ?_, hon.then hon3, fun g hg => hR.lt g (hR.fl g hg), hd, hR.lt d hd⟩
  · by_cases h : 3 ≤ j ∧ j < 3 + 16
    · obtain ⟨i, rfl⟩ : ∃ i, j = 3 + i := ⟨j - 3, by omega⟩
      rw [with16_in (by omega), cellsD_now i (by omega)]
    · rw [with16_out (by omega)]
      unfold cellsD
      by_cases h0 : j = 0
      · simp [h0]
      · by_cases h1 : j = 1
        · simp [h1]
        · by_cases h2 : j = 2
          · simp [h2]
          · simp only [h0, h1, h2, if_false]
            rw [if_neg (show ¬ j < 19 by omega), if_neg (show ¬ j < 19 by omega)]
  · rcases hk with h | ⟨h1, h2⟩
    · exact .inl h
    · have h1' : w2.heap.size ≤ k := h1
      exact .inr ⟨by omega, h2⟩
  · rcases hk with h | h
    · have := hR.lt k h; omega
    · exact h.2
  · have := op_box hr hD
    rw [hdid.other hfl hrow (k := w.heap.size) this (by decide) (by decide)]
    exact this
theorem Mid.cells (m : Mid w w3 F x1 f d v1 v2 lo vs us ps) : w3.drew.cell? ⟨d, 35, none⟩ = some lo ∧ w3.drew.cell? ⟨w.heap.size, 0, none⟩ = some v1 ∧ w3.drew.cell? ⟨w.heap.size, 1, none⟩ = some v2 := by
  have h : w3.drew.heap[w.heap.size]? = some (.cells #[v1, v2] 69 (0, 0)) := m.box
  have hr : w3.drew.rowIs d 49 36 (cellsD x1.room x1.off x1.left vs us lo) := m.row
  exact ⟨by rw [hr.cell (by omega), cellsD_loose], by rw [cell_of_row _ _ _ _ _ _ h]; rfl, by rw [cell_of_row _ _ _ _ _ _ h]; rfl⟩
theorem Mid.alloc (m : Mid w w3 F x1 f d v1 v2 lo vs us ps) (o : Obj) : (w3.drew.alloc o).cell? ⟨d, 35, none⟩ = some lo ∧ (w3.drew.alloc o).cell? ⟨w.heap.size, 0, none⟩ = some v1 ∧ (w3.drew.alloc o).cell? ⟨w.heap.size, 1, none⟩ = some v2 := by
  obtain ⟨h1, h2, h3⟩ := m.cells
  exact ⟨by rw [World.cell?_alloc_some _ _ _ (by rw [h1]; rfl), h1], by rw [World.cell?_alloc_some _ _ _ (by rw [h2]; rfl), h2], by rw [World.cell?_alloc_some _ _ _ (by rw [h3]; rfl), h3]⟩
theorem Mid.row5 (m : Mid w w3 F x1 f d v1 v2 lo vs us ps) (hg : (w3.drew.alloc o).grownBy w5 lo.ownBlock) : w5.rowIs d 49 36 (cellsD x1.room x1.off x1.left vs us lo) := by
  have hr : (w3.drew.alloc o).rowIs d 49 36 (cellsD x1.room x1.off x1.left vs us lo) := World.rowIs.alloc m.row.drew o
  refine hr.of_block (hg.block d hr.lt fun e => ?_)
  obtain ⟨cur, hc⟩ := own_kind m.rest.loose e.symm
  obtain ⟨c, hd, _⟩ := m.row
  exact absurd rfl (kind_ne hc hd (by decide))
theorem Mid.grown (m : Mid w w3 F x1 f d v1 v2 lo vs us ps) (hg : (w3.drew.alloc o).grownBy w5 lo.ownBlock) : w5.cell? ⟨d, 35, none⟩ = some lo ∧ w5.cell? ⟨w.heap.size, 0, none⟩ = some v1 ∧ w5.cell? ⟨w.heap.size, 1, none⟩ = some v2 := by
  obtain ⟨h1, h2, h3⟩ := m.alloc o
  have hne : some w.heap.size ≠ lo.ownBlock := fun e => by have := m.lolt _ e.symm; omega
  exact ⟨by rw [(m.row5 hg).cell (by omega), cellsD_loose], hg.cell h2 hne, hg.cell h3 hne⟩
theorem Mid.frozen (m : Mid w w3 F x1 f d v1 v2 lo vs us ps) (hg : (w3.drew.alloc o).grownBy w5 lo.ownBlock) : w5.frozen? ⟨d, 35, none⟩ = false := (m.row5 hg).frozen 35
theorem change_close {g n cap : Nat} (m : Mid w w3 F x1 (doIt x.now c) d v1 v2 lo vs us ps) (hop : x.op = (0, x1)) (hok : x.Ok) (hc : IsChg w F c v1 v2) (hk : ok x.room x.now c)
    (hcw : ∀ b T v, F b → boxT T → Box w b T v → Box w3 b T v)
    (ho : w5.ownsRow 0 69 2 (.slice (some ⟨g, 0, none⟩) n cap) (x1.loose.length + 1) (pairs ps ++ [v1, v2])) (hg : (w3.drew.alloc o).grownBy w5 lo.ownBlock)
    (hat : lo.ownBlock = some g ∨ g = w3.heap.size + 1) (hlt : g < w5.heap.size) :
    Post F d { x1 with loose := x.loose ++ [c] } w (w5.setCell ⟨d, 35, none⟩ (.slice (some ⟨g, 0, none⟩) n cap)) := by
  have hl1 : x1.loose = x.loose := by have := D.op_loose x; rw [hop] at this; exact this
  have hs1 : x1.sure = x.sure := by have := D.op_sure x; rw [hop] at this; exact this
  have hr1 : x1.room = x.room := by have := D.op_room x; rw [hop] at this; exact this
  have hR4 : Rest (w3.drew.alloc o) (Grow F w w3) x1 (doIt x.now c) vs us lo ps := m.rest.frame (w' := w3.drew.alloc o) (fun k hk => heap_alloc_old w3.drew o (m.rest.lt k hk)) (by simp)
  have hc4 : IsChg (w3.drew.alloc o) (Grow F w w3) c v1 v2 := hc.frame (fun b T v hb hT hx => by
    have h3 := hcw b T v hb hT hx
    exact (heap_alloc_old w3.drew o (Array.getElem?_eq_some_iff.1 h3).1).trans h3) fun k h => .inl h
  have hR5 := hR4.push hc4 (H := w3.heap.size + 1) (by simp) ho hg fun g' hg' => by
    simp [Value.ownBlock] at hg'; subst hg'; exact ⟨hat, hlt⟩
  have hr5 := m.row5 hg
  have hsz : w3.heap.size + 1 ≤ w5.heap.size := by have := hg.size; simpa using this
  have hwz := m.only.size
  refine ⟨⟨vs, us, .slice (some ⟨g, 0, none⟩) n cap, ps ++ [(v1, v2)], ?_, ?_, ?_, .inl m.own⟩, ?_⟩
  · refine (hr5.set 35 _).congr fun j hj => ?_
    by_cases e : j = 35
    · subst e; rw [if_pos rfl, cellsD_loose]
    · rw [if_neg e]
      unfold cellsD
      by_cases h0 : j = 0
      · simp [h0]
      · by_cases h1 : j = 1
        · simp [h1]
        · by_cases h2 : j = 2
          · simp [h2]
          · simp only [h0, h1, h2, if_false]
            rw [if_pos (show j < 35 by omega), if_pos (show j < 35 by omega)]
  · have hnow : D.now { x1 with loose := x.loose ++ [c] } = doIt x.now c := by
      show run x1.sure (x.loose ++ [c]) = _
      rw [hs1, run_snoc]; rfl
    rw [hnow]
    have h6 := hR5.setCell (o := 35) hr5 (.slice (some ⟨g, 0, none⟩) n cap)
    rw [hl1] at h6
    refine h6.mono (fun k hk => ?_) fun k hk => ?_
    · rcases hk with (h | ⟨h1, h2⟩) | ⟨h1, h2⟩
      · exact .inl h
      · exact .inr ⟨h1, by simp; omega⟩
      · have h1' : w3.heap.size + 1 ≤ k := by simpa using h1
        exact .inr ⟨by omega, by simpa using h2⟩
    · rcases hk with h | ⟨h1, h2⟩
      · have := m.rest.lt k (.inl h); simp; omega
      · exact h2
  · have := D.chg_ok hok hk
    unfold D.chg at this
    rw [hop] at this
    exact this
  · refine (m.only.then ?_).trans (Only.setCell w5 d 35 _) fun k hk _ => by rw [hk]; exact m.own
    refine ⟨hg.os, hg.tape, hg.output, by omega, fun k hk hn => ?_⟩
    rw [hg.block k (by simp; omega) fun e => ?_, heap_alloc_old w3.drew o hk]
    · rfl
    · have := m.rest.fl k e.symm
      rcases this with h | h
      · exact hn h
      · have := m.lolt k e.symm; omega
end

set_option maxHeartbeats 6400000 in
set_option maxRecDepth 100000 in
theorem change_on {x x1 : D} (hop : x.op = (0, x1)) (w : World) (F : Nat → Prop) (d : Nat) (c : Chg) (v1 v2 : Value) (hx : IsDisk w F d x) (hc : IsChg w F c v1 v2) (hk : ok x.room x.now c) (hlen : x.loose.length ≤ 1099511627776) :
    Calls Try.prog 35 #[ptr d 0, .agg #[v1, v2]] w fun e w' => e = .returned (.int .i64 0) ∧ Post F d { x1 with loose := x.loose ++ [c] } w w' := by
  obtain ⟨vs, us, lo, ps, hr, hR, hok, hd⟩ := id hx
  obtain ⟨i0, hi, hz0, hz1, hz2⟩ := info_parts info70
  have HV := Lib.hid (chg_cells hc)
  obtain ⟨K, p, q, rfl, hK, hcall⟩ := whole_chg hc
  have h1 := hok.left1
  have h2 := hok.left2
  have hlen1 : x1.loose.length ≤ 1099511627776 := by have := D.op_loose x; rw [hop] at this; rw [show x1.loose = x.loose from this]; exact hlen
  have HC := Lib.hid (operate_at hop (w.alloc (.cells #[.func (.func K) #[] #[ptr p 0, ptr q 0], v2] 69)) F d x.now vs us lo ps (hr.alloc _) (hR.frame (fun k hk => heap_alloc_old w _ (hR.lt k hk)) (by simp)) h1 h2)
  have HB := Lib.hid (fun w2 (hD : OpDone (w.alloc (.cells #[.func (.func K) #[] #[ptr p 0, ptr q 0], v2] 69)) w2 F d x1 x.now vs us lo ps) => (show w2.cell? ⟨w.heap.size, 0, none⟩ = some (.func (.func K) #[] #[ptr p 0, ptr q 0]) by
    rw [cell_of_row _ _ _ _ _ _ (op_box hr hD)]; rfl))
  have HCALL := Lib.hid (fun w2 (hD : OpDone (w.alloc (.cells #[.func (.func K) #[] #[ptr p 0, ptr q 0], v2] 69)) w2 F d x1 x.now vs us lo ps) =>
    hcall w2.drew x.room d 3 36 49 (cellsD x1.room x1.off x1.left vs us lo) vs x.now (fun b T v _ hT hx => op_block hr hD hx (by rcases hT with rfl | rfl | rfl <;> decide)) hk hok.now hok.room2 hD.row (by decide) (by decide) (by decide) (by decide) (fun j hj => cellsD_now j hj) (hD.rest.now.frame fun _ _ _ _ => rfl))
  have HM0 := Lib.hid (fun w2 w3 vs' (hD : OpDone (w.alloc (.cells #[.func (.func K) #[] #[ptr p 0, ptr q 0], v2] 69)) w2 F d x1 x.now vs us lo ps) (hdid : Did w2.drew w3 d 3 36 49 (cellsD x1.room x1.off x1.left vs us lo) vs vs' (doIt x.now c)) => mid_of hr hR hd hD hdid)
  have HBX := Lib.hid (fun w2 w3 vs' (hD : OpDone (w.alloc (.cells #[.func (.func K) #[] #[ptr p 0, ptr q 0], v2] 69)) w2 F d x1 x.now vs us lo ps) (hdid : Did w2.drew w3 d 3 36 49 (cellsD x1.room x1.off x1.left vs us lo) vs vs' (doIt x.now c)) =>
    (show ∀ b T v, F b → boxT T → Box w b T v → Box w3 b T v from fun b T v _ hT hx => by
      have h2 := op_block hr hD hx (by rcases hT with rfl | rfl | rfl <;> decide)
      have hfl : Fls w2.drew vs x.now := hD.rest.now.frame fun _ _ _ _ => rfl
      exact (hdid.other hfl hD.row h2 (by rcases hT with rfl | rfl | rfl <;> decide) (by rcases hT with rfl | rfl | rfl <;> decide)).trans h2))
  have HX := Lib.hid (And.intro hop (And.intro hok (And.intro hc hk)))
  clear hr hcall hR hx hc hk hok hop hlen hd
  go_enter Try.func35, Try.ntmps35
  go_wp2_with fail
  refine HC.out.mono ?_
  rintro e w2 ⟨rfl, hdone⟩
  have hbx := HB.out w2 hdone
  have HD := Lib.hid hdone
  clear hdone
  go_wp2_with fail
  refine wp_region_peel2 (by kernel_rfl) (by simp only [List.dropLast_cons_cons, List.dropLast_singleton]; exact rfl) rfl (by kernel_rfl) ?_
  refine wpAny_of_held (S := fun w' => w'.cell? ⟨w.heap.size, 0, none⟩ = some (.func (.func K) #[] #[ptr p 0, ptr q 0])) _ _ _ _ ?_
  have hHeld : w2.drew.cell? ⟨w.heap.size, 0, none⟩ = some (.func (.func K) #[] #[ptr p 0, ptr q 0]) := hbx
  refine wpAnyH_take (i := 0) (v := ?v1) rfl (by kernel_rfl) (by kernel_rfl) (by kernel_rfl) (fun _ _ _ h => h) (Or.inl ⟨by rfl, ?hy1⟩) (by assumption) ?rest1
  case hy1 => (intro w0 hSw; (try dsimp only at hSw); go_simp; try with_reducible rfl)
  try simp only [Act.put, List.setIfInBounds_toArray, List.set_cons_zero, List.set_cons_succ]
  refine wpAnyH_take (i := 1) (v := ?v2) rfl (by kernel_rfl) (by kernel_rfl) (by kernel_rfl) (fun _ _ _ h => h) (Or.inl ⟨by rfl, ?hy2⟩) (by assumption) ?rest2
  case hy2 => (intro w0 hSw; (try dsimp only at hSw); go_simp; try with_reducible rfl)
  try simp only [Act.put, List.setIfInBounds_toArray, List.set_cons_zero, List.set_cons_succ]
  refine wpAnyH_take (i := 2) (v := ?v3) rfl (by kernel_rfl) (by kernel_rfl) (by kernel_rfl) (fun _ _ _ h => h) (Or.inl ⟨by rfl, ?hy3⟩) (by assumption) ?rest3
  case hy3 => (intro w0 hSw; (try dsimp only at hSw); go_simp; try with_reducible rfl)
  try simp only [Act.put, List.setIfInBounds_toArray, List.set_cons_zero, List.set_cons_succ]
  refine wpAnyH_take (i := 3) (v := ?v4) rfl (by kernel_rfl) (by kernel_rfl) (by kernel_rfl) (fun _ _ _ h => h) (Or.inl ⟨by rfl, ?hy4⟩) (by assumption) ?rest4
  case hy4 => (intro w0 hSw; (try dsimp only at hSw); go_simp; try with_reducible rfl)
  try simp only [Act.put, List.setIfInBounds_toArray, List.set_cons_zero, List.set_cons_succ]
  refine wpAnyH_take (i := 4) (v := ?v5) rfl (by kernel_rfl) (by kernel_rfl) (by kernel_rfl) (fun _ _ _ h => h) (Or.inl ⟨by rfl, ?hy5⟩) (by assumption) ?rest5
  case hy5 => (intro w0 hSw; (try dsimp only at hSw); go_simp; try with_reducible rfl)
  try simp only [Act.put, List.setIfInBounds_toArray, List.set_cons_zero, List.set_cons_succ]
  refine wpAnyH_done (by kernel_rfl) ?_ _
  change wpList _ _ _ _ _ _
  clear hHeld hbx HC HB
  rcases hK with rfl | rfl
  · go_wp2_with fail
    refine (HCALL.out w2 HD.out).mono ?_
    rintro e w3 ⟨rfl, vs', hdid⟩
    have HM := Lib.hid (HM0.out w2 w3 vs' HD.out hdid)
    have HY := Lib.hid (HBX.out w2 w3 vs' HD.out hdid)
    clear hdid HCALL HM0 HBX HD
    go_wp2_with fail
    refine wp_region_peel2 (by kernel_rfl) (by simp only [List.dropLast_cons_cons, List.dropLast_singleton]; exact rfl) rfl (by kernel_rfl) ?_
    refine wpAny_of_held (S := fun w' => w'.cell? ⟨d, 35, none⟩ = some lo ∧ w'.cell? ⟨w.heap.size, 0, none⟩ = some (.func (.func 36) #[] #[ptr p 0, ptr q 0]) ∧ w'.cell? ⟨w.heap.size, 1, none⟩ = some v2) _ _ _ _ ?_
    have hHeld : w3.drew.cell? ⟨d, 35, none⟩ = some lo ∧ w3.drew.cell? ⟨w.heap.size, 0, none⟩ = some (.func (.func 36) #[] #[ptr p 0, ptr q 0]) ∧ w3.drew.cell? ⟨w.heap.size, 1, none⟩ = some v2 := HM.out.cells
    refine wpAnyH_take (i := 0) (v := ?v6) rfl (by kernel_rfl) (by kernel_rfl) (by kernel_rfl) (fun _ _ _ h => h) (Or.inl ⟨by rfl, ?hy6⟩) (by assumption) ?rest6
    case hy6 => (intro w0 hSw; (try dsimp only at hSw); go_simp; try with_reducible rfl)
    try simp only [Act.put, List.setIfInBounds_toArray, List.set_cons_zero, List.set_cons_succ]
    refine wpAnyH_take (i := 1) (v := ?v7) rfl (by kernel_rfl) (by kernel_rfl) (by kernel_rfl) (fun _ _ _ h => h) (Or.inl ⟨by rfl, ?hy7⟩) (by assumption) ?rest7
    case hy7 => (intro w0 hSw; (try dsimp only at hSw); go_simp; try with_reducible rfl)
    try simp only [Act.put, List.setIfInBounds_toArray, List.set_cons_zero, List.set_cons_succ]
    refine wpAnyH_take (i := 2) (v := ?v8) rfl (by kernel_rfl) (by kernel_rfl) (by kernel_rfl) (fun _ _ _ h => h) (Or.inl ⟨by rfl, ?hy8⟩) (by assumption) ?rest8
    case hy8 => (intro w0 hSw; (try dsimp only at hSw); go_simp; try with_reducible rfl)
    try simp only [Act.put, List.setIfInBounds_toArray, List.set_cons_zero, List.set_cons_succ]
    refine wpAnyH_take (i := 3) (v := ?v9) rfl (by kernel_rfl) (by kernel_rfl) (by kernel_rfl) (fun _ _ _ h => h) (Or.inl ⟨by rfl, ?hy9⟩) (by assumption) ?rest9
    case hy9 => (intro w0 hSw; (try dsimp only at hSw); go_simp; try with_reducible rfl)
    try simp only [Act.put, List.setIfInBounds_toArray, List.set_cons_zero, List.set_cons_succ]
    refine wpAnyH_take (i := 4) (v := ?v10) rfl (by kernel_rfl) (by kernel_rfl) (by kernel_rfl) (fun _ _ _ h => h) (Or.inl ⟨by rfl, ?hy10⟩) (by assumption) ?rest10
    case hy10 => (intro w0 hSw; (try dsimp only at hSw); go_simp; try with_reducible rfl)
    try simp only [Act.put, List.setIfInBounds_toArray, List.set_cons_zero, List.set_cons_succ]
    refine wpAnyH_take (i := 5) (v := ?v11) rfl (by kernel_rfl) (by kernel_rfl) (by kernel_rfl) (fun _ _ _ h => h) (Or.inl ⟨by rfl, ?hy11⟩) (by assumption) ?rest11
    case hy11 => (intro w0 hSw; (try dsimp only at hSw); go_simp; try with_reducible rfl)
    try simp only [Act.put, List.setIfInBounds_toArray, List.set_cons_zero, List.set_cons_succ]
    refine wpAnyH_ready (rs := [6]) (by kernel_rfl) (by simp) ?_
    refine AllReadyH.cons rfl (fun K hK => ?_) AllReadyH.nil
    go_simp
    refine hK.out _ _ ?_ (fun hHeld => ?_)
    · exact HM.out.alloc _
    clear hK K
    try simp only [Act.put, List.setIfInBounds_toArray, List.set_cons_zero, List.set_cons_succ]
    refine wpAnyH_ready (rs := [7]) (by kernel_rfl) (by simp) ?_
    refine AllReadyH.cons rfl (fun K hK => ?_) AllReadyH.nil
    refine step_append_lies _ (by rfl) (.tmp 21) (.tmp 23) 47 (by rfl) 0 69 i0 (.agg #[.nilFunc, .nilFunc]) 2 16 Try.underlying47 hi hz0 hz1 hz2 rfl (by decide) lo x1.loose.length (pairs ps) (by rfl) (HM.out.rest.loose.drew.alloc _) ⟨_, 0, none⟩ 1 1 [.func (.func 36) #[] #[ptr p 0, ptr q 0], v2] (by rfl) (by rfl) (World.news_of_block (cs := #[.func (.func 36) #[] #[ptr p 0, ptr q 0], v2]) (t := 69) (fr := (0, 0)) (heap_alloc_new _ _)) HV.out (by omega) (by unfold maxLen; omega) (by omega) (Nat.zero_le _) _ (World.size_alloc _ _) ?_
    intro g cap w5 hown5 hg5 hat5 hlt5
    have hS5 := HM.out.grown hg5
    have hf5 := HM.out.frozen hg5
    refine hK.out _ _ ?_ (fun hHeld => ?_)
    · exact hS5
    clear hK K
    try simp only [Act.put, List.setIfInBounds_toArray, List.set_cons_zero, List.set_cons_succ]
    refine wpAnyH_take (i := 8) (v := ?v12) rfl (by kernel_rfl) (by kernel_rfl) (by kernel_rfl) (fun _ _ _ h => h) (Or.inl ⟨by rfl, ?hy12⟩) (by assumption) ?rest12
    case hy12 => (intro w0 hSw; (try dsimp only at hSw); go_simp; try with_reducible rfl)
    try simp only [Act.put, List.setIfInBounds_toArray, List.set_cons_zero, List.set_cons_succ]
    refine wpAnyH_take (i := 9) (v := ?v13) rfl (by kernel_rfl) (by kernel_rfl) (by kernel_rfl) (fun _ _ _ h => h) (Or.inl ⟨by rfl, ?hy13⟩) (by assumption) ?rest13
    case hy13 => (intro w0 hSw; (try dsimp only at hSw); go_simp; try with_reducible rfl)
    try simp only [Act.put, List.setIfInBounds_toArray, List.set_cons_zero, List.set_cons_succ]
    refine wpAnyH_done (by kernel_rfl) ?_ _
    change wpList _ _ _ _ _ _
    go_wp2
    go_ret
    obtain ⟨hop, hok, hc, hk⟩ := HX.out
    exact ⟨rfl, change_close HM.out hop hok hc hk HY.out hown5 hg5 hat5 hlt5⟩
  · go_wp2_with fail
    refine (HCALL.out w2 HD.out).mono ?_
    rintro e w3 ⟨rfl, vs', hdid⟩
    have HM := Lib.hid (HM0.out w2 w3 vs' HD.out hdid)
    have HY := Lib.hid (HBX.out w2 w3 vs' HD.out hdid)
    clear hdid HCALL HM0 HBX HD
    go_wp2_with fail
    refine wp_region_peel2 (by kernel_rfl) (by simp only [List.dropLast_cons_cons, List.dropLast_singleton]; exact rfl) rfl (by kernel_rfl) ?_
    refine wpAny_of_held (S := fun w' => w'.cell? ⟨d, 35, none⟩ = some lo ∧ w'.cell? ⟨w.heap.size, 0, none⟩ = some (.func (.func 37) #[] #[ptr p 0, ptr q 0]) ∧ w'.cell? ⟨w.heap.size, 1, none⟩ = some v2) _ _ _ _ ?_
    have hHeld : w3.drew.cell? ⟨d, 35, none⟩ = some lo ∧ w3.drew.cell? ⟨w.heap.size, 0, none⟩ = some (.func (.func 37) #[] #[ptr p 0, ptr q 0]) ∧ w3.drew.cell? ⟨w.heap.size, 1, none⟩ = some v2 := HM.out.cells
    refine wpAnyH_take (i := 0) (v := ?v14) rfl (by kernel_rfl) (by kernel_rfl) (by kernel_rfl) (fun _ _ _ h => h) (Or.inl ⟨by rfl, ?hy14⟩) (by assumption) ?rest14
    case hy14 => (intro w0 hSw; (try dsimp only at hSw); go_simp; try with_reducible rfl)
    try simp only [Act.put, List.setIfInBounds_toArray, List.set_cons_zero, List.set_cons_succ]
    refine wpAnyH_take (i := 1) (v := ?v15) rfl (by kernel_rfl) (by kernel_rfl) (by kernel_rfl) (fun _ _ _ h => h) (Or.inl ⟨by rfl, ?hy15⟩) (by assumption) ?rest15
    case hy15 => (intro w0 hSw; (try dsimp only at hSw); go_simp; try with_reducible rfl)
    try simp only [Act.put, List.setIfInBounds_toArray, List.set_cons_zero, List.set_cons_succ]
    refine wpAnyH_take (i := 2) (v := ?v16) rfl (by kernel_rfl) (by kernel_rfl) (by kernel_rfl) (fun _ _ _ h => h) (Or.inl ⟨by rfl, ?hy16⟩) (by assumption) ?rest16
    case hy16 => (intro w0 hSw; (try dsimp only at hSw); go_simp; try with_reducible rfl)
    try simp only [Act.put, List.setIfInBounds_toArray, List.set_cons_zero, List.set_cons_succ]
    refine wpAnyH_take (i := 3) (v := ?v17) rfl (by kernel_rfl) (by kernel_rfl) (by kernel_rfl) (fun _ _ _ h => h) (Or.inl ⟨by rfl, ?hy17⟩) (by assumption) ?rest17
    case hy17 => (intro w0 hSw; (try dsimp only at hSw); go_simp; try with_reducible rfl)
    try simp only [Act.put, List.setIfInBounds_toArray, List.set_cons_zero, List.set_cons_succ]
    refine wpAnyH_take (i := 4) (v := ?v18) rfl (by kernel_rfl) (by kernel_rfl) (by kernel_rfl) (fun _ _ _ h => h) (Or.inl ⟨by rfl, ?hy18⟩) (by assumption) ?rest18
    case hy18 => (intro w0 hSw; (try dsimp only at hSw); go_simp; try with_reducible rfl)
    try simp only [Act.put, List.setIfInBounds_toArray, List.set_cons_zero, List.set_cons_succ]
    refine wpAnyH_take (i := 5) (v := ?v19) rfl (by kernel_rfl) (by kernel_rfl) (by kernel_rfl) (fun _ _ _ h => h) (Or.inl ⟨by rfl, ?hy19⟩) (by assumption) ?rest19
    case hy19 => (intro w0 hSw; (try dsimp only at hSw); go_simp; try with_reducible rfl)
    try simp only [Act.put, List.setIfInBounds_toArray, List.set_cons_zero, List.set_cons_succ]
    refine wpAnyH_ready (rs := [6]) (by kernel_rfl) (by simp) ?_
    refine AllReadyH.cons rfl (fun K hK => ?_) AllReadyH.nil
    go_simp
    refine hK.out _ _ ?_ (fun hHeld => ?_)
    · exact HM.out.alloc _
    clear hK K
    try simp only [Act.put, List.setIfInBounds_toArray, List.set_cons_zero, List.set_cons_succ]
    refine wpAnyH_ready (rs := [7]) (by kernel_rfl) (by simp) ?_
    refine AllReadyH.cons rfl (fun K hK => ?_) AllReadyH.nil
    refine step_append_lies _ (by rfl) (.tmp 21) (.tmp 23) 47 (by rfl) 0 69 i0 (.agg #[.nilFunc, .nilFunc]) 2 16 Try.underlying47 hi hz0 hz1 hz2 rfl (by decide) lo x1.loose.length (pairs ps) (by rfl) (HM.out.rest.loose.drew.alloc _) ⟨_, 0, none⟩ 1 1 [.func (.func 37) #[] #[ptr p 0, ptr q 0], v2] (by rfl) (by rfl) (World.news_of_block (cs := #[.func (.func 37) #[] #[ptr p 0, ptr q 0], v2]) (t := 69) (fr := (0, 0)) (heap_alloc_new _ _)) HV.out (by omega) (by unfold maxLen; omega) (by omega) (Nat.zero_le _) _ (World.size_alloc _ _) ?_
    intro g cap w5 hown5 hg5 hat5 hlt5
    have hS5 := HM.out.grown hg5
    have hf5 := HM.out.frozen hg5
    refine hK.out _ _ ?_ (fun hHeld => ?_)
    · exact hS5
    clear hK K
    try simp only [Act.put, List.setIfInBounds_toArray, List.set_cons_zero, List.set_cons_succ]
    refine wpAnyH_take (i := 8) (v := ?v20) rfl (by kernel_rfl) (by kernel_rfl) (by kernel_rfl) (fun _ _ _ h => h) (Or.inl ⟨by rfl, ?hy20⟩) (by assumption) ?rest20
    case hy20 => (intro w0 hSw; (try dsimp only at hSw); go_simp; try with_reducible rfl)
    try simp only [Act.put, List.setIfInBounds_toArray, List.set_cons_zero, List.set_cons_succ]
    refine wpAnyH_take (i := 9) (v := ?v21) rfl (by kernel_rfl) (by kernel_rfl) (by kernel_rfl) (fun _ _ _ h => h) (Or.inl ⟨by rfl, ?hy21⟩) (by assumption) ?rest21
    case hy21 => (intro w0 hSw; (try dsimp only at hSw); go_simp; try with_reducible rfl)
    try simp only [Act.put, List.setIfInBounds_toArray, List.set_cons_zero, List.set_cons_succ]
    refine wpAnyH_done (by kernel_rfl) ?_ _
    change wpList _ _ _ _ _ _
    go_wp2
    go_ret
    obtain ⟨hop, hok, hc, hk⟩ := HX.out
    exact ⟨rfl, change_close HM.out hop hok hc hk HY.out hown5 hg5 hat5 hlt5⟩
end Go.Proofs.Ytbnnbaoimidfnaa.dsk
