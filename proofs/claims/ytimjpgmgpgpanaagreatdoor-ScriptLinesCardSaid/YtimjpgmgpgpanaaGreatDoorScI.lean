/- What the reader holds at the end: the job, or what is wrong of the whole. -/
import Derived.Test.YtimjpgmgpgpanaaGreatDoorScH
namespace Go.Proofs.YtimjpgmgpgpanaaGreatDoor.sc
set_option linter.unusedSimpArgs false
set_option linter.unusedVariables false
open Go.RowKit nam exp jb

theorem firstErr_at {f : Nat → Int} : ∀ {n k : Nat}, (firstErr f n k).2 ≠ 0 → ∃ j : Nat, k ≤ j ∧ j < k + n ∧ (firstErr f n k).1 = (j : Int)
  | 0, k, h => absurd rfl h
  | n + 1, k, h => by
    by_cases h0 : f k = 0
    · rw [firstErr_step h0] at h ⊢
      obtain ⟨j, h1, h2, h3⟩ := firstErr_at h
      exact ⟨j, by omega, by omega, h3⟩
    · rw [firstErr_stop h0]
      exact ⟨k, Nat.le_refl _, by omega, rfl⟩
theorem may_at {par : Int} {l : List Nd} (h0 : (mayO par l).2 ≠ 0) (h2 : (mayO par l).2 ≠ 2) : ∃ j : Nat, j < l.length ∧ (mayO par l).1 = (j : Int) := by
  unfold mayO at h0 h2 ⊢
  by_cases hb : boundedB par l = false
  · rw [if_pos hb] at h2; exact absurd rfl h2
  rw [if_neg hb] at h0 h2 ⊢
  by_cases ha : (aloneO l).2 ≠ 0
  · rw [if_pos ha]
    obtain ⟨j, _, h3, h4⟩ := firstErr_at ha
    exact ⟨j, by omega, h4⟩
  · rw [if_neg ha] at h0 ⊢
    obtain ⟨j, _, h3, h4⟩ := firstErr_at h0
    exact ⟨j, by omega, h4⟩
/-- Whatever but jobs' blocks is written. -/
def FrameJ (w w' : World) : Prop := ∀ (b : Nat) (c : Array Value) (t : TypeId) (fr : Nat × Nat), w.heap[b]? = some (Obj.cells c t fr) → t ≠ 24 → w'.heap[b]? = some (Obj.cells c t fr)
theorem IsRdr.frameJ {w w' : World} {B rb : Nat} {vn vs : Value} {rows : List NRow} {r : Rdr} (h : IsRdr w B rb vn vs rows r) (hf : FrameJ w w') : IsRdr w' B rb vn vs rows r := by
  obtain ⟨h1, h2, h3, h4, h5, h6, h7, h8⟩ := h
  have hr : ∀ {e : TypeId} {size n : Nat} {v : Value} {xs : List Value}, e ≠ 24 → lg.Row w e size v n xs → lg.Row w' e size v n xs := fun he hr => hr.frame fun g hg => by
    obtain ⟨cur, hc⟩ := hr.kind hg
    rw [hc]; exact hf g _ _ _ hc he
  exact ⟨hf _ _ _ _ h1 (by decide), h2, hr (by decide) h3, h4, fun c hc => ⟨hr (by decide) (h5 c hc).1, (h5 c hc).2.1, (h5 c hc).2.2.frame fun b c _ hb => by rw [hb]; exact hf b _ _ _ hb (by decide)⟩, hr (by decide) h6, h7, h8⟩
def NodesJ (w : World) (v : Value) (l : List Nd) : Prop := ∀ w', FrameJ w w' → Nodes w' v l
theorem NodesJ.nodes {w : World} {v : Value} {l : List Nd} (h : NodesJ w v l) : Nodes w v l := h w fun _ _ _ _ h _ => h
def WholePost (o : Res) (w : World) (e : Ending) (w' : World) : Prop :=
  ∃ v, e = .returned (.tuple #[.agg #[.int .i64 o.1, v], .int .i64 o.2.2.1, .int .i64 o.2.2.2]) ∧ NodesJ w' v o.2.1 ∧ Below w.heap.size w w'
theorem nodes_nil (w : World) : NodesJ w (.slice none 0 0) [] := fun _ _ => ⟨none, 0, rfl, Nat.le_refl _, fun h => by simp at h⟩
theorem below_same {w w' w7 : World} {B : Nat} (h : Below B w w') (e1 : w7.heap = w'.heap) (e2 : w7.os = w'.os) (e3 : w7.tape = w'.tape) (e4 : w7.output = w'.output) : Below B w w7 :=
  ⟨e2.trans h.os, e3.trans h.tape, e4.trans h.output, by rw [e1]; exact h.size, fun k hk => by rw [e1]; exact h.block k hk⟩
theorem nodes_keep {w w' : World} {v : Value} {B rb : Nat} {vs : Value} {rows : List NRow} {r : Rdr} (h : IsRdr w B rb v vs rows r) (hb : Below w.heap.size w w') : NodesJ w' v r.nodes := fun w8 hf => ((h.under hb).frameJ hf).nodes
set_option maxHeartbeats 1600000 in
set_option maxRecDepth 1000000 in
theorem whole_any {w : World} {B rb : Nat} {vn vs : Value} {rows : List NRow} {r : Rdr} (ht : jb.Tab w) (h : IsRdr w B rb vn vs rows r) (hlen : r.said.length = r.nodes.length + 1 ∨ r.said = []) (hsl : r.said.length ≤ 100000) :
    Calls Tryz.prog 18 #[.pointer (some ⟨rb, 0, none⟩)] w (WholePost (wholeO r) w) := by
  have HH := Lib.hid h
  obtain ⟨N, hN⟩ : ∃ N, w.heap.size = N := ⟨_, rfl⟩
  obtain ⟨W, hW⟩ : ∃ W, w.alloc (.cells #[.int .i64 0, .slice none 0 0] 24) = W := ⟨_, rfl⟩
  have hwb : Below w.heap.size w W := by rw [← hW]; exact below_made _ _
  have hNB : W.heap[N]? = some (.cells #[.int .i64 0, .slice none 0 0] 24 (0, 0)) := by rw [← hW]; exact heap_last hN.symm
  obtain ⟨sa, sc, hsv⟩ := row_slice h.2.2.2.2.2.1
  obtain ⟨ns, hns⟩ : ∃ n, r.said.length = n := ⟨_, rfl⟩
  have HWO : Hid (wholeO r = if ns = 0 then (0, [], 0, 130) else if (mayO r.par r.nodes).2 = 0 then (r.par, r.nodes, 0, 0) else if (mayO r.par r.nodes).2 = 2 then (0, [], 0, 2)
    else (0, [], r.said.getD (1 + (mayO r.par r.nodes).1).toNat 0, (mayO r.par r.nodes).2)) := Lib.hid (by unfold wholeO; rw [hns])
  rw [hns] at hsv
  subst hsv
  obtain ⟨RES, hRES⟩ : ∃ o, wholeO r = o := ⟨_, rfl⟩
  rw [hRES] at HWO ⊢
  clear hRES
  have HNB := Lib.hid hNB; have HB := Lib.hid hwb; have HNN := Lib.hid hN; have HWW := Lib.hid hW
  have HNS := Lib.hid hns
  have hns' : ns ≤ 100000 := by omega
  obtain ⟨x0, x1, x2, -⟩ := (h.under hwb).cells
  by_cases h0 : ns = 0
  · have HR : Hid (RES = (0, [], 0, 130)) := Lib.hid (HWO.out.trans (if_pos h0))
    have HE : Hid (WholePost RES w (.returned (.tuple #[.agg #[.int .i64 0, .slice none 0 0], .int .i64 0, .int .i64 130])) W) := Lib.hid (by
      rw [HR.out]; exact ⟨_, rfl, nodes_nil _, HB.out⟩)
    have d0 : W.cell? ⟨N, 0, none⟩ = some (.int .i64 0) := cell_of HNB.out rfl
    have d1 : W.cell? ⟨N, 1, none⟩ = some (.slice none 0 0) := cell_of HNB.out rfl
    rw [← HWW.out] at x2 d0 d1
    rw [← HNN.out] at d0 d1
    have HD := Lib.hid (And.intro d0 d1)
    rw [← HWW.out] at HE
    subst h0
    clear ht h hlen hns hN hW hwb hNB x0 x1 d0 d1
    go_enter Tryz.func18, Tryz.ntmps18
    go_wp2_with fail
    obtain ⟨d0, d1⟩ := HD.out
    exact bodyPost_ret (v := .tuple #[.agg #[.int .i64 0, .slice none 0 0], .int .i64 0, .int .i64 130]) (by simp [results, Tryz.f18, go_sem, d0, d1]) rfl HE.out
  · have HR := Lib.hid (HWO.out.trans (if_neg h0))
    have hne : ((ns : Int) == 0) = false := by simp; omega
    have HM := Lib.hid (may_job r.par (ht.on hwb) ((h.under hwb).nodes))
    obtain ⟨va, vc, hvv⟩ := row_slice h.2.2.1
    obtain ⟨p, hp⟩ : ∃ p, (mayO r.par r.nodes).1 = p := ⟨_, rfl⟩
    obtain ⟨q, hq⟩ : ∃ q, (mayO r.par r.nodes).2 = q := ⟨_, rfl⟩
    have HAT : Hid (q ≠ 0 → q ≠ 2 → ∃ j : Nat, j < r.nodes.length ∧ p = (j : Int)) := Lib.hid (fun h1 h2 => by
      have := may_at (par := r.par) (l := r.nodes) (by rw [hq]; exact h1) (by rw [hq]; exact h2)
      rw [hp] at this; exact this)
    rw [hp, hq] at HR HM
    clear hp hq
    have HLN := Lib.hid hlen
    have HCELL : Hid (∀ w1, Below W.heap.size W w1 → w1.heap[N]? = some (.cells #[.int .i64 0, .slice none 0 0] 24 (0, 0))) := Lib.hid (fun w1 hb => (hb.block N (Array.getElem?_eq_some_iff.1 HNB.out).1).trans HNB.out)
    have HRD : Hid (∀ w1, Below W.heap.size W w1 → IsRdr w1 B rb vn (.slice sa ns sc) rows r) := Lib.hid (fun w1 hb => (HH.out.under HB.out).under hb)
    have HFIN : Hid (∀ w1, Below W.heap.size W w1 → ∀ (a b : Value) (w7 : World), w7.heap = ((w1.setCell ⟨N, 0, none⟩ a).setCell ⟨N, 1, none⟩ b).heap → w7.os = w1.os → w7.tape = w1.tape → w7.output = w1.output → Below w.heap.size w w7) := Lib.hid (fun w1 hb a b w7 e1 e2 e3 e4 =>
      below_same (((HB.out.trans (hb.mono HB.out.size)).setCell (p := ⟨N, 0, none⟩) (by show w.heap.size ≤ N; have := HNN.out; omega) a).setCell (p := ⟨N, 1, none⟩) (by show w.heap.size ≤ N; have := HNN.out; omega) b) e1 e2 e3 e4)
    subst hvv
    clear ht hlen hns hwb hNB
    by_cases hq0 : q = 0
    · have HR1 : Hid (RES = (r.par, r.nodes, 0, 0)) := Lib.hid (HR.out.trans (if_pos hq0))
      subst hq0
      clear HR HAT h0
      have HE : Hid (∀ w1, Below W.heap.size W w1 → ∀ (w7 : World), w7.heap = ((w1.setCell ⟨N, 0, none⟩ (.int .i64 r.par)).setCell ⟨N, 1, none⟩ (.slice va rows.length vc)).heap → w7.os = w1.os → w7.tape = w1.tape → w7.output = w1.output →
          WholePost RES w (.returned (.tuple #[.agg #[.int .i64 r.par, .slice va rows.length vc], .int .i64 0, .int .i64 0])) w7) := Lib.hid (fun w1 hb w7 e1 e2 e3 e4 => by
        have hb7 := HFIN.out w1 hb _ _ w7 e1 e2 e3 e4
        rw [HR1.out]
        have hnn := nodes_keep HH.out hb7
        exact ⟨.slice va rows.length vc, rfl, hnn, hb7⟩)
      clear HFIN
      clear hN h
      rw [← HWW.out] at x0 x1 x2 HM
      clear hW
      go_enter Tryz.func18, Tryz.ntmps18
      go_wp2_with fail
      refine HM.out.mono ?_
      rintro e w1 ⟨rfl, hb1⟩
      rw [HWW.out] at hb1
      have n0 : w1.cell? ⟨N, 0, none⟩ = some (.int .i64 0) := cell_of (HCELL.out w1 hb1) rfl
      have n1 : w1.cell? ⟨N, 1, none⟩ = some (.slice none 0 0) := cell_of (HCELL.out w1 hb1) rfl
      have f0 : w1.frozen? ⟨N, 0, none⟩ = false := by simp [World.frozen?, HCELL.out w1 hb1]
      have f1 : w1.frozen? ⟨N, 1, none⟩ = false := by simp [World.frozen?, HCELL.out w1 hb1]
      obtain ⟨y0, y1, y2, -⟩ := (HRD.out w1 hb1).cells
      have HE1 := Lib.hid (HE.out w1 hb1)
      clear hb1 x0 x1 x2
      rw [HNN.out]
      go_wp2_with fail
      exact bodyPost_ret (v := .tuple #[.agg #[.int .i64 r.par, .slice va rows.length vc], .int .i64 0, .int .i64 0]) (by simp [results, Tryz.f18, go_sem, n0, n1]) rfl (HE1.out _ rfl rfl rfl rfl)
    · have HR1 := Lib.hid (HR.out.trans (if_neg hq0))
      clear HR
      by_cases hq2 : q = 2
      · have HR2 : Hid (RES = (0, [], 0, 2)) := Lib.hid (HR1.out.trans (if_pos hq2))
        subst hq2
        clear HR1 HAT h0 hq0
        have HE : Hid (∀ w1, Below W.heap.size W w1 → ∀ (w7 : World), w7.heap = ((w1.setCell ⟨N, 0, none⟩ (.int .i64 0)).setCell ⟨N, 1, none⟩ (.slice none 0 0)).heap → w7.os = w1.os → w7.tape = w1.tape → w7.output = w1.output →
            WholePost RES w (.returned (.tuple #[.agg #[.int .i64 0, .slice none 0 0], .int .i64 0, .int .i64 2])) w7) := Lib.hid (fun w1 hb w7 e1 e2 e3 e4 => by
          rw [HR2.out]
          exact ⟨_, rfl, nodes_nil _, HFIN.out w1 hb _ _ w7 e1 e2 e3 e4⟩)
        clear HFIN hN h
        rw [← HWW.out] at x0 x1 x2 HM
        clear hW
        go_enter Tryz.func18, Tryz.ntmps18
        go_wp2_with fail
        refine HM.out.mono ?_
        rintro e w1 ⟨rfl, hb1⟩
        rw [HWW.out] at hb1
        have n0 : w1.cell? ⟨N, 0, none⟩ = some (.int .i64 0) := cell_of (HCELL.out w1 hb1) rfl
        have n1 : w1.cell? ⟨N, 1, none⟩ = some (.slice none 0 0) := cell_of (HCELL.out w1 hb1) rfl
        have f0 : w1.frozen? ⟨N, 0, none⟩ = false := by simp [World.frozen?, HCELL.out w1 hb1]
        have f1 : w1.frozen? ⟨N, 1, none⟩ = false := by simp [World.frozen?, HCELL.out w1 hb1]
        have HE1 := Lib.hid (HE.out w1 hb1)
        clear hb1 x0 x1 x2
        rw [HNN.out]
        go_wp2_with fail
        exact bodyPost_ret (v := .tuple #[.agg #[.int .i64 0, .slice none 0 0], .int .i64 0, .int .i64 2]) (by simp [results, Tryz.f18, go_sem, n0, n1]) rfl (HE1.out _ rfl rfl rfl rfl)
      · have HR2 := Lib.hid (HR1.out.trans (if_neg hq2))
        obtain ⟨j, hj, rfl⟩ := HAT.out hq0 hq2
        have hjs : 1 + j < ns := by
          rcases HLN.out with h1 | h1
          · have := HNS.out; omega
          · have := HNS.out; rw [h1] at this; simp at this; omega
        obtain ⟨z, hz⟩ : ∃ z, r.said.getD (1 + j) 0 = z := ⟨_, rfl⟩
        have HR3 : Hid (RES = (0, [], z, q)) := Lib.hid (by rw [HR2.out, show ((1 : Int) + (j : Int)).toNat = 1 + j by omega, hz])
        have hq0' : (q == 0) = false := by simpa using hq0
        have hq2' : (q == 2) = false := by simpa using hq2
        have hj1 : (0 : Int) ≤ (j : Int) := by omega
        have hj2 : (1 : Int) + (j : Int) < (ns : Int) := by omega
        obtain ⟨sg, hsg⟩ : ∃ g, sa = some ⟨g, 0, none⟩ := by
          rcases h.2.2.2.2.2.1.form with ⟨e1, e2⟩ | ⟨g, cap, e1, _⟩
          · have := HNS.out; omega
          · simp only [Value.slice.injEq] at e1; exact ⟨g, e1.1⟩
        subst hsg
        have HSC : Hid (∀ w1, Below W.heap.size W w1 → w1.cell? ⟨sg, 1 + j, none⟩ = some (.int .i64 z)) := Lib.hid (fun w1 hb => by
          have h1 := (HRD.out w1 hb).2.2.2.2.2.1
          have h2 : lg.Row w1 3 1 (.slice (some ⟨sg, 0, none⟩) r.said.length sc) r.said.length (r.said.map intV) := by rw [HNS.out] at h1 ⊢; exact h1
          refine h2.cellAt ?_
          rw [List.getElem?_map, List.getElem?_eq_getElem (by rw [HNS.out]; exact hjs)]
          rw [List.getD_eq_getElem?_getD, List.getElem?_eq_getElem (by rw [HNS.out]; exact hjs)] at hz
          show some (intV _) = _
          rw [show r.said[1 + j]'(by rw [HNS.out]; exact hjs) = z from hz]; rfl)
        have HE : Hid (∀ w1, Below W.heap.size W w1 → ∀ (w7 : World), w7.heap = ((w1.setCell ⟨N, 0, none⟩ (.int .i64 0)).setCell ⟨N, 1, none⟩ (.slice none 0 0)).heap → w7.os = w1.os → w7.tape = w1.tape → w7.output = w1.output →
            WholePost RES w (.returned (.tuple #[.agg #[.int .i64 0, .slice none 0 0], .int .i64 z, .int .i64 q])) w7) := Lib.hid (fun w1 hb w7 e1 e2 e3 e4 => by
          rw [HR3.out]
          exact ⟨_, rfl, nodes_nil _, HFIN.out w1 hb _ _ w7 e1 e2 e3 e4⟩)
        have hsgN : sg ≠ N := by have := h.2.2.2.2.2.1.lt (g := sg) rfl; omega
        have hNsg : N ≠ sg := fun e => hsgN e.symm
        have hrbN : rb ≠ N := by have := h.rlt; omega
        have hNrb : N ≠ rb := fun e => hrbN e.symm
        clear HFIN hN h HR1 HAT h0 hq0 hq2 hz HR2 hj hjs HLN
        rw [← HWW.out] at x0 x1 x2 HM
        clear hW
        go_enter Tryz.func18, Tryz.ntmps18
        go_wp2_with fail
        refine HM.out.mono ?_
        rintro e w1 ⟨rfl, hb1⟩
        rw [HWW.out] at hb1
        have n0 : w1.cell? ⟨N, 0, none⟩ = some (.int .i64 0) := cell_of (HCELL.out w1 hb1) rfl
        have n1 : w1.cell? ⟨N, 1, none⟩ = some (.slice none 0 0) := cell_of (HCELL.out w1 hb1) rfl
        have f0 : w1.frozen? ⟨N, 0, none⟩ = false := by simp [World.frozen?, HCELL.out w1 hb1]
        have f1 : w1.frozen? ⟨N, 1, none⟩ = false := by simp [World.frozen?, HCELL.out w1 hb1]
        obtain ⟨y0, y1, y2, -⟩ := (HRD.out w1 hb1).cells
        have y3 := HSC.out w1 hb1
        have HE1 := Lib.hid (HE.out w1 hb1)
        clear hb1 x0 x1 x2
        rw [HNN.out]
        go_wp2_with fail
        go_region
        all_goals (go_wp2_with fail; exact bodyPost_ret (v := .tuple #[.agg #[.int .i64 0, .slice none 0 0], .int .i64 z, .int .i64 q]) (by simp [results, Tryz.f18, go_sem, n0, n1]) rfl (HE1.out _ rfl rfl rfl rfl))
end Go.Proofs.YtimjpgmgpgpanaaGreatDoor.sc
