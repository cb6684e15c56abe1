/- What Put answers, and what it leaves. -/
import Derived.Test.YtghpbhcnblninaaTbA
namespace Go.Proofs.Ytghpbhcnblninaa.tbl
set_option linter.unusedSimpArgs false
set_option linter.unusedVariables false
open Go.RowKit
attribute [local go_sem ↓] Go.wp_at_zero Go.wp_at_succ
open Go.Proofs.Ytghpbhcnblninaa.grp (gof gof_in fits fits_wf IRow intV below_on' below_made ret_bool)

def PutPost (w : World) (t b : Nat) (L : Rows) (k : Int) (c : Cl) (e : Ending) (w' : World) : Prop :=
  e = .returned (.int .i64 (putO L k c).1) ∧ IsTab w' t b (putO L k c).2 ∧ Only (Two t b) w w'
theorem put_nil (k : Int) (v : Cv) (w : World) : Calls Try.prog 14 #[.pointer none, .int .i64 k, mkC v] w fun e w' => e = .returned (.int .i64 1) ∧ Below w.heap.size w w' := by
  unfold mkC
  go_enter Try.func14, Try.ntmps14
  go_wp2_with fail
  go_ret
  exact ⟨rfl, below_made _ _⟩
theorem put_same {w w' : World} {t b : Nat} {L : Rows} {k : Int} {c : Cl} {x : Int} (h : IsTab w t b L) (hO : putO L k c = (x, L)) (hb : Below w.heap.size w w') : PutPost w t b L k c (.returned (.int .i64 x)) w' := by
  unfold PutPost
  rw [hO]
  exact ⟨rfl, h.below hb, .of_below hb⟩
theorem put_done {w w1 w5 w6 : World} {t b : Nat} {L : Rows} {k : Int} {c : Cl} {f : Nat → Int} (h : IsTab w t b L) (hO : putO L k c = (0, putL L k c)) (hk : fits k) (hc : Fine c) (hr : look L k = none → cnt L (gof k) < 40)
    (ht : TabO w1 t b f) (ho : Only (Two t b) w w1) (hf : ∀ n, n < 8 → f n = cntF (putL L k c) n) (hb5 : Below w1.heap.size w1 w5) (hm : TabM w6 b (putL L k c)) (hg : w5.grownBy w6 (some b)) :
    PutPost w t b L k c (.returned (.int .i64 0)) w6 := by
  have hlt := h.lt
  have h5 := ht.keep (w' := w5) (hb5.block t (lt_of_get ht))
  have h6 := h5.keep (w' := w6) (hg.block t (lt_of_get h5) (fun e => hlt.2.2 (Option.some.inj e)))
  unfold PutPost
  rw [hO]
  exact ⟨rfl, ⟨h.good.put hk hc hr, h6.congr hf, hm⟩, (ho.on hb5).then (.of_grown hg (fun i hi => by cases hi; exact .inr rfl))⟩
theorem cnt_same {L : Rows} (h : Ord L) {k : Int} {c : Cl} (hk : look L k ≠ none) (n : Nat) : cntF L n = cntF (putL L k c) n := by
  unfold cntF
  rw [cnt_put h, if_neg (fun e => hk e.1)]
theorem cnt_more {L : Rows} (h : Ord L) {k : Int} {c : Cl} (hk : look L k = none) {g m : Nat} (hg : gof k = (g : Int)) (hm : cnt L g = m) (n : Nat) : updF (cntF L) g ((m : Int) + 1) n = cntF (putL L k c) n := by
  unfold cntF updF
  rw [cnt_put h]
  by_cases hn : n = g
  · subst hn
    rw [if_pos rfl, if_pos ⟨hk, hg⟩, hm]
    omega
  · rw [if_neg hn, if_neg (fun e => hn (by have := e.2; rw [hg] at this; omega))]
theorem undrew {w w' : World} (h : Below w.drew.heap.size w.drew w') : Below w.heap.size w w' := ⟨h.os, h.tape, h.output, h.size, h.block⟩
set_option maxHeartbeats 1600000 in
set_option maxRecDepth 1000000 in
theorem put_any {w : World} {t b : Nat} {L : Rows} (h : IsTab w t b L) {k : Int} (hk : fits k) {x : Int} {ns : List Int} (hx : fits x) (hns : ∀ y ∈ ns, fits y) {a : Option Addr} {cap : Nat} (hs : Sl w a cap ns) (hat : 0 < ns.length → ∀ ad, a = some ad → ad.block ≠ t) (hl : ns.length ≤ 1000) :
    Calls Try.prog 14 #[.pointer (some ⟨t, 0, none⟩), .int .i64 k, .agg #[.int .i64 x, .slice a ns.length cap]] w (PutPost w t b L k (x, ns)) := by
  obtain ⟨l, hln⟩ : ∃ l, ns.length = l := ⟨_, rfl⟩
  have HLN := Lib.hid hln
  by_cases h16 : 16 < ns.length
  · have HF : Hid (∀ w', Below w.heap.size w w' → PutPost w t b L k (x, ns) (.returned (.int .i64 2)) w') := Lib.hid (fun w' hb => put_same h (by unfold putO; rw [if_pos h16]) hb)
    rw [hln] at h16 ⊢
    clear h hs hat hk hln hx hns
    go_enter Try.func14, Try.ntmps14
    go_wp2_with fail
    go_ret
    exact HF.out _ (below_made _ _)
  · have hb0 : Below w.heap.size w (w.alloc (.cells #[.int .i64 x, .slice a l cap] 32)) := below_made _ _
    have HOF := Lib.hid (fun w => grp.of_any k w hk)
    obtain ⟨N, hN⟩ : ∃ N, w.heap.size = N := ⟨_, rfl⟩
    have h00 : (w.alloc (.cells #[.int .i64 x, .slice a l cap] 32)).heap[N]? = some (.cells #[.int .i64 x, .slice a l cap] 32 (0, 0)) := by rw [← hN]; exact Go.heap_alloc_new w _
    obtain ⟨W0, hW0⟩ : ∃ W, w.alloc (.cells #[.int .i64 x, .slice a l cap] 32) = W := ⟨_, rfl⟩
    rw [hW0] at hb0 h00
    have HB0 := Lib.hid hb0
    have H00 := Lib.hid h00
    have HHAS := Lib.hid (has_any (h.below hb0) hk)
    have HH := Lib.hid h
    have HG := Lib.hid h.good
    have HK := Lib.hid hk
    have HSL := Lib.hid hs
    have HAT := Lib.hid hat
    have HFI : Hid (Fine (x, ns)) := Lib.hid ⟨hx, hns, by simp; omega⟩
    have HL16 : Hid (¬ 16 < ns.length) := Lib.hid h16
    have hO : ¬ (look L k = none ∧ 40 ≤ cnt L (gof k)) → putO L k (x, ns) = (0, putL L k (x, ns)) := fun hn => by unfold putO; rw [if_neg h16, if_neg hn]
    have HO := Lib.hid hO
    rw [hln] at h16 ⊢
    have hz1 : W0.cell? ⟨N, 1, none⟩ = some (.slice a l cap) := by rw [cell_of_row W0 N 1 _ _ _ h00]; rfl
    have h16i : ¬ (16 < (l : Int)) := by omega
    clear h hs hat hk hln hb0 h00 hO hx hns h16
    cases hlk : look L k with
    | some c0 =>
      have HLK : Hid (look L k ≠ none) := Lib.hid (by rw [hlk]; simp)
      rw [hlk] at HHAS
      clear hlk
      go_enter Try.func14, Try.ntmps14
      go_wp2_with fail
      refine (HOF.out _).mono ?_
      rintro e w1 ⟨rfl, rfl⟩
      go_wp2_with fail
      refine HHAS.out.mono ?_
      rintro e w1 ⟨rfl, hb1⟩
      have HH1 := Lib.hid ((HH.out.below HB0.out).below hb1)
      have hb01 := HB0.out.trans (hb1.mono HB0.out.size)
      have HB1 := Lib.hid hb01
      have h01 : w1.heap[N]? = some (.cells #[.int .i64 x, .slice a l cap] 32 (0, 0)) := (hb1.block N (lt_of_get H00.out)).trans H00.out
      have HNL := Lib.hid (lt_of_get h01)
      have hx0 := cell_of_row w1 N 0 _ _ _ h01
      have hx1 := cell_of_row w1 N 1 _ _ _ h01
      have HT := Lib.hid HH1.out.obj
      have HM := Lib.hid HH1.out.map
      have HBL := Lib.hid HH1.out.lt.2.1
      have HAP := Lib.hid (apart_any (w := w1.drew) (x := x) (HSL.out.below hb01.drew) (by rw [HLN.out]; omega))
      rw [HLN.out] at HAP
      have HFIN : Hid (∀ w5 w6, Below w1.heap.size w1 w5 → TabM w6 b (putL L k (x, ns)) → w5.grownBy w6 (some b) → PutPost w t b L k (x, ns) (.returned (.int .i64 0)) w6) := Lib.hid (fun w5 w6 hb5 hm6 hg6 =>
        put_done HH.out (HO.out (fun e => HLK.out e.1)) HK.out HFI.out (fun e => absurd e HLK.out) HH1.out.obj (.of_below HB1.out) (fun n _ => cnt_same HG.out.ord HLK.out n) hb5 hm6 hg6)
      clear hb1 hb01 h01
      simp only [List.getElem?_toArray, List.getElem?_cons_zero, List.getElem?_cons_succ] at hx0 hx1
      have ht0 := HT.out.cells.1
      go_wp2_with fail
      refine dsk.wp_region_peel2 (by kernel_rfl) (by simp only [List.dropLast_cons_cons, List.dropLast_singleton]; exact rfl) rfl (by kernel_rfl) ?_
      refine wpAny_of_held (S := fun w' => w'.cell? ⟨t, 0, none⟩ = some (.map (some b)) ∧ w'.cell? ⟨N, 0, none⟩ = some (.int .i64 x) ∧ w'.cell? ⟨N, 1, none⟩ = some (.slice a l cap)) _ _ _ _ ?_
      have hHeld := (show w1.drew.cell? ⟨t, 0, none⟩ = some (.map (some b)) ∧ w1.drew.cell? ⟨N, 0, none⟩ = some (.int .i64 x) ∧ w1.drew.cell? ⟨N, 1, none⟩ = some (.slice a l cap) from ⟨HT.out.cells.1, hx0, hx1⟩)
      refine wpAnyH_take (i := 0) (v := ?v1) rfl (by kernel_rfl) (by kernel_rfl) (by kernel_rfl) (fun _ _ _ h => h) (Or.inl ⟨by rfl, ?hy1⟩) (by assumption) ?rest1
      case hy1 => (intro w0 hSw; (try dsimp only at hSw); go_simp; try with_reducible rfl)
      try simp only [Act.put, List.getElem_toArray, List.getElem_cons_zero, List.getElem_cons_succ, List.setIfInBounds_toArray, List.set_cons_zero, List.set_cons_succ]
      refine wpAnyH_take (i := 1) (v := ?v2) rfl (by kernel_rfl) (by kernel_rfl) (by kernel_rfl) (fun _ _ _ h => h) (Or.inl ⟨by rfl, ?hy2⟩) (by assumption) ?rest2
      case hy2 => (intro w0 hSw; (try dsimp only at hSw); go_simp; try with_reducible rfl)
      try simp only [Act.put, List.getElem_toArray, List.getElem_cons_zero, List.getElem_cons_succ, List.setIfInBounds_toArray, List.set_cons_zero, List.set_cons_succ]
      refine wpAnyH_take (i := 2) (v := ?v3) rfl (by kernel_rfl) (by kernel_rfl) (by kernel_rfl) (fun _ _ _ h => h) (Or.inl ⟨by rfl, ?hy3⟩) (by assumption) ?rest3
      case hy3 => (intro w0 hSw; (try dsimp only at hSw); go_simp; try with_reducible rfl)
      try simp only [Act.put, List.getElem_toArray, List.getElem_cons_zero, List.getElem_cons_succ, List.setIfInBounds_toArray, List.set_cons_zero, List.set_cons_succ]
      refine wpAnyH_take (i := 3) (v := ?v4) rfl (by kernel_rfl) (by kernel_rfl) (by kernel_rfl) (fun _ _ _ h => h) (Or.inl ⟨by rfl, ?hy4⟩) (by assumption) ?rest4
      case hy4 => (intro w0 hSw; (try dsimp only at hSw); go_simp; try with_reducible rfl)
      try simp only [Act.put, List.getElem_toArray, List.getElem_cons_zero, List.getElem_cons_succ, List.setIfInBounds_toArray, List.set_cons_zero, List.set_cons_succ]
      refine wpAnyH_take (i := 4) (v := ?v5) rfl (by kernel_rfl) (by kernel_rfl) (by kernel_rfl) (fun _ _ _ h => h) (Or.inl ⟨by rfl, ?hy5⟩) (by assumption) ?rest5
      case hy5 => (intro w0 hSw; (try dsimp only at hSw); go_simp; try with_reducible rfl)
      try simp only [Act.put, List.getElem_toArray, List.getElem_cons_zero, List.getElem_cons_succ, List.setIfInBounds_toArray, List.set_cons_zero, List.set_cons_succ]
      refine wpAnyH_take (i := 5) (v := ?v6) rfl (by kernel_rfl) (by kernel_rfl) (by kernel_rfl) (fun _ _ _ h => h) (Or.inl ⟨by rfl, ?hy6⟩) (by assumption) ?rest6
      case hy6 => (intro w0 hSw; (try dsimp only at hSw); go_simp; try with_reducible rfl)
      try simp only [Act.put, List.getElem_toArray, List.getElem_cons_zero, List.getElem_cons_succ, List.setIfInBounds_toArray, List.set_cons_zero, List.set_cons_succ]
      refine wpAnyH_ready (rs := [6]) (by kernel_rfl) (by simp) ?_
      refine AllReadyH.cons rfl (fun KQ hKQ => ?_) AllReadyH.nil
      go_simp
      refine HAP.out.mono ?_
      rintro e w5 ⟨a5, cap5, rfl, hna5, hb5⟩
      have hb5 := undrew hb5
      have HT5 := Lib.hid (HT.out.keep (w' := w5) (hb5.block t (lt_of_get HT.out)))
      have hm5 := HM.out.keep (w' := w5) (hb5.block b HBL.out) (.of_below hb5)
      have hy0 : w5.cell? ⟨N, 0, none⟩ = some (.int .i64 x) := (hb5.cell (p := ⟨N, 0, none⟩) HNL.out).trans hx0
      have hy1 : w5.cell? ⟨N, 1, none⟩ = some (.slice a l cap) := (hb5.cell (p := ⟨N, 1, none⟩) HNL.out).trans hx1
      refine hKQ.out _ _ ?_ (fun hHeld => ?_)
      · exact ⟨HT5.out.cells.1, hy0, hy1⟩
      clear hKQ KQ
      try simp only [Act.put, List.getElem_toArray, List.getElem_cons_zero, List.getElem_cons_succ, List.setIfInBounds_toArray, List.set_cons_zero, List.set_cons_succ]
      refine wpAnyH_done (by kernel_rfl) ?_ _
      change wpList _ _ _ _ _ _
      obtain ⟨w6, hst, hm6, hg6⟩ := hm5.store HG.out HK.out (c := (x, ns)) hna5
      have HF := Lib.hid (HFIN.out w5 w6 hb5 hm6 hg6)
      clear hna5 hb5 hm6 hg6 hy0 hy1 hx0 hx1 hHeld hm5
      rw [HLN.out] at hst
      dsimp only at hst ⊢
      go_wp2_with fail
      go_ret
      exact HF.out
    | none =>
      have HLK : Hid (look L k = none) := Lib.hid hlk
      rw [hlk] at HHAS
      clear hlk
      obtain ⟨gi, hgi, hg8⟩ : ∃ n : Nat, gof k = (n : Int) ∧ n < 8 := ⟨(gof k).toNat, by have := gof_in k; omega, by have := gof_in k; omega⟩
      obtain ⟨m, hm⟩ : ∃ m, cnt L gi = m := ⟨_, rfl⟩
      have HGI := Lib.hid hgi
      have HM0 := Lib.hid hm
      have hm40 : m ≤ 40 := by rw [← hm]; exact HG.out.full _
      have hg8i : (gi : Int) < 8 := by omega
      rw [hgi] at HOF
      clear hgi
      by_cases hm4 : m = 40
      · have HF : Hid (∀ w', Below w.heap.size w w' → PutPost w t b L k (x, ns) (.returned (.int .i64 7)) w') := Lib.hid (fun w' hb => put_same HH.out (by
          unfold putO
          rw [if_neg HL16.out, if_pos ⟨HLK.out, by rw [HGI.out, HM0.out]; omega⟩]) hb)
        subst hm4
        go_enter Try.func14, Try.ntmps14
        go_wp2_with fail
        refine (HOF.out _).mono ?_
        rintro e w1 ⟨rfl, rfl⟩
        go_wp2_with fail
        refine HHAS.out.mono ?_
        rintro e w1 ⟨rfl, hb1⟩
        have HH1 := Lib.hid ((HH.out.below HB0.out).below hb1)
        have hb01 := HB0.out.trans (hb1.mono HB0.out.size)
        have HB1 := Lib.hid hb01
        have hcm := HH1.out.obj.cells.2.1 gi hg8
        unfold cntF at hcm
        rw [HM0.out] at hcm
        have hc0 := HH1.out.obj.cells.1
        clear hb1 hb01 hm
        go_wp2_with fail
        go_ret
        exact HF.out _ HB1.out
      · have hm4i : ((m : Int) == 40) = false := by simp; omega
        have HM4 : Hid (m < 40) := Lib.hid (by omega)
        go_enter Try.func14, Try.ntmps14
        go_wp2_with fail
        refine (HOF.out _).mono ?_
        rintro e w1 ⟨rfl, rfl⟩
        go_wp2_with fail
        refine HHAS.out.mono ?_
        rintro e w1 ⟨rfl, hb1⟩
        have HH1 := Lib.hid ((HH.out.below HB0.out).below hb1)
        have hb01 := HB0.out.trans (hb1.mono HB0.out.size)
        have HB1 := Lib.hid hb01
        have hcm := HH1.out.obj.cells.2.1 gi hg8
        unfold cntF at hcm
        rw [HM0.out] at hcm
        have hc0 := HH1.out.obj.cells.1
        have hfm := HH1.out.obj.cells.2.2 (1 + gi)
        have H01 : Hid (w1.heap[N]? = some (.cells #[.int .i64 x, .slice a l cap] 32 (0, 0))) := Lib.hid ((hb1.block N (lt_of_get H00.out)).trans H00.out)
        clear hb1 hb01 hm hm4
        go_wp2_with fail
        go_region
        obtain ⟨w2, hw2⟩ : ∃ W, (w1.setCell ⟨t, 1 + gi, none⟩ (.int .i64 ((m : Int) + 1))).drew = W := ⟨_, rfl⟩
        rw [hw2]
        have HT : Hid (TabO w2 t b (updF (cntF L) gi ((m : Int) + 1))) := Lib.hid (by rw [← hw2]; exact HH1.out.obj.set hg8 _)
        have ho12 : Only (Two t b) w1 w2 := by rw [← hw2]; exact ((Only.setCell w1 t (1 + gi) (.int .i64 ((m : Int) + 1))).mono (G := Two t b) (fun i hi => Or.inl hi)).on ⟨rfl, rfl, rfl, Nat.le_refl _, fun _ _ => rfl⟩
        have HR12 := Lib.hid (HH1.out.rows ho12)
        have HM : Hid (TabM w2 b L) := Lib.hid (HH1.out.map.keep (by rw [← hw2]; exact Below.heap_setCell _ _ _ _ (fun e => HH1.out.lt.2.2 e.symm)) HR12.out)
        have HBL : Hid (b < w2.heap.size) := Lib.hid (Nat.lt_of_lt_of_le HH1.out.lt.2.1 ho12.size)
        have hNt : N ≠ t := fun e => by have := H01.out; rw [e, HH1.out.obj] at this; cases this
        have hNb : N ≠ b := fun e => by obtain ⟨es, ck, h9⟩ := HH1.out.map.isMap; have := H01.out; rw [e, h9] at this; cases this
        have h02 : w2.heap[N]? = some (.cells #[.int .i64 x, .slice a l cap] 32 (0, 0)) := (ho12.block N (lt_of_get H01.out) (fun e => by rcases e with e | e; exact hNt e; exact hNb e)).trans H01.out
        have HNL := Lib.hid (lt_of_get h02)
        have hx0 := cell_of_row w2 N 0 _ _ _ h02
        have hx1 := cell_of_row w2 N 1 _ _ _ h02
        have hob := (Only.of_below HB1.out).then ho12
        have hlw : ∀ g o, g < w.heap.size → g ≠ t → w2.drew.cell? ⟨g, o, none⟩ = w.cell? ⟨g, o, none⟩ := fun g o hg hne => World.cell?_of_block (by
          show w2.heap[g]? = w.heap[g]?
          rw [← hw2]
          exact (Below.heap_setCell _ _ _ _ hne).trans (HB1.out.block g hg))
        have HSL2 : Hid (Sl w2.drew a cap ns) := Lib.hid ⟨HSL.out.1, fun hl => by
          obtain ⟨g, o, h1, h2, h3⟩ := HSL.out.2 hl
          have hgt : g ≠ t := HAT.out hl _ h1
          exact ⟨g, o, h1, Nat.lt_of_lt_of_le h2 hob.size, fun i hi => (hlw g (o + i) h2 hgt).trans (h3 i hi)⟩⟩
        have HAP := Lib.hid (apart_any (w := w2.drew) (x := x) HSL2.out (by rw [HLN.out]; omega))
        rw [HLN.out] at HAP
        have HFIN : Hid (∀ w5 w6, Below w2.heap.size w2 w5 → TabM w6 b (putL L k (x, ns)) → w5.grownBy w6 (some b) → PutPost w t b L k (x, ns) (.returned (.int .i64 0)) w6) := Lib.hid (fun w5 w6 hb5 hm6 hg6 =>
          put_done HH.out (HO.out (fun e => by have := e.2; rw [HGI.out, HM0.out] at this; have := HM4.out; omega)) HK.out HFI.out (fun _ => by rw [HGI.out, HM0.out]; exact HM4.out) HT.out hob (fun n _ => cnt_more HG.out.ord HLK.out HGI.out HM0.out n) hb5 hm6 hg6)
        clear hw2 ho12 hNt hNb h02 hob hlw hcm hc0 hfm
        simp only [List.getElem?_toArray, List.getElem?_cons_zero, List.getElem?_cons_succ] at hx0 hx1
        have ht0 := HT.out.cells.1
        go_wp2_with fail
        refine dsk.wp_region_peel2 (by kernel_rfl) (by simp only [List.dropLast_cons_cons, List.dropLast_singleton]; exact rfl) rfl (by kernel_rfl) ?_
        refine wpAny_of_held (S := fun w' => w'.cell? ⟨t, 0, none⟩ = some (.map (some b)) ∧ w'.cell? ⟨N, 0, none⟩ = some (.int .i64 x) ∧ w'.cell? ⟨N, 1, none⟩ = some (.slice a l cap)) _ _ _ _ ?_
        have hHeld := (show w2.drew.cell? ⟨t, 0, none⟩ = some (.map (some b)) ∧ w2.drew.cell? ⟨N, 0, none⟩ = some (.int .i64 x) ∧ w2.drew.cell? ⟨N, 1, none⟩ = some (.slice a l cap) from ⟨HT.out.cells.1, hx0, hx1⟩)
        refine wpAnyH_take (i := 0) (v := ?v7) rfl (by kernel_rfl) (by kernel_rfl) (by kernel_rfl) (fun _ _ _ h => h) (Or.inl ⟨by rfl, ?hy7⟩) (by assumption) ?rest7
        case hy7 => (intro w0 hSw; (try dsimp only at hSw); go_simp; try with_reducible rfl)
        try simp only [Act.put, List.getElem_toArray, List.getElem_cons_zero, List.getElem_cons_succ, List.setIfInBounds_toArray, List.set_cons_zero, List.set_cons_succ]
        refine wpAnyH_take (i := 1) (v := ?v8) rfl (by kernel_rfl) (by kernel_rfl) (by kernel_rfl) (fun _ _ _ h => h) (Or.inl ⟨by rfl, ?hy8⟩) (by assumption) ?rest8
        case hy8 => (intro w0 hSw; (try dsimp only at hSw); go_simp; try with_reducible rfl)
        try simp only [Act.put, List.getElem_toArray, List.getElem_cons_zero, List.getElem_cons_succ, List.setIfInBounds_toArray, List.set_cons_zero, List.set_cons_succ]
        refine wpAnyH_take (i := 2) (v := ?v9) rfl (by kernel_rfl) (by kernel_rfl) (by kernel_rfl) (fun _ _ _ h => h) (Or.inl ⟨by rfl, ?hy9⟩) (by assumption) ?rest9
        case hy9 => (intro w0 hSw; (try dsimp only at hSw); go_simp; try with_reducible rfl)
        try simp only [Act.put, List.getElem_toArray, List.getElem_cons_zero, List.getElem_cons_succ, List.setIfInBounds_toArray, List.set_cons_zero, List.set_cons_succ]
        refine wpAnyH_take (i := 3) (v := ?v10) rfl (by kernel_rfl) (by kernel_rfl) (by kernel_rfl) (fun _ _ _ h => h) (Or.inl ⟨by rfl, ?hy10⟩) (by assumption) ?rest10
        case hy10 => (intro w0 hSw; (try dsimp only at hSw); go_simp; try with_reducible rfl)
        try simp only [Act.put, List.getElem_toArray, List.getElem_cons_zero, List.getElem_cons_succ, List.setIfInBounds_toArray, List.set_cons_zero, List.set_cons_succ]
        refine wpAnyH_take (i := 4) (v := ?v11) rfl (by kernel_rfl) (by kernel_rfl) (by kernel_rfl) (fun _ _ _ h => h) (Or.inl ⟨by rfl, ?hy11⟩) (by assumption) ?rest11
        case hy11 => (intro w0 hSw; (try dsimp only at hSw); go_simp; try with_reducible rfl)
        try simp only [Act.put, List.getElem_toArray, List.getElem_cons_zero, List.getElem_cons_succ, List.setIfInBounds_toArray, List.set_cons_zero, List.set_cons_succ]
        refine wpAnyH_take (i := 5) (v := ?v12) rfl (by kernel_rfl) (by kernel_rfl) (by kernel_rfl) (fun _ _ _ h => h) (Or.inl ⟨by rfl, ?hy12⟩) (by assumption) ?rest12
        case hy12 => (intro w0 hSw; (try dsimp only at hSw); go_simp; try with_reducible rfl)
        try simp only [Act.put, List.getElem_toArray, List.getElem_cons_zero, List.getElem_cons_succ, List.setIfInBounds_toArray, List.set_cons_zero, List.set_cons_succ]
        refine wpAnyH_ready (rs := [6]) (by kernel_rfl) (by simp) ?_
        refine AllReadyH.cons rfl (fun KQ hKQ => ?_) AllReadyH.nil
        go_simp
        refine HAP.out.mono ?_
        rintro e w5 ⟨a5, cap5, rfl, hna5, hb5⟩
        have hb5 := undrew hb5
        have HT5 := Lib.hid (HT.out.keep (w' := w5) (hb5.block t (lt_of_get HT.out)))
        have hm5 := HM.out.keep (w' := w5) (hb5.block b HBL.out) (.of_below hb5)
        have hy0 : w5.cell? ⟨N, 0, none⟩ = some (.int .i64 x) := (hb5.cell (p := ⟨N, 0, none⟩) HNL.out).trans hx0
        have hy1 : w5.cell? ⟨N, 1, none⟩ = some (.slice a l cap) := (hb5.cell (p := ⟨N, 1, none⟩) HNL.out).trans hx1
        refine hKQ.out _ _ ?_ (fun hHeld => ?_)
        · exact ⟨HT5.out.cells.1, hy0, hy1⟩
        clear hKQ KQ
        try simp only [Act.put, List.getElem_toArray, List.getElem_cons_zero, List.getElem_cons_succ, List.setIfInBounds_toArray, List.set_cons_zero, List.set_cons_succ]
        refine wpAnyH_done (by kernel_rfl) ?_ _
        change wpList _ _ _ _ _ _
        obtain ⟨w6, hst, hm6, hg6⟩ := hm5.store HG.out HK.out (c := (x, ns)) hna5
        have HF := Lib.hid (HFIN.out w5 w6 hb5 hm6 hg6)
        clear hna5 hb5 hm6 hg6 hy0 hy1 hx0 hx1 hHeld hm5
        rw [HLN.out] at hst
        dsimp only at hst ⊢
        go_wp2_with fail
        go_ret
        exact HF.out
end Go.Proofs.Ytghpbhcnblninaa.tbl
