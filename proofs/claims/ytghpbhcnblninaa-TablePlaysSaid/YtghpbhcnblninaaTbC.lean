/- What Get and Drop answer, and what Drop leaves. -/
import Derived.Test.YtghpbhcnblninaaTbB
import Derived.Deep.RegionWith
namespace Go.Proofs.Ytghpbhcnblninaa.tbl
set_option linter.unusedSimpArgs false
set_option linter.unusedVariables false
open Go.RowKit
attribute [local go_sem ↓] Go.wp_at_zero Go.wp_at_succ
open Go.Proofs.Ytghpbhcnblninaa.grp (gof gof_in fits fits_wf IRow intV below_on' below_made ret_bool)

/-- A block of a cell's own. -/
def Box2 (w : World) (N : Nat) (c : Cv) : Prop := w.heap[N]? = some (.cells #[.int .i64 c.1, .slice c.2.1 c.2.2.1 c.2.2.2] 32 (0, 0))
theorem Box2.new (w : World) (c : Cv) : Box2 (w.alloc (.cells #[.int .i64 c.1, .slice c.2.1 c.2.2.1 c.2.2.2] 32)) w.heap.size c := Go.heap_alloc_new w _
theorem Box2.facts {w : World} {N : Nat} {c : Cv} (h : Box2 w N c) : w.cell? ⟨N, 0, none⟩ = some (.int .i64 c.1) ∧ w.cell? ⟨N, 1, none⟩ = some (.slice c.2.1 c.2.2.1 c.2.2.2) ∧ w.frozen? ⟨N, 0, none⟩ = false ∧ w.frozen? ⟨N, 1, none⟩ = false :=
  ⟨by rw [cell_of_row w N 0 _ _ _ h]; rfl, by rw [cell_of_row w N 1 _ _ _ h]; rfl, frozen_of_row w N 0 _ _ h, frozen_of_row w N 1 _ _ h⟩
theorem Box2.set {w : World} {N : Nat} {c : Cv} (h : Box2 w N c) (x : Int) (a : Option Addr) (n m : Nat) : Box2 ((w.setCell ⟨N, 0, none⟩ (.int .i64 x)).setCell ⟨N, 1, none⟩ (.slice a n m)) N (x, a, n, m) := by
  unfold Box2 at *
  rw [heap_setCell_same _ N 1 #[.int .i64 x, .slice c.2.1 c.2.2.1 c.2.2.2] 32 _ (by rw [heap_setCell_same w N 0 _ _ _ h]; rfl)]; rfl
theorem Box2.below {w w' : World} {N : Nat} {c : Cv} (h : Box2 w N c) (hb : Below w.heap.size w w') : Box2 w' N c := (hb.block N (lt_of_get h)).trans h
theorem below_box {w w' : World} {N : Nat} (hb : Below w.heap.size w w') (hN : w.heap.size ≤ N) (u v : Value) : Below w.heap.size w ((w'.setCell ⟨N, 0, none⟩ u).setCell ⟨N, 1, none⟩ v) :=
  (hb.setCell (p := ⟨N, 0, none⟩) hN u).setCell (p := ⟨N, 1, none⟩) hN v
theorem rows_box {w : World} {N : Nat} {c : Cv} (h : Box2 w N c) (u v : Value) : Rows2 w ((w.setCell ⟨N, 0, none⟩ u).setCell ⟨N, 1, none⟩ v) := fun g cur fr hg => by
  have hne : g ≠ N := fun e => by rw [e, h] at hg; cases hg
  rw [Below.heap_setCell _ _ _ _ hne, Below.heap_setCell _ _ _ _ hne]; exact hg

def GetPost (w : World) (L : Rows) (k : Int) (e : Ending) (w' : World) : Prop :=
  (match look L k with
    | none => e = .returned (.tuple #[mkC (0, none, 0, 0), .bool false])
    | some c => ∃ a cap, e = .returned (.tuple #[mkC (c.1, a, c.2.length, cap), .bool true]) ∧ NA w' a cap c.2) ∧ Below w.heap.size w w'
theorem get_nil (k : Int) (w : World) : Calls Try.prog 18 #[.pointer none, .int .i64 k] w fun e w' => e = .returned (.tuple #[mkC (0, none, 0, 0), .bool false]) ∧ Below w.heap.size w w' := by
  have HN := Lib.hid (has_nil k)
  have hbx := Box2.new w (0, none, 0, 0)
  have hb0 : Below w.heap.size w (w.alloc (.cells #[.int .i64 0, .slice none 0 0] 32)) := below_made _ _
  have HB := Lib.hid hb0
  obtain ⟨e0, e1, -, -⟩ := hbx.facts
  dsimp only at e0 e1
  clear hbx hb0
  go_enter Try.func18, Try.ntmps18
  go_wp2_with fail
  refine (HN.out _).mono ?_
  rintro e w1 ⟨rfl, rfl⟩
  go_wp2_with fail
  refine bodyPost_ret (v := .tuple #[mkC (0, none, 0, 0), .bool false]) (by simp [results, Try.f18, go_sem, e0, e1, mkC]) rfl ?_
  exact ⟨rfl, HB.out⟩
theorem get_any {w : World} {t b : Nat} {L : Rows} (h : IsTab w t b L) {k : Int} (hk : fits k) : Calls Try.prog 18 #[.pointer (some ⟨t, 0, none⟩), .int .i64 k] w (GetPost w L k) := by
  have hb0 : Below w.heap.size w (w.alloc (.cells #[.int .i64 0, .slice none 0 0] 32)) := below_made _ _
  have HHAS := Lib.hid (has_any (h.below hb0) hk)
  have hbx := Box2.new w (0, none, 0, 0)
  obtain ⟨W0, hW0⟩ : ∃ W, w.alloc (.cells #[.int .i64 0, .slice none 0 0] 32) = W := ⟨_, rfl⟩
  obtain ⟨N, hN⟩ : ∃ N, w.heap.size = N := ⟨_, rfl⟩
  have HNN := Lib.hid hN
  rw [hW0] at hb0 HHAS
  dsimp only at hbx
  rw [hW0, hN] at hbx
  have HH := Lib.hid (h.below hb0)
  have HB0 := Lib.hid hb0
  have HBX := Lib.hid hbx
  have HK := Lib.hid hk
  clear h hk hb0 hbx
  cases hlk : look L k with
  | none =>
    rw [hlk] at HHAS
    have HE : Hid (∀ w', Below w.heap.size w w' → GetPost w L k (.returned (.tuple #[mkC (0, none, 0, 0), .bool false])) w') := Lib.hid (fun w' hb => by
      unfold GetPost; rw [hlk]; exact ⟨rfl, hb⟩)
    clear hlk
    go_enter Try.func18, Try.ntmps18
    go_wp2_with fail
    refine HHAS.out.mono ?_
    rintro e w1 ⟨rfl, hb1⟩
    have HB1 := Lib.hid (below_on' HB0.out hb1)
    have HX1 := Lib.hid (HBX.out.below hb1)
    obtain ⟨c0, c1, f0, f1⟩ := HX1.out.facts
    dsimp only at c0 c1
    obtain ⟨e0, e1, -, -⟩ := (HX1.out.set 0 none 0 0).facts
    dsimp only at e0 e1
    clear hb1
    go_wp2_with fail
    refine bodyPost_ret (v := .tuple #[mkC (0, none, 0, 0), .bool false]) (by simp [results, Try.f18, go_sem, e0, e1, mkC]) rfl ?_
    exact HE.out _ (below_box HB1.out (by rw [HNN.out]; omega) _ _)
  | some c =>
    rw [hlk] at HHAS
    have HLK := Lib.hid hlk
    have HE : Hid (∀ w' a cap, NA w' a cap c.2 → Below w.heap.size w w' → GetPost w L k (.returned (.tuple #[mkC (c.1, a, c.2.length, cap), .bool true])) w') := Lib.hid (fun w' a cap hna hb => by
      unfold GetPost; rw [hlk]; exact ⟨⟨a, cap, rfl, hna⟩, hb⟩)
    have HFI := Lib.hid ((HH.out.good.fine hlk).2)
    clear hlk
    go_enter Try.func18, Try.ntmps18
    go_wp2_with fail
    refine HHAS.out.mono ?_
    rintro e w1 ⟨rfl, hb1⟩
    have HB1 := Lib.hid (below_on' HB0.out hb1)
    have HX1 := Lib.hid (HBX.out.below hb1)
    have HH1 := Lib.hid (HH.out.below hb1)
    obtain ⟨a, cap, hna, -, hlo⟩ := HH1.out.map.look_yes HK.out HLK.out
    have HAP := Lib.hid (apart_any (x := c.1) hna.sl (by have := HFI.out.few; omega))
    have m0 := HH1.out.obj.cells.1
    unfold mkC at hlo
    dsimp only at hlo
    clear hb1 hna
    go_wp2_with fail
    refine HAP.out.mono ?_
    rintro e w2 ⟨a2, cap2, rfl, hna2, hb2⟩
    have HB2 := Lib.hid (below_on' HB1.out hb2)
    have HX2 := Lib.hid (HX1.out.below hb2)
    have HNA := Lib.hid (hna2.keep (rows_box HX2.out (.int .i64 c.1) (.slice a2 c.2.length cap2)))
    obtain ⟨c0, c1, f0, f1⟩ := HX2.out.facts
    dsimp only at c0 c1
    obtain ⟨e0, e1, -, -⟩ := (HX2.out.set c.1 a2 c.2.length cap2).facts
    dsimp only at e0 e1
    unfold mkC
    dsimp only
    clear hb2 hna2 hlo
    go_wp2_with fail
    refine bodyPost_ret (v := .tuple #[mkC (c.1, a2, c.2.length, cap2), .bool true]) (by simp [results, Try.f18, go_sem, e0, e1, mkC]) rfl ?_
    exact HE.out _ _ _ HNA.out (below_box HB2.out (by rw [HNN.out]; omega) _ _)
theorem drop_nil (k : Int) (w : World) : Calls Try.prog 19 #[.pointer none, .int .i64 k] w fun e w' => e = .returned (.bool false) ∧ w' = w := by
  have HN := Lib.hid (has_nil k)
  go_enter Try.func19, Try.ntmps19
  go_wp2_with fail
  refine (HN.out _).mono ?_
  rintro e w1 ⟨rfl, rfl⟩
  go_wp2_with fail
  go_ret
  exact ⟨rfl, rfl⟩
def DropPost (w : World) (t b : Nat) (L : Rows) (k : Int) (e : Ending) (w' : World) : Prop :=
  e = .returned (.bool (look L k).isSome) ∧ IsTab w' t b (delL L k) ∧ Only (Two t b) w w'
theorem cnt_less {L : Rows} (h : Ord L) {k : Int} {c : Cl} (hk : look L k = some c) {g m : Nat} (hg : gof k = (g : Int)) (hm : cnt L g = m) (n : Nat) : updF (cntF L) g ((m : Int) - 1) n = cntF (delL L k) n := by
  have h1 := cnt_del h hk (n : Int)
  unfold cntF updF
  by_cases hn : n = g
  · subst hn
    rw [if_pos hg, hm] at h1
    rw [if_pos rfl]
    omega
  · rw [if_neg (fun e => hn (by rw [hg] at e; omega))] at h1
    rw [if_neg hn]
    dsimp only
    omega
set_option maxHeartbeats 1600000 in
set_option maxRecDepth 1000000 in
theorem drop_any {w : World} {t b : Nat} {L : Rows} (h : IsTab w t b L) {k : Int} (hk : fits k) : Calls Try.prog 19 #[.pointer (some ⟨t, 0, none⟩), .int .i64 k] w (DropPost w t b L k) := by
  have HHAS := Lib.hid (has_any h hk)
  have HOF := Lib.hid (fun w => grp.of_any k w hk)
  have HH := Lib.hid h
  have HK := Lib.hid hk
  have HP : Hid (DropPost w t b L k = fun e w' => e = .returned (.bool (look L k).isSome) ∧ IsTab w' t b (delL L k) ∧ Only (Two t b) w w') := Lib.hid rfl
  rw [HP.out]
  clear h hk
  cases hlk : look L k with
  | none =>
    rw [hlk] at HHAS
    have HE : Hid (∀ w', Below w.heap.size w w' → IsTab w' t b (delL L k) ∧ Only (Two t b) w w') := Lib.hid (fun w' hb => ⟨by rw [del_none hlk]; exact HH.out.below hb, .of_below hb⟩)
    clear hlk
    go_enter Try.func19, Try.ntmps19
    go_wp2_with fail
    refine HHAS.out.mono ?_
    rintro e w1 ⟨rfl, hb1⟩
    have HB1 := Lib.hid hb1
    clear hb1
    go_wp2_with fail
    go_ret
    exact ⟨rfl, HE.out _ HB1.out⟩
  | some c =>
    rw [hlk] at HHAS
    have HLK := Lib.hid hlk
    obtain ⟨gi, hgi, hg8⟩ : ∃ n : Nat, gof k = (n : Int) ∧ n < 8 := ⟨(gof k).toNat, by have := gof_in k; omega, by have := gof_in k; omega⟩
    obtain ⟨m, hm⟩ : ∃ m, cnt L gi = m := ⟨_, rfl⟩
    have HGI := Lib.hid hgi
    have HM0 := Lib.hid hm
    have hm40 : m ≤ 40 := by rw [← hm]; exact HH.out.good.full _
    have hm1 : 1 ≤ m := by have := cnt_del HH.out.good.ord hlk (gi : Int); rw [if_pos hgi, hm] at this; omega
    have hg8i : (gi : Int) < 8 := by omega
    rw [hgi] at HOF
    clear hgi hlk hm
    go_enter Try.func19, Try.ntmps19
    go_wp2_with fail
    refine HHAS.out.mono ?_
    rintro e w1 ⟨rfl, hb1⟩
    have HB1 := Lib.hid hb1
    have HH1 := Lib.hid (HH.out.below hb1)
    obtain ⟨w2, hdr, hm2, hg2, hs2⟩ := HH1.out.map.drop HH1.out.good HK.out HLK.out 0
    have HT2 := Lib.hid (HH1.out.obj.keep (w' := w2) (hg2.block t HH1.out.lt.1 (fun e => HH1.out.lt.2.2 (Option.some.inj e))))
    have HM2 := Lib.hid hm2
    have HG2 := Lib.hid hg2
    have m0 := HH1.out.obj.cells.1
    have hcm := HT2.out.cells.2.1 gi hg8
    unfold cntF at hcm
    rw [HM0.out] at hcm
    have hfm := HT2.out.cells.2.2 (1 + gi)
    have HE : Hid (∀ w3, w3 = (w2.setCell ⟨t, 1 + gi, none⟩ (.int .i64 ((m : Int) - 1))).drew → IsTab w3 t b (delL L k) ∧ Only (Two t b) w w3) := Lib.hid (fun w3 e => by
      have ho : Only (Two t b) w2 w3 := by rw [e]; exact ((Only.setCell w2 t (1 + gi) (.int .i64 ((m : Int) - 1))).mono (G := Two t b) (fun i hi => Or.inl hi)).on ⟨rfl, rfl, rfl, Nat.le_refl _, fun _ _ => rfl⟩
      have hr : Rows2 w2 w3 := .of_only (F := fun i => i = t) (by rw [e]; exact (Only.setCell w2 t (1 + gi) (.int .i64 ((m : Int) - 1))).on ⟨rfl, rfl, rfl, Nat.le_refl _, fun _ _ => rfl⟩) (fun g cur fr hg he => by rw [hg, HT2.out] at he; cases he)
      refine ⟨⟨HH1.out.good.del k, (by rw [e]; exact HT2.out.set hg8 _ : TabO w3 t b _).congr (fun n _ => cnt_less HH1.out.good.ord HLK.out HGI.out HM0.out n), HM2.out.keep (by rw [e]; exact Below.heap_setCell _ _ _ _ (fun e => HH1.out.lt.2.2 e.symm)) hr⟩, ?_⟩
      exact ((Only.of_below HB1.out).then (.of_grown HG2.out (fun i hi => by cases hi; exact .inr rfl))).then ho)
    clear hb1 hm2 hg2
    go_wp2_with fail
    go_region_with (refine (HOF.out _).mono ?_; rintro e w5 ⟨rfl, rfl⟩)
    have hwr : IntKind.i64.wrap ((m : Int) - 1) = (m : Int) - 1 := by rw [IntKind.wrap_i64]; omega
    rw [hwr]
    have HF := Lib.hid (HE.out _ rfl)
    clear hwr hcm hfm hdr m0
    go_wp2_with fail
    go_ret
    exact ⟨rfl, HF.out⟩
end Go.Proofs.Ytghpbhcnblninaa.tbl
