/- A window that is full: what is handed on. -/
import Derived.Test.YtamdbfkofdjmlaaOqH
namespace Go.Proofs.Ytamdbfkofdjmlaa.opr
set_option linter.unusedSimpArgs false
set_option linter.unusedVariables false
open Go.RowKit
attribute [local go_sem ↓] Go.wp_at_zero Go.wp_at_succ
open Go.Proofs.Ytamdbfkofdjmlaa.tbl (Only lt_of_get IsTab Two putO delL TabO Rows2 mkC OwnI GetOwn Sl Box2)
open Go.Proofs.Ytamdbfkofdjmlaa.grp (below_on' below_made fits intV)
theorem OwnI.sl {w : World} {B n : Nat} {a : Option Addr} {c : Nat} {l : List Int} (h : OwnI w B (.slice a n c) l) : n = l.length ∧ Sl w a c l := by
  obtain ⟨-, a', c', e, hna⟩ := tbl.NR.own h
  injection e with e1 e2 e3
  subst e1 e3
  exact ⟨e2, hna.sl⟩
theorem one_at {W w' : World} (hw : Below W.heap.size W w') (p k v : Int) : Calls Try.prog 36 #[.int .i64 p, .int .i64 k, .int .i64 v] w' fun e w'' => ∃ v', e = .returned v' ∧ Own w'' W.heap.size v' [(p, k, v)] ∧ Below W.heap.size W w'' :=
  (one_any p k v w').mono fun e w'' ⟨v', e1, e2, e3⟩ => ⟨v', e1, e2.base hw.size, below_on' hw e3⟩
theorem app_box {w : World} {B N5 : Nat} {v : Value} {l : List Int} {c : tbl.Cv} (h : OwnI w B v l) (hb : Box2 w N5 c) (x : Int) (hl : l.length ≤ 1000) (hB : B ≤ w.heap.size) :
    ∃ v' w', (∀ ty, (Builtin.append_ #[67, 67] ty #[v, .slice (some ⟨w.heap.size, 0, none⟩) 1 1]).run Try.prog (w.alloc (.cells #[.int .i64 x] 2)) = .ok v' w') ∧ OwnI w' B v' (l ++ [x]) ∧ Below B w w' ∧ Box2 w' N5 c := by
  have hbm := below_made w (.cells #[.int .i64 x] 2)
  have hs : Sl (w.alloc (.cells #[.int .i64 x] 2)) (some ⟨w.heap.size, 0, none⟩) 1 [x] := ⟨(fun e => by cases e), fun _ => ⟨w.heap.size, 0, rfl, by simp, fun i hi => by
    rw [cell_of_row _ _ _ _ _ _ (Go.heap_alloc_new w _)]
    have : i = 0 := by simpa using hi
    subst this
    rfl⟩⟩
  have ho : OwnI (w.alloc (.cells #[.int .i64 x] 2)) B v l := h.keep (fun g _ hg => hbm.block g hg)
  obtain ⟨v', w', r1, o1, g1⟩ := tbl.app_run ho hs (by simp; omega) (Nat.le_trans hB hbm.size) 0
  have hbx := hb.below hbm
  refine ⟨v', w', fun _ => r1, ?_, (hbm.mono hB).grown g1 (Nat.le_trans hB hbm.size) (fun j hj => (ho.lt j hj).1), ?_⟩
  · unfold OwnI
    rw [List.length_append]
    exact o1
  · refine (g1.block N5 (lt_of_get hbx) (fun e => ?_)).trans hbx
    rcases ho.2 with ⟨e1, _⟩ | ⟨g, cap, cur, e1, e2, e3, _⟩
    · rw [e1] at e; cases e
    · rw [e1] at e
      have : N5 = g := by simpa [Value.ownBlock] using e
      subst this
      unfold Box2 at hbx
      rw [hbx] at e3
      cases e3
set_option maxHeartbeats 12800000 in
set_option maxRecDepth 1000000 in
/-- A key of which there are enough numbers: it is dropped, and their sum comes of it. -/
theorem gat_full {w : World} {t b m : Nat} {bd : Array Value} {L : tbl.Rows} (h : GatI t b m bd L w) (r : Rc) (hk : fits r.2.1) {x : Int} {ns : List Int} {n : Nat} (hn : ns.length = n) (hl : n ≤ 16) (hlk : tbl.look L r.2.1 = some (x, ns)) (hm : m ≤ n + 1) :
    Calls Try.prog 61 (#[rcA r] ++ bd) w fun e w' => ∃ v', e = .returned v' ∧ Own w' w.heap.size v' [(r.1, r.2.1, sumI (ns ++ [r.2.2]))] ∧ GatI t b m bd (delL L r.2.1) w' ∧ Only (Two t b) w w' := by
  obtain ⟨b1, b2, rfl, h1, h2⟩ := id h.ex
  have hb0 := below_made w (.cells #[.int .i64 r.1, .int .i64 r.2.1, .int .i64 r.2.2] 32)
  obtain ⟨q0, q1, q2⟩ := rec_box w r
  have z1 := (h1.below hb0).cell
  have hg := tbl.get_own (h.tab.below hb0) hk
  unfold GetOwn at hg
  rw [hlk] at hg
  dsimp only at hg
  rw [hn] at hg
  have HG := Lib.hid hg
  have HB0 := Lib.hid hb0
  have HT0 := Lib.hid h.tab
  have HNN := Lib.hid hn
  have HK := Lib.hid hk
  have H12 := Lib.hid (And.intro h1 h2)
  have hm' : ¬ ((n : Int) + 1 < (m : Int)) := by omega
  have hl' : (n : Int) ≤ 16 := by omega
  obtain ⟨r1, r2, r3⟩ := r
  unfold rcA
  dsimp only at HG HB0 q0 q1 q2 z1 HK ⊢
  obtain ⟨z, hz⟩ : ∃ z, sumI (ns ++ [r3]) = z := ⟨_, rfl⟩
  rw [hz]
  have HZ := Lib.hid hz
  clear h h1 h2 hb0 hk hlk hg hn hm hl hz
  go_enter Try.func61, Try.ntmps61
  go_wp2_with fail
  (with_reducible refine HG.out.mono ?_)
  rintro e w1 ⟨⟨a, cap, rfl, hown⟩, hb1⟩
  have hbm := below_made w1 (.cells #[.int .i64 x, .slice a n cap] 69)
  have hbw := below_on' hb1 hbm
  have hbw0 := below_on' HB0.out hbw
  have hown1 : OwnI (w1.alloc (.cells #[.int .i64 x, .slice a n cap] 69)) (w.alloc (.cells #[.int .i64 r1, .int .i64 r2, .int .i64 r3] 32)).heap.size (.slice a n cap) ns := hown.keep (fun g _ hg => hbm.block g hg)
  obtain ⟨v3, w3, hr3, ho3, hb3, hx3⟩ := app_box hown1 (Box2.new w1 (x, a, n, cap)) r3 (by have := HNN.out; omega) hbw.size
  have hsz3 : (ns ++ [r3]).length = n + 1 := by rw [List.length_append, HNN.out]; rfl
  have ho3' := id ho3
  unfold OwnI at ho3'
  rw [hsz3] at ho3'
  obtain ⟨-, a3, c3, rfl, hna3⟩ := tbl.NR.own ho3'
  simp only [hsz3, World.size_alloc] at hr3
  rw [hsz3] at ho3
  have hb30 : Below w.heap.size w w3 := hbw0.trans (hb3.mono (by simp))
  have hN5 : w.heap.size + 1 ≤ w1.heap.size := by have := hb1.size; rwa [World.size_alloc] at this
  have hb4 : Below w.heap.size w (w3.setCell ⟨w1.heap.size, 1, none⟩ (.slice a3 (n + 1) c3)) := hb30.setCell (p := ⟨w1.heap.size, 1, none⟩) (by show w.heap.size ≤ w1.heap.size; omega) _
  have hx4 : Box2 (w3.setCell ⟨w1.heap.size, 1, none⟩ (.slice a3 (n + 1) c3)) w1.heap.size (x, a3, n + 1, c3) := by
    unfold Box2 at hx3 ⊢
    rw [heap_setCell_same w3 w1.heap.size 1 _ _ _ hx3]; rfl
  have ho4 : OwnI (w3.setCell ⟨w1.heap.size, 1, none⟩ (.slice a3 (n + 1) c3)) (w.heap.size + 1) (.slice a3 (n + 1) c3) (ns ++ [r3]) := by
    have h0 := ho3
    rw [World.size_alloc] at h0
    rcases h0.2 with ⟨e1, e2⟩ | ⟨g, cp, cur, e1, e2, e3, e4⟩
    · exact ⟨h0.1, .inl ⟨e1, e2⟩⟩
    · refine ⟨h0.1, .inr ⟨g, cp, cur, e1, e2, ?_, e4⟩⟩
      rw [Below.heap_setCell _ _ _ _ (fun e => by
        have e' : g = w1.heap.size := e
        unfold Box2 at hx3
        rw [e', hx3] at e3
        cases e3)]
      exact e3
  have HX4 := Lib.hid hx4
  have HO4 := Lib.hid ho4
  have HB4 := Lib.hid hb4
  have HR3 := Lib.hid hr3
  have HT4 := Lib.hid (HT0.out.below hb4)
  have hr4 : (w3.setCell ⟨w1.heap.size, 1, none⟩ (.slice a3 (n + 1) c3)).heap[w.heap.size]? = some (.cells #[.int .i64 r1, .int .i64 r2, .int .i64 r3] 32 (0, 0)) := by
    rw [Below.heap_setCell _ _ _ _ (show w.heap.size ≠ w1.heap.size by omega), hb3.block _ (by simp), hbm.block _ (by omega), hb1.block _ (by simp)]
    exact Go.heap_alloc_new w _
  have HR4 := Lib.hid hr4
  have HDROP := Lib.hid (tbl.drop_any HT4.out HK.out)
  unfold tbl.DropPost at HDROP
  obtain ⟨f1, f2, f3, f4⟩ := (Box2.new w1 (x, a, n, cap)).facts
  obtain ⟨f5, f6, f7, f8⟩ := hx3.facts
  obtain ⟨f9, f10, -, -⟩ := hx4.facts
  have f11 : (w1.alloc (.cells #[.int .i64 x, .slice a n cap] 69)).cell? ⟨w.heap.size, 2, none⟩ = some (.int .i64 r3) := by
    rw [cell_of_row _ _ _ _ _ _ ((hbw.block w.heap.size (by simp)).trans (Go.heap_alloc_new w _))]; rfl
  have f12 := (H12.out.2.below hb4).cell
  have f13 := (H12.out.1.below hb4).cell
  have f14 : (w3.setCell ⟨w1.heap.size, 1, none⟩ (.slice a3 (n + 1) c3)).cell? ⟨w.heap.size, 1, none⟩ = some (.int .i64 r2) := by rw [cell_of_row _ _ _ _ _ _ hr4]; rfl
  dsimp only at f1 f2 f5 f6 f9 f10
  have HWS : Hid (w.heap.size < (w3.setCell ⟨w1.heap.size, 1, none⟩ (.slice a3 (n + 1) c3)).heap.size) := Lib.hid (lt_of_get hr4)
  unfold mkC
  dsimp only
  clear hb1 hbm hbw hbw0 hown hown1 hr3 ho3 ho3' hb3 hx3 hsz3 hna3 hb30 hN5 hb4 hx4 ho4 hr4 HG
  go_wp2_with (at_builtin; refine wpList_appR rfl (.tmp 25) (.tmp 28) 67 rfl rfl rfl (HR3.out _) ?_)
  (with_reducible refine HDROP.out.mono ?_)
  rintro e w5 ⟨rfl, ht5, ho5⟩
  have hon5 : Only (Two t b) w w5 := (Only.of_below HB4.out).then ho5
  have hr5 : w5.heap[w.heap.size]? = some (.cells #[.int .i64 r1, .int .i64 r2, .int .i64 r3] 32 (0, 0)) := only_two HT4.out ho5 HR4.out (fun cur fr e => by cases e) (fun es ck e => by cases e)
  have hx5 : Box2 w5 w1.heap.size (x, a3, n + 1, c3) := only_two HT4.out ho5 HX4.out (fun cur fr e => by cases e) (fun es ck e => by cases e)
  have hs5 : Sl w5 a3 c3 (ns ++ [r3]) := (OwnI.sl (n := n + 1) (HO4.out.keep (fun g hg hlt => ho5.block g hlt (fun hf => by
    have h1 := HT0.out.lt
    rcases hf with e | e
    · rw [e] at hg; omega
    · rw [e] at hg; omega)))).2
  have hln : (ns ++ [r3]).length = n + 1 := by rw [List.length_append, HNN.out]; rfl
  have HSUM := Lib.hid (fun w' (hw : Below w5.heap.size w5 w') => (sum_any (hs5.below hw) hln (by omega)).mono (fun e w'' h => (show e = .returned (.int .i64 (sumI (ns ++ [r3]))) ∧ Below w5.heap.size w5 w'' from ⟨h.1, h.2 ▸ hw⟩)))
  have HCEL := Lib.hid (fun w' (hw : Below w5.heap.size w5 w') => (show w'.cell? ⟨w.heap.size, 0, none⟩ = some (.int .i64 r1) ∧ w'.cell? ⟨w.heap.size, 1, none⟩ = some (.int .i64 r2) ∧ w'.cell? ⟨w1.heap.size, 1, none⟩ = some (.slice a3 (n + 1) c3) from by
    have e1 := (hw.block w.heap.size (lt_of_get hr5)).trans hr5
    exact ⟨by rw [cell_of_row _ _ _ _ _ _ e1]; rfl, by rw [cell_of_row _ _ _ _ _ _ e1]; rfl, (hx5.below hw).facts.2.1⟩))
  rw [HZ.out] at HSUM
  have HONE := Lib.hid (fun w' (hw : Below w5.heap.size w5 w') => one_at hw r1 r2 z)
  have g1 : One w5 b1 33 (.pointer (some ⟨t, 0, none⟩)) := only_two HT0.out hon5 H12.out.1 (fun cur fr e => by cases e) (fun es ck e => by cases e)
  have g2 : One w5 b2 3 (.int .i64 (m : Int)) := only_two HT0.out hon5 H12.out.2 (fun cur fr e => by cases e) (fun es ck e => by cases e)
  have HGI : Hid (∀ w', Below w5.heap.size w5 w' → GatI t b m #[.pointer (some ⟨b1, 0, none⟩), .pointer (some ⟨b2, 0, none⟩)] (delL L r2) w') := Lib.hid fun w' hw =>
    ⟨ht5.below hw, b1, b2, rfl, g1.below hw, g2.below hw⟩
  have HR : Hid (Below w5.heap.size w5 w5) := Lib.hid (Below.refl _ _)
  have HON5 := Lib.hid hon5
  obtain ⟨q5, hq5⟩ : ∃ q, (tbl.look L r2).isSome = q := ⟨_, rfl⟩
  rw [hq5]
  clear g1 g2 ht5 ho5 hon5 hr5 hx5 hs5 hln hq5 f1 f2 f3 f4 f5 f6 f7 f8 f9 f10 f11 f12 f13 f14
  go_wp2_with fail
  go_region_held3 (fun w' => w'.cell? ⟨w.heap.size, 0, none⟩ = some (.int .i64 r1) ∧ w'.cell? ⟨w.heap.size, 1, none⟩ = some (.int .i64 r2) ∧ w'.cell? ⟨w1.heap.size, 1, none⟩ = some (.slice a3 (n + 1) c3)) (first | exact HCEL.out _ HR.out.drew | exact HCEL.out _ b7 | exact HCEL.out _ b6) (first
    | (go_at_call 63; with_reducible refine Calls.mono (HSUM.out _ HR.out.drew) ?_; rintro e w6 ⟨rfl, b6⟩)
    | (go_at_call 36; with_reducible refine Calls.mono (HONE.out _ b6) ?_; rintro e w7 ⟨v7, rfl, o7, b7⟩))
  all_goals
    obtain ⟨a7, c7, rfl⟩ := o7.len
    have HF := Lib.hid (show ∃ v', Ending.returned (.slice a7 [(r1, r2, z)].length c7) = .returned v' ∧ Own w7 w.heap.size v' [(r1, r2, z)] ∧ GatI t b m #[.pointer (some ⟨b1, 0, none⟩), .pointer (some ⟨b2, 0, none⟩)] (delL L r2) w7 ∧ Only (Two t b) w w7 from
      ⟨_, rfl, o7.base HON5.out.size, HGI.out _ b7, HON5.out.on b7⟩)
    clear o7 b7
    go_wp2_with fail
    go_ret
    exact HF.out
end Go.Proofs.Ytamdbfkofdjmlaa.opr
