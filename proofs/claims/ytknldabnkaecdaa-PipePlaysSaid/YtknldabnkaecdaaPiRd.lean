/- What the reference's Take answers, and what it leaves. -/
import Derived.Test.YtknldabnkaecdaaPiRc
namespace Go.Proofs.Ytknldabnkaecdaa.pip
set_option linter.unusedSimpArgs false
set_option linter.unusedVariables false
open Go.RowKit
attribute [local go_sem ↓] Go.wp_at_zero Go.wp_at_succ
set_option maxHeartbeats 1600000 in
set_option maxRecDepth 1000000 in
theorem rtake_none {w : World} {r : Nat} {room : Int} (h : IsRef w r room []) : Calls Try.prog 20 #[.pointer (some ⟨r, 0, none⟩)] w fun e w' => e = .returned (.tuple #[zeroV, .int .i64 4]) ∧ Below w.heap.size w w' := by
  obtain ⟨N, hN⟩ : ∃ n, w.heap.size = n := ⟨_, rfl⟩
  have hb0 := below_made w (.cells #[.int .i64 0, .int .i64 0, .slice none 0 0] 29)
  have hx0 := Bx.new w 0 0 (.slice none 0 0)
  have h0 := h.below hb0
  obtain ⟨W0, hW0⟩ : ∃ W, w.alloc (.cells #[.int .i64 0, .int .i64 0, .slice none 0 0] 29) = W := ⟨_, rfl⟩
  rw [hW0] at hb0 hx0 h0
  rw [hN] at hx0
  have HH := Lib.hid (rhead_none h0)
  unfold zeroV at HH
  have HB0 := Lib.hid hb0
  have HX0 := Lib.hid hx0
  clear hb0 hx0 h0 h
  go_enter Try.func20, Try.ntmps20
  go_upto_region 2 with (go_at_call 19; ((with_reducible refine HH.out.mono ?_); rintro e W1 ⟨rfl, h1⟩; have HB1 := Lib.hid h1; obtain ⟨M, hM⟩ : ∃ n, W1.heap.size = n := ⟨_, rfl⟩; have hy := Bx.new W1 0 0 (.slice none 0 0); have HYB := Lib.hid (below_made W1 (.cells #[.int .i64 0, .int .i64 0, .slice none 0 0] 29)); obtain ⟨W2, hW2⟩ : ∃ W, W1.alloc (.cells #[.int .i64 0, .int .i64 0, .slice none 0 0] 29) = W := ⟨_, rfl⟩; rw [hW2] at hy HYB; rw [hM] at hy; have HY := Lib.hid hy; obtain ⟨⟨d0, d1, d2⟩, g0⟩ := hy.facts; clear h1 hy))
  have hNM : N < M := by have h1 := lt_of_get HX0.out; have h2 := HB1.out.size; omega
  have hx3 : Bx (setM W2 M 0 0 (.slice none 0 0)) N 0 0 (.slice none 0 0) := ((HX0.out.below HB1.out).below HYB.out).otherM (by omega) _ _ _
  have hy3 : Bx (setM W2 M 0 0 (.slice none 0 0)) M 0 0 (.slice none 0 0) := HY.out.set _ _ _
  have hb3 : Below w.heap.size w (setM W2 M 0 0 (.slice none 0 0)) := below_setM (below_on' (below_on' HB0.out HB1.out) HYB.out) (by omega) _ _ _
  change Code.wp _ _ _ _ (setM W2 M 0 0 (.slice none 0 0))
  generalize setM W2 M 0 0 (.slice none 0 0) = W3 at hx3 hy3 hb3 ⊢
  obtain ⟨⟨c0, c1, c2⟩, f0⟩ := hx3.facts
  obtain ⟨⟨k0, k1, k2⟩, kf⟩ := hy3.facts
  have HR3 := Lib.hid (hx3.set 0 0 (.slice none 0 0)).facts.1
  have HBF : Hid (Below w.heap.size w (setM W3 N 0 0 (.slice none 0 0))) := Lib.hid (below_setM hb3 (by rw [hN]; exact Nat.le_refl _) _ _ _)
  clear hx3 hy3 hb3 d0 d1 d2 g0 hW2 hM hNM hW0
  go_wp2_with fail
  obtain ⟨r0, r1, r2⟩ := HR3.out
  unfold setM at r0 r1 r2
  refine bodyPost_ret (v := .tuple #[zeroV, .int .i64 4]) (by simp [results, Try.f20, go_sem, r0, r1, r2, zeroV]) rfl ?_
  exact ⟨rfl, HBF.out⟩
set_option maxHeartbeats 3200000 in
set_option maxRecDepth 1000000 in
theorem rtake_some {w : World} {r : Nat} {room : Int} {m : Ms} {ms : List Ms} (h : IsRef w r room (m :: ms)) : Calls Try.prog 20 #[.pointer (some ⟨r, 0, none⟩)] w fun e w' => ∃ v, e = .returned (.tuple #[v, .int .i64 0]) ∧ MV w' v m ∧ IsRef w' r room ms ∧ Only (· = r) w w' ∧ ∀ B, RefIn w r B → RefIn w' r B := by
  obtain ⟨N, hN⟩ : ∃ n, w.heap.size = n := ⟨_, rfl⟩
  have hrN : r < N := by rw [← hN]; exact h.lt
  obtain ⟨q, rows, al, cl, hms, hq, hr, hrow, hsr⟩ := h.cons
  obtain ⟨g, o, c', e1, -, -, -⟩ := hrow.at0
  injection e1 with e1 e1n e1b
  subst e1 e1b
  clear e1n
  obtain ⟨at1, hsl, hat, hblk⟩ := tail1 hrow
  obtain ⟨n, hn⟩ : ∃ n, rows.length = n := ⟨_, rfl⟩
  rw [hn] at hsl hr hat
  have HIN : Hid (∀ W, W.heap[r]? = some (.cells #[.slice at1 n (cl - 1), .int .i64 room] 48 (0, 0)) → ∀ B, RefIn w r B → RefIn W r B) := Lib.hid (fun W hw B hB ad n' c' q' t' fr' he hn' => by
    rw [hw] at he
    injection he with he
    injection he with he
    injection he with he
    injection he with he
    injection he with he _ _
    rw [hblk ad he]
    exact hB _ _ _ _ _ _ hr (Nat.succ_pos _))
  have HR := Lib.hid hr
  have HSL := Lib.hid hsl
  have HFIN : Hid (∀ W, Only (· = r) w W → W.heap[r]? = some (.cells #[.slice at1 n (cl - 1), .int .i64 room] 48 (0, 0)) → IsRef W r room ms) := Lib.hid (fun W ho hw =>
    ⟨_, rows, hms, hw, hat W (.of_only ho (fun g' cur fr hg he => by rw [hg, hr] at he; injection he with he; injection he with _ he; exact absurd he (by decide))), fun z hz => (hsr z (by simp [hz])).msg ho ((hsr z (by simp [hz])).ref hr)⟩)
  clear hms hq hr hrow hsr hat hn hsl hblk
  have hb0 := below_made w (.cells #[.int .i64 0, .int .i64 0, .slice none 0 0] 29)
  have hx0 := Bx.new w 0 0 (.slice none 0 0)
  have h0 := h.below hb0
  obtain ⟨W0, hW0⟩ : ∃ W, w.alloc (.cells #[.int .i64 0, .int .i64 0, .slice none 0 0] 29) = W := ⟨_, rfl⟩
  rw [hW0] at hb0 hx0 h0
  rw [hN] at hx0
  obtain ⟨x, y, rs⟩ := m
  have HH := Lib.hid (rhead_some h0)
  have HB0 := Lib.hid hb0
  have HX0 := Lib.hid hx0
  have HRN := Lib.hid hrN
  clear hb0 hx0 h0 h hrN
  go_enter Try.func20, Try.ntmps20
  go_upto_region 2 with (go_at_call 19; ((with_reducible refine HH.out.mono ?_); rintro e W1 ⟨v1, rfl, hv1, h1⟩; obtain ⟨a, k, rfl, hs1⟩ := hv1.parts; have HS1 := Lib.hid hs1; dsimp only; have HB1 := Lib.hid h1; obtain ⟨M, hM⟩ : ∃ n, W1.heap.size = n := ⟨_, rfl⟩; have hy := Bx.new W1 0 0 (.slice none 0 0); have HYB := Lib.hid (below_made W1 (.cells #[.int .i64 0, .int .i64 0, .slice none 0 0] 29)); obtain ⟨W2, hW2⟩ : ∃ W, W1.alloc (.cells #[.int .i64 0, .int .i64 0, .slice none 0 0] 29) = W := ⟨_, rfl⟩; rw [hW2] at hy HYB; rw [hM] at hy; have HY := Lib.hid hy; obtain ⟨⟨d0, d1, d2⟩, g0⟩ := hy.facts; clear h1 hy hv1 hs1))
  have hNM : N < M := by have h1 := lt_of_get HX0.out; have h2 := HB1.out.size; omega
  have hb13 : Below W1.heap.size W1 (setM W2 M x y (.slice a rs.length k)) := below_setM HYB.out (by omega) _ _ _
  have hx3 : Bx (setM W2 M x y (.slice a rs.length k)) N 0 0 (.slice none 0 0) := (HX0.out.below HB1.out).below hb13
  have hy3 : Bx (setM W2 M x y (.slice a rs.length k)) M x y (.slice a rs.length k) := HY.out.set _ _ _
  have hb3 : Below w.heap.size w (setM W2 M x y (.slice a rs.length k)) := below_on' (below_on' HB0.out HB1.out) hb13
  have hs3 : Sr (setM W2 M x y (.slice a rs.length k)) (.slice a rs.length k) rs := HS1.out.below hb13
  change Code.wp _ _ _ _ (setM W2 M x y (.slice a rs.length k))
  generalize setM W2 M x y (.slice a rs.length k) = W3 at hx3 hy3 hb3 hs3 ⊢
  have hr := (hb3.block r (lt_of_get HR.out)).trans HR.out
  have hsl := HSL.out
  have z0 : W3.cell? ⟨r, 0, none⟩ = some (.slice (some ⟨g, o, none⟩) (n + 1) cl) := by rw [cell_of_row W3 r 0 _ _ _ hr]; rfl
  have zf := frozen_of_row W3 r 0 _ _ hr
  have hon : Only (· = r) W3 (W3.setCell ⟨r, 0, none⟩ (.slice at1 n (cl - 1))) := Only.setCell W3 r 0 _
  have hr4 : (W3.setCell ⟨r, 0, none⟩ (.slice at1 n (cl - 1))).heap[r]? = some (.cells #[.slice at1 n (cl - 1), .int .i64 room] 48 (0, 0)) := by rw [heap_setCell_same W3 r 0 _ _ _ hr]; rfl
  have hx4 : Bx (W3.setCell ⟨r, 0, none⟩ (.slice at1 n (cl - 1))) N 0 0 (.slice none 0 0) := hx3.other (by have := HRN.out; omega) _
  have hy4 : Bx (W3.setCell ⟨r, 0, none⟩ (.slice at1 n (cl - 1))) M x y (.slice a rs.length k) := hy3.other (by have := HRN.out; omega) _
  have hs4 : Sr (W3.setCell ⟨r, 0, none⟩ (.slice at1 n (cl - 1))) (.slice a rs.length k) rs := hs3.msg hon (hs3.ref hr)
  have hb4 : Only (· = r) w (W3.setCell ⟨r, 0, none⟩ (.slice at1 n (cl - 1))) := (Only.of_below hb3).then hon
  have HX4 := Lib.hid hx4
  have HY4 := Lib.hid hy4
  have HR4 := Lib.hid hr4
  have HS4 := Lib.hid hs4
  have HB4 := Lib.hid hb4
  have hn1 : (1 : Int) ≤ (n : Int) + 1 := by omega
  clear hx3 hy3 hb3 hs3 hr hon hr4 hx4 hy4 hs4 hb4 d0 d1 d2 g0 hW2 hM hNM hb13 hW0
  go_upto_region 4 with fail
  generalize W3.setCell ⟨r, 0, none⟩ (.slice at1 n (cl - 1)) = W4 at HX4 HY4 HR4 HS4 HB4 ⊢
  obtain ⟨⟨c0, c1, c2⟩, f0⟩ := HX4.out.facts
  obtain ⟨⟨k0, k1, k2⟩, kf⟩ := HY4.out.facts
  have HR3 := Lib.hid (HX4.out.set x y (.slice a rs.length k)).facts.1
  have hwf : Below W4.heap.size W4 (setM W4 N x y (.slice a rs.length k)) → True := fun _ => trivial
  have HOF : Hid (Only (· = r) w (setM W4 N x y (.slice a rs.length k))) := Lib.hid (HB4.out.new (only_setM (B := 0) N _ _ _) (fun i hi => by rw [hi, hN]; exact Nat.le_refl _))
  have HSF : Hid (Sr (setM W4 N x y (.slice a rs.length k)) (.slice a rs.length k) rs) := Lib.hid (HS4.out.msg (only_setM (B := 0) N _ _ _) (HS4.out.ne_msg HX4.out))
  have HRF : Hid (∀ B, RefIn w r B → RefIn (setM W4 N x y (.slice a rs.length k)) r B) := Lib.hid (HIN.out _ (((only_setM (B := 0) N _ _ _).block r (lt_of_get HR4.out) (by have := HRN.out; omega)).trans HR4.out))
  have HIF : Hid (IsRef (setM W4 N x y (.slice a rs.length k)) r room ms) := Lib.hid (HFIN.out _ HOF.out (((only_setM (B := 0) N _ _ _).block r (lt_of_get HR4.out) (by have := HRN.out; omega)).trans HR4.out))
  clear z0 zf hsl hwf
  go_wp2_with fail
  obtain ⟨r0, r1, r2⟩ := HR3.out
  unfold setM at r0 r1 r2
  refine bodyPost_ret (v := .tuple #[.agg #[.int .i64 x, .int .i64 y, .slice a rs.length k], .int .i64 0]) (by simp [results, Try.f20, go_sem, r0, r1, r2]) rfl ?_
  exact ⟨_, rfl, ⟨_, rfl, HSF.out⟩, HIF.out, HOF.out, HRF.out⟩
end Go.Proofs.Ytknldabnkaecdaa.pip
