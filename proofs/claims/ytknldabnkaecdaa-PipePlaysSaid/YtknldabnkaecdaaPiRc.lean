/- What the reference's Head and Take answer, and what Take leaves. -/
import Derived.Test.YtknldabnkaecdaaPiRb
namespace Go.Proofs.Ytknldabnkaecdaa.pip
set_option linter.unusedSimpArgs false
set_option linter.unusedVariables false
open Go.RowKit
attribute [local go_sem ↓] Go.wp_at_zero Go.wp_at_succ
theorem IsRef.nil {w : World} {r : Nat} {room : Int} (h : IsRef w r room []) : ∃ a c, w.heap[r]? = some (.cells #[.slice a 0 c, .int .i64 room] 48 (0, 0)) := by
  obtain ⟨v, rows, h1, h2, h3, h4⟩ := h
  have : rows = [] := by simpa using h1
  subst this
  obtain ⟨a, c, rfl⟩ := h3.len
  exact ⟨a, c, h2⟩
theorem IsRef.cons {w : World} {r : Nat} {room : Int} {m : Ms} {ms : List Ms} (h : IsRef w r room (m :: ms)) :
    ∃ q rows a c, rows.map Mw.p = ms ∧ m = (q.x, q.y, q.rs) ∧ w.heap[r]? = some (.cells #[.slice a (rows.length + 1) c, .int .i64 room] 48 (0, 0)) ∧ Mr w (.slice a (rows.length + 1) c) (q :: rows) ∧ ∀ x ∈ q :: rows, Sr w (.slice x.a x.rs.length x.cap) x.rs := by
  obtain ⟨v, rows, h1, h2, h3, h4⟩ := h
  match rows, h1 with
  | q :: rows, h1 =>
    obtain ⟨a, c, rfl⟩ := h3.len
    simp only [List.map_cons, List.cons.injEq] at h1
    exact ⟨q, rows, a, c, h1.2, h1.1.symm, h2, h3, h4⟩
set_option maxHeartbeats 1600000 in
set_option maxRecDepth 1000000 in
theorem rhead_none {w : World} {r : Nat} {room : Int} (h : IsRef w r room []) : Calls Try.prog 19 #[.pointer (some ⟨r, 0, none⟩)] w fun e w' => e = .returned (.tuple #[zeroV, .int .i64 4]) ∧ Below w.heap.size w w' := by
  obtain ⟨al, cl, hr⟩ := h.nil
  obtain ⟨N, hN⟩ : ∃ n, w.heap.size = n := ⟨_, rfl⟩
  have hb0 := below_made w (.cells #[.int .i64 0, .int .i64 0, .slice none 0 0] 29)
  have hx0 := Bx.new w 0 0 (.slice none 0 0)
  have hr0 := (hb0.block r (lt_of_get hr)).trans hr
  obtain ⟨W0, hW0⟩ : ∃ W, w.alloc (.cells #[.int .i64 0, .int .i64 0, .slice none 0 0] 29) = W := ⟨_, rfl⟩
  rw [hW0] at hb0 hx0 hr0
  rw [hN] at hb0 hx0 ⊢
  have z0 : W0.cell? ⟨r, 0, none⟩ = some (.slice al 0 cl) := by rw [cell_of_row W0 r 0 _ _ _ hr0]; rfl
  have hx1 := hx0.set 0 0 (.slice none 0 0)
  have HB : Hid (Below N w (setM W0 N 0 0 (.slice none 0 0))) := Lib.hid (below_setM hb0 (Nat.le_refl _) _ _ _)
  obtain ⟨⟨c0, c1, c2⟩, f0⟩ := hx0.facts
  have HR3 := Lib.hid hx1.facts.1
  clear hb0 hx0 hx1 hr hr0 h
  go_enter Try.func19, Try.ntmps19
  go_wp2_with fail
  obtain ⟨r0, r1, r2⟩ := HR3.out
  unfold setM at r0 r1 r2
  refine bodyPost_ret (v := .tuple #[zeroV, .int .i64 4]) (by simp [results, Try.f19, go_sem, r0, r1, r2, zeroV]) rfl ?_
  exact ⟨rfl, HB.out⟩
set_option maxHeartbeats 1600000 in
set_option maxRecDepth 1000000 in
theorem rhead_some {w : World} {r : Nat} {room : Int} {m : Ms} {ms : List Ms} (h : IsRef w r room (m :: ms)) : Calls Try.prog 19 #[.pointer (some ⟨r, 0, none⟩)] w fun e w' => ∃ v, e = .returned (.tuple #[v, .int .i64 0]) ∧ MV w' v m ∧ Below w.heap.size w w' := by
  obtain ⟨q, rows, al, cl, _, rfl, hr, hrow, hsr⟩ := h.cons
  obtain ⟨N, hN⟩ : ∃ n, w.heap.size = n := ⟨_, rfl⟩
  have hb0 := below_made w (.cells #[.int .i64 0, .int .i64 0, .slice none 0 0] 29)
  have hx0 := Bx.new w 0 0 (.slice none 0 0)
  have hr0 := (hb0.block r (lt_of_get hr)).trans hr
  have hrow0 := hrow.keep (.of_below hb0)
  have hs0 := (hsr q (by simp)).below hb0
  obtain ⟨W0, hW0⟩ : ∃ W, w.alloc (.cells #[.int .i64 0, .int .i64 0, .slice none 0 0] 29) = W := ⟨_, rfl⟩
  rw [hW0] at hb0 hx0 hr0 hrow0 hs0
  rw [hN] at hb0 hx0 ⊢
  obtain ⟨g, o, c', e1, p0, p1, p2⟩ := hrow0.at0
  injection e1 with e1 _ _
  subst e1
  obtain ⟨n, hn⟩ : ∃ n, rows.length = n := ⟨_, rfl⟩
  obtain ⟨x, y, a, rs, k⟩ := q
  dsimp only at p0 p1 p2 hs0 ⊢
  have z0 : W0.cell? ⟨r, 0, none⟩ = some (.slice (some ⟨g, o, none⟩) (n + 1) cl) := by rw [cell_of_row W0 r 0 _ _ _ hr0, hn]; rfl
  have hx1 := hx0.set x y (.slice a rs.length k)
  have HB : Hid (Below N w (setM W0 N x y (.slice a rs.length k))) := Lib.hid (below_setM hb0 (Nat.le_refl _) _ _ _)
  have HS : Hid (Sr (setM W0 N x y (.slice a rs.length k)) (.slice a rs.length k) rs) := Lib.hid (hs0.msg (only_setM (B := 0) N _ _ _) (hs0.ne_msg hx0))
  obtain ⟨⟨c0, c1, c2⟩, f0⟩ := hx0.facts
  have HR3 := Lib.hid hx1.facts.1
  have hnz : ((n : Int) + 1 == 0) = false := by simp; omega
  have hnz2 : (((n + 1 : Nat) : Int) == 0) = false := by simp; omega
  have hn1 : (0 : Int) < (n : Int) + 1 := by omega
  clear hb0 hx0 hx1 hr hr0 h hrow hrow0 hsr hs0 hn
  go_enter Try.func19, Try.ntmps19
  go_wp2_with fail
  obtain ⟨r0, r1, r2⟩ := HR3.out
  unfold setM at r0 r1 r2
  refine bodyPost_ret (v := .tuple #[.agg #[.int .i64 x, .int .i64 y, .slice a rs.length k], .int .i64 0]) (by simp [results, Try.f19, go_sem, r0, r1, r2]) rfl ?_
  exact ⟨_, rfl, ⟨_, rfl, HS.out⟩, HB.out⟩
end Go.Proofs.Ytknldabnkaecdaa.pip
