/- What the reference's Same answers of two that are the same; Bytes and Read are the reference's. -/
import Derived.Test.YtknldabnkaecdaaPiJ
import Derived.Laws.StructEq
import Derived.Deep.RegionHeld3
namespace Go.Proofs.Ytknldabnkaecdaa.pip
set_option linter.unusedSimpArgs false
set_option linter.unusedVariables false
open Go.RowKit
attribute [local go_sem ↓] Go.wp_at_zero Go.wp_at_succ
open Go.Proofs.Ytknldabnkaecdaa.byt (fits intV txt flat bl numsO nums str_ne)
set_option maxHeartbeats 3200000 in
set_option maxRecDepth 1000000 in
theorem same_same {v u : Value} {m : Ms} (w : World) (h : MV w v m) (h' : MV w u m) (hl : m.2.2.length ≤ 9223372036854775806) :
    Calls Try.prog 21 #[v, u] w fun e w' => e = .returned (.bool true) ∧ Below w.heap.size w w' := by
  obtain ⟨a, c, rfl, hs⟩ := h.parts
  obtain ⟨a', c', rfl, hs'⟩ := h'.parts
  obtain ⟨x, y, rs⟩ := m
  dsimp only at hs hs' hl ⊢
  obtain ⟨n, hn⟩ : ∃ n, rs.length = n := ⟨_, rfl⟩
  have hb0 := below_made w (.cells #[.int .i64 x, .int .i64 y, .slice a rs.length c] 29)
  have hx0 := Bx.new w x y (.slice a rs.length c)
  rw [hn] at hb0 hx0 hs hs' hl ⊢
  obtain ⟨N, hN⟩ : ∃ n, w.heap.size = n := ⟨_, rfl⟩
  rw [hN] at hx0
  have hsz0 : (w.alloc (.cells #[.int .i64 x, .int .i64 y, .slice a n c] 29)).heap.size = N + 1 := by rw [World.size_alloc, hN]
  obtain ⟨W0, hW0⟩ : ∃ W, w.alloc (.cells #[.int .i64 x, .int .i64 y, .slice a n c] 29) = W := ⟨_, rfl⟩
  rw [hW0] at hx0 hb0 hsz0
  have hb1 := below_made W0 (.cells #[.int .i64 x, .int .i64 y, .slice a' n c'] 29)
  have hy1 := Bx.new W0 x y (.slice a' n c')
  obtain ⟨W1, hW1⟩ : ∃ W, W0.alloc (.cells #[.int .i64 x, .int .i64 y, .slice a' n c'] 29) = W := ⟨_, rfl⟩
  rw [hW1] at hb1 hy1
  rw [hsz0] at hy1
  have hx1 := hx0.below hb1
  have HB1 := Lib.hid (below_on' hb0 hb1)
  have HS := Lib.hid (hs.below (below_on' hb0 hb1))
  have HS' := Lib.hid (hs'.below (below_on' hb0 hb1))
  have HX := Lib.hid hx1
  have HY := Lib.hid hy1
  have HN := Lib.hid hn
  have hn1 : (n : Int) ≤ 9223372036854775806 := by omega
  obtain ⟨⟨c0, c1, c2⟩, cf⟩ := hx1.facts
  obtain ⟨⟨d0, d1, d2⟩, df⟩ := hy1.facts
  clear h h' hs hs' hb0 hb1 hx0 hy1 hx1 hn hl
  go_enter Try.func21, Try.ntmps21
  go_wp2_with fail
  go_loopg [5] n (fun g v5 wr => ∃ k : Nat, k + g = n ∧ v5 = .int .i64 k ∧ Hid (Below W1.heap.size W1 wr))
  case atStart => exact ⟨0, by omega, rfl, Lib.hid (Below.refl _ _)⟩
  case round =>
    clear c0 c1 c2 cf d0 d1 d2 df hW0 hW1 hsz0
    obtain ⟨k, hkg, rfl, HB⟩ := hrel
    obtain ⟨⟨-, -, c2⟩, -⟩ := (HX.out.below HB.out).facts
    obtain ⟨⟨-, -, d2⟩, -⟩ := (HY.out.below HB.out).facts
    cases gk with
    | zero =>
      have hkz : ¬ ((k : Int) < (n : Int)) := by omega
      go_wp2_with fail
      go_ret
      exact ⟨rfl, by first | exact below_on' HB1.out HB.out | (rw [← hN]; exact below_on' HB1.out HB.out)⟩
    | succ g =>
      have hkz : (k : Int) < (n : Int) := by omega
      have hk0 : (0 : Int) ≤ (k : Int) := by omega
      obtain ⟨r, hr⟩ := rec_at (rs := rs) (k := k) (by rw [HN.out]; omega)
      have hsr := HS.out.below HB.out
      have hsr' := HS'.out.below HB.out
      rw [← HN.out] at hsr hsr'
      obtain ⟨gb, o, q1, e1, e2, p1, p2, p3⟩ := hsr.at hr
      obtain ⟨gb', o', q2, e3, e4, q3, q4, q5⟩ := hsr'.at hr
      injection e1 with e1a e1n e1b
      subst e1a e1b
      injection e3 with e3a e3n e3b
      subst e3a e3b
      obtain ⟨r1, r2, r3⟩ := r
      dsimp only at p1 p2 p3 q3 q4 q5
      have HKG := Lib.hid hkg
      clear e1n e3n e2 e4 hr hsr hsr' hkg
      go_wp2_with fail
      go_quiet (fail)
      go_wp2_with fail
      go_roundg g
      case measure => omega
      case rel => exact ⟨k + 1, by have := HKG.out; omega, by go_num, Lib.hid (below_on' HB.out (below_drewN _ _))⟩
end Go.Proofs.Ytknldabnkaecdaa.pip
