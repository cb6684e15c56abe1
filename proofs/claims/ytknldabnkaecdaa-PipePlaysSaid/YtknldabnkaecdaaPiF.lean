/- What Take and Put answer, and what they leave. -/
import Derived.Test.YtknldabnkaecdaaPiE
namespace Go.Proofs.Ytknldabnkaecdaa.pip
set_option linter.unusedSimpArgs false
set_option linter.unusedVariables false
open Go.RowKit
open Go.Conc (rcase scase heap_setChan size_setChan)
attribute [local go_sem ↓] Go.wp_at_zero Go.wp_at_succ
theorem Bx.otherM {w : World} {N : Nat} {x y : Int} {u : Value} (h : Bx w N x y u) {M : Nat} (hne : N ≠ M) (x' y' : Int) (u' : Value) : Bx (setM w M x' y' u') N x y u :=
  ((h.other (M := M) (o := 0) hne _).other (M := M) (o := 1) hne _).other (M := M) (o := 2) hne _
theorem Bx.chan {w : World} {N : Nat} {x y : Int} {u : Value} (h : Bx w N x y u) {c : Nat} (hne : N ≠ c) (cap : Nat) (buf : Array Value) (cl : Bool) (s r : Nat) (tm : Bool) : Bx (w.setChan c cap buf cl s r tm) N x y u :=
  ((Only.setChan w c cap buf cl s r tm).block N (lt_of_get h) hne).trans h
theorem IsPipe.setM {w : World} {p c room : Nat} {L : List Value} (h : IsPipe w p c room L) {N : Nat} (hp : p ≠ N) (hc : c ≠ N) (x y : Int) (u : Value) : IsPipe (setM w N x y u) p c room L :=
  h.keep ((only_setM (B := 0) N x y u).block p h.lt.1 hp) ((only_setM (B := 0) N x y u).block c h.lt.2 hc)
/-- What is made new may be turned. -/
theorem Only.new {F G : Nat → Prop} {a b c : World} (h : Only F a b) (k : Only G b c) (hG : ∀ k, G k → a.heap.size ≤ k) : Only F a c := h.trans k fun i hi hl => by have := hG i hi; omega
set_option maxHeartbeats 1600000 in
set_option maxRecDepth 1000000 in
theorem take_some {w : World} {p c room : Nat} {x y : Int} {a : Option Addr} {n k : Nat} {L : List Value} (h : IsPipe w p c room (.agg #[.int .i64 x, .int .i64 y, .slice a n k] :: L)) :
    Calls Try.prog 10 #[.pointer (some ⟨p, 0, none⟩)] w fun e w' => e = .returned (.tuple #[.agg #[.int .i64 x, .int .i64 y, .slice a n k], .int .i64 0]) ∧ IsPipe w' p c room L ∧ Only (· = c) w w' := by
  obtain ⟨N, hN⟩ : ∃ n, w.heap.size = n := ⟨_, rfl⟩
  have hlt := h.lt
  have hb0 := below_made w (.cells #[.int .i64 0, .int .i64 0, .slice none 0 0] 29)
  have hx0 := Bx.new w 0 0 (.slice none 0 0)
  have h0 := h.below hb0
  have hs0 : (w.alloc (.cells #[.int .i64 0, .int .i64 0, .slice none 0 0] 29)).heap.size = N + 1 := by rw [World.size_alloc, hN]
  obtain ⟨W0, hW0⟩ : ∃ W, w.alloc (.cells #[.int .i64 0, .int .i64 0, .slice none 0 0] 29) = W := ⟨_, rfl⟩
  rw [hW0] at hb0 hx0 h0 hs0
  obtain ⟨s, r, hc⟩ := h0.way
  have hp := h0.cell
  rw [hN] at hx0 hlt
  have hl := h.len
  have h1 := h0.turn (L' := L) (by simp at hl; omega) s (r + 1)
  have hx1 := hx0.chan (c := c) (by omega) room L.toArray false s (r + 1) false
  have ho1 := Only.setChan W0 c room L.toArray false s (r + 1) false
  have hs1 : (W0.setChan c room L.toArray false s (r + 1) false).heap.size = N + 1 := by rw [size_setChan, hs0]
  obtain ⟨W1, hW1⟩ : ∃ W, W0.setChan c room L.toArray false s (r + 1) false = W := ⟨_, rfl⟩
  rw [hW1] at h1 hx1 ho1 hs1
  have hb2 := below_made W1 (.cells #[.int .i64 0, .int .i64 0, .slice none 0 0] 29)
  have hy2 := Bx.new W1 0 0 (.slice none 0 0)
  have hx2 := hx1.below hb2
  have h2 := h1.below hb2
  obtain ⟨W2, hW2⟩ : ∃ W, W1.alloc (.cells #[.int .i64 0, .int .i64 0, .slice none 0 0] 29) = W := ⟨_, rfl⟩
  rw [hW2] at hb2 hy2 hx2 h2
  rw [hs1] at hy2
  have hy3 := hy2.set x y (.slice a n k)
  have hx3 := hx2.otherM (M := N + 1) (by omega) x y (.slice a n k)
  have hx4 := hx3.set x y (.slice a n k)
  have h4 := (h2.setM (N := N + 1) (by omega) (by omega) x y (.slice a n k)).setM (N := N) (by omega) (by omega) x y (.slice a n k)
  have HP := Lib.hid h4
  have HO : Hid (Only (· = c) w (setM (setM W2 (N + 1) x y (.slice a n k)) N x y (.slice a n k))) := Lib.hid
    ((((Only.of_below hb0).then ho1).on hb2).new (only_setM (B := 0) (N + 1) x y (.slice a n k)) (fun k hk => by rw [hk, hN]; omega) |>.new (only_setM (B := 0) N x y (.slice a n k)) (fun k hk => by rw [hk, hN]; exact Nat.le_refl _))
  obtain ⟨⟨d0, d1, d2⟩, g0⟩ := hy2.facts
  obtain ⟨⟨c0, c1, c2⟩, f0⟩ := hx2.facts
  obtain ⟨⟨r0, r1, r2⟩, -⟩ := hx4.facts
  unfold setM at r0 r1 r2
  have HR3 := Lib.hid (And.intro r0 (And.intro r1 r2))
  clear r0 r1 r2
  have HC := Lib.hid hc
  have hs1' := hs1
  clear hb0 hx0 h0 hc h1 hx1 ho1 hb2 hy2 hx2 h2 hy3 hx3 hx4 h4 hl h hlt hs0 hs1'
  go_enter Try.func10, Try.ntmps10
  go_upto_region 4 with fail
  refine region_to ?_
  change OpsTo _ _ _ [0, 1, 2] _ _
  have hz := zeroMsg W0
  refine .cons (sel_list (c := c) (cap := room) (s := s) (r := r) (tm := false) (closed := false) (z := zeroV) (v := .agg #[.int .i64 x, .int .i64 y, .slice a n k]) (L := L) rfl rfl (by simp [go_sem, execOp, rcase, Act.eval, hz]) HC.out ?_)
  rw [hW1]
  refine .cons (op_value (v := .int .i64 0) (w' := W1) rfl rfl (by simp [go_sem, execOp, Act.eval, Act.put, goInt]) ?_)
  refine .cons (op_value (v := .bool true) (w' := W1) rfl rfl (by simp [go_sem, execOp, Act.eval, Act.put, goInt]) ?_)
  refine .nil ?_
  clear hz hW1 hp
  simp only [Act.put]
  go_wp2_with fail
  obtain ⟨r0, r1, r2⟩ := HR3.out
  refine bodyPost_ret (v := .tuple #[.agg #[.int .i64 x, .int .i64 y, .slice a n k], .int .i64 0]) (by simp [results, Try.f10, go_sem, r0, r1, r2]) rfl ?_
  exact ⟨rfl, HP.out, HO.out⟩
set_option maxRecDepth 1000000 in
theorem put_nil (x y : Int) (u : Value) (w : World) : Calls Try.prog 13 #[.pointer none, .agg #[.int .i64 x, .int .i64 y, u]] w fun e w' => e = .returned (.int .i64 1) ∧ Below w.heap.size w w' := by
  go_enter Try.func13, Try.ntmps13
  go_wp2_with fail
  go_ret
  exact ⟨rfl, below_made _ _⟩
set_option maxHeartbeats 1600000 in
set_option maxRecDepth 1000000 in
theorem put_bad {w : World} (p : Nat) {v : Value} {m : Ms} (hv : MV w v m) (hl : m.2.2.length * 24 ≤ 140737488355328) (hm : mayB m = false) :
    Calls Try.prog 13 #[.pointer (some ⟨p, 0, none⟩), v] w fun e w' => e = .returned (.int .i64 2) ∧ Below w.heap.size w w' := by
  obtain ⟨a, k, rfl, hs⟩ := hv.parts
  obtain ⟨x, y, rs⟩ := m
  dsimp only at hs hl ⊢ hv
  obtain ⟨uu, hu⟩ : ∃ q, Value.slice a rs.length k = q := ⟨_, rfl⟩
  rw [hu] at hs ⊢
  have hb0 := below_made w (.cells #[.int .i64 x, .int .i64 y, uu] 29)
  have hx0 := Bx.new w x y uu
  obtain ⟨W0, hW0⟩ : ∃ W, w.alloc (.cells #[.int .i64 x, .int .i64 y, uu] 29) = W := ⟨_, rfl⟩
  rw [hW0] at hb0 hx0
  have hm0 : MV W0 (.agg #[.int .i64 x, .int .i64 y, uu]) (x, y, rs) := ⟨uu, rfl, hs.below hb0⟩
  have HM := Lib.hid (may_any W0 hm0 (by dsimp only; omega))
  rw [hm] at HM
  have HB0 := Lib.hid hb0
  obtain ⟨⟨c0, c1, c2⟩, f0⟩ := hx0.facts
  clear hv hs hl hm hb0 hx0 hm0 hu
  go_enter Try.func13, Try.ntmps13
  go_wp2_with (go_at_call 16; ((with_reducible refine HM.out.mono ?_); rintro e w' ⟨rfl, h1⟩; have HB1 := Lib.hid h1; clear h1))
  go_ret
  exact ⟨rfl, below_on' HB0.out HB1.out⟩
set_option maxHeartbeats 1600000 in
set_option maxRecDepth 1000000 in
theorem put_full {w : World} {p c room : Nat} {L : List Value} (h : IsPipe w p c room L) {v : Value} {m : Ms} (hv : MV w v m) (hl : m.2.2.length * 24 ≤ 140737488355328) (hm : mayB m = true) (hr : room ≤ L.length) :
    Calls Try.prog 13 #[.pointer (some ⟨p, 0, none⟩), v] w fun e w' => e = .returned (.int .i64 7) ∧ Below w.heap.size w w' := by
  obtain ⟨a, k, rfl, hs⟩ := hv.parts
  obtain ⟨x, y, rs⟩ := m
  dsimp only at hs hl ⊢ hv
  obtain ⟨uu, hu⟩ : ∃ q, Value.slice a rs.length k = q := ⟨_, rfl⟩
  rw [hu] at hs ⊢
  have hb0 := below_made w (.cells #[.int .i64 x, .int .i64 y, uu] 29)
  have hx0 := Bx.new w x y uu
  obtain ⟨W0, hW0⟩ : ∃ W, w.alloc (.cells #[.int .i64 x, .int .i64 y, uu] 29) = W := ⟨_, rfl⟩
  rw [hW0] at hb0 hx0
  have hm0 : MV W0 (.agg #[.int .i64 x, .int .i64 y, uu]) (x, y, rs) := ⟨uu, rfl, hs.below hb0⟩
  have HM := Lib.hid (may_any W0 hm0 (by dsimp only; omega))
  rw [hm] at HM
  have HA : Hid (∀ W, Below W0.heap.size W0 W → Calls Try.prog 29 #[.agg #[.int .i64 x, .int .i64 y, uu]] W fun e w' => ∃ v', e = .returned v' ∧ MV w' v' (x, y, rs) ∧ Below W.heap.size W w') := Lib.hid (fun W hW => apart_any W (hm0.below hW) (by exact hl))
  have HB0 := Lib.hid hb0
  have HX0 := Lib.hid hx0
  have HP := Lib.hid (h.below hb0)
  obtain ⟨⟨c0, c1, c2⟩, f0⟩ := hx0.facts
  have HR := Lib.hid hr
  clear hv hs hl hm hb0 hx0 hm0 hu h hr
  go_enter Try.func13, Try.ntmps13
  go_upto_region 7 with (first | (go_at_call 16; ((with_reducible refine HM.out.mono ?_); rintro e W1 ⟨rfl, h1⟩; have HB1 := Lib.hid h1; have hp1 := (HP.out.below h1).cell; obtain ⟨⟨d0, d1, d2⟩, g0⟩ := (HX0.out.below h1).facts; clear h1)) | (go_at_call 29; ((with_reducible refine (HA.out _ HB1.out).mono ?_); rintro e W2 ⟨v', rfl, h2, h3⟩; have HV := Lib.hid h2; have HB2 := Lib.hid h3; clear h2 h3)))
  have HP2 := Lib.hid ((HP.out.below HB1.out).below HB2.out)
  obtain ⟨s, r, hc⟩ := HP2.out.way
  have HC := Lib.hid hc
  clear hc
  refine region_to ?_
  change OpsTo _ _ _ [0, 1, 2] _ _
  have hz := zeroMsg W2
  refine .cons (op_sel_full (c := c) (cap := room) (buf := L.toArray) (s := s) (r := r) (tm := false) (z := zeroV) (v := v') rfl rfl (by simp [go_sem, execOp, scase, Act.eval, hz]) HC.out (by simpa using HR.out) ?_)
  refine .cons (op_value (v := .int .i64 (-1)) (w' := W2) rfl rfl (by simp [go_sem, execOp, Act.eval, Act.put, goInt]) ?_)
  refine .cons (op_value (v := .bool false) (w' := W2) rfl rfl (by simp [go_sem, execOp, Act.eval, Act.put, goInt]) ?_)
  refine .nil ?_
  clear hz
  simp only [Act.put]
  go_wp2_with fail
  go_ret
  exact ⟨rfl, below_on' (below_on' HB0.out HB1.out) HB2.out⟩
set_option maxHeartbeats 1600000 in
set_option maxRecDepth 1000000 in
theorem put_ok {w : World} {p c room : Nat} {L : List Value} (h : IsPipe w p c room L) {v : Value} {m : Ms} (hv : MV w v m) (hl : m.2.2.length * 24 ≤ 140737488355328) (hm : mayB m = true) (hr : L.length < room) :
    Calls Try.prog 13 #[.pointer (some ⟨p, 0, none⟩), v] w fun e w' => e = .returned (.int .i64 0) ∧ ∃ v', IsPipe w' p c room (L ++ [v']) ∧ MV w' v' m ∧ Only (· = c) w w' := by
  obtain ⟨a, k, rfl, hs⟩ := hv.parts
  obtain ⟨x, y, rs⟩ := m
  dsimp only at hs hl ⊢ hv
  obtain ⟨uu, hu⟩ : ∃ q, Value.slice a rs.length k = q := ⟨_, rfl⟩
  rw [hu] at hs ⊢
  have hb0 := below_made w (.cells #[.int .i64 x, .int .i64 y, uu] 29)
  have hx0 := Bx.new w x y uu
  obtain ⟨W0, hW0⟩ : ∃ W, w.alloc (.cells #[.int .i64 x, .int .i64 y, uu] 29) = W := ⟨_, rfl⟩
  rw [hW0] at hb0 hx0
  have hm0 : MV W0 (.agg #[.int .i64 x, .int .i64 y, uu]) (x, y, rs) := ⟨uu, rfl, hs.below hb0⟩
  have HM := Lib.hid (may_any W0 hm0 (by dsimp only; omega))
  rw [hm] at HM
  have HA : Hid (∀ W, Below W0.heap.size W0 W → Calls Try.prog 29 #[.agg #[.int .i64 x, .int .i64 y, uu]] W fun e w' => ∃ v', e = .returned v' ∧ MV w' v' (x, y, rs) ∧ Below W.heap.size W w') := Lib.hid (fun W hW => apart_any W (hm0.below hW) (by exact hl))
  have HB0 := Lib.hid hb0
  have HX0 := Lib.hid hx0
  have HP := Lib.hid (h.below hb0)
  obtain ⟨⟨c0, c1, c2⟩, f0⟩ := hx0.facts
  have HR := Lib.hid hr
  clear hv hs hl hm hb0 hx0 hm0 hu h hr
  go_enter Try.func13, Try.ntmps13
  go_upto_region 7 with (first | (go_at_call 16; ((with_reducible refine HM.out.mono ?_); rintro e W1 ⟨rfl, h1⟩; have HB1 := Lib.hid h1; have hp1 := (HP.out.below h1).cell; obtain ⟨⟨d0, d1, d2⟩, g0⟩ := (HX0.out.below h1).facts; clear h1)) | (go_at_call 29; ((with_reducible refine (HA.out _ HB1.out).mono ?_); rintro e W2 ⟨v', rfl, h2, h3⟩; have HV := Lib.hid h2; have HB2 := Lib.hid h3; clear h2 h3)))
  have HP2 := Lib.hid ((HP.out.below HB1.out).below HB2.out)
  obtain ⟨s, r, hc⟩ := HP2.out.way
  have HC := Lib.hid hc
  clear hc
  refine region_to ?_
  change OpsTo _ _ _ [0, 1, 2] _ _
  have hz := zeroMsg W2
  refine .cons (op_sel_sent (c := c) (cap := room) (buf := L.toArray) (s := s) (r := r) (tm := false) (z := zeroV) (v := v') rfl rfl (by simp [go_sem, execOp, scase, Act.eval, hz]) HC.out (by simpa using HR.out) ?_)
  have HF : Hid (IsPipe (W2.setChan c room (L.toArray.push v') false (s + 1) r false) p c room (L ++ [v']) ∧ MV (W2.setChan c room (L.toArray.push v') false (s + 1) r false) v' (x, y, rs) ∧ Only (· = c) w (W2.setChan c room (L.toArray.push v') false (s + 1) r false)) := Lib.hid ⟨by
      rw [push_list]
      exact HP2.out.turn (by simp; exact HR.out) (s + 1) r, HV.out.chan HC.out (Only.setChan _ _ _ _ _ _ _ _), (Only.of_below (below_on' (below_on' HB0.out HB1.out) HB2.out)).then (Only.setChan _ _ _ _ _ _ _ _)⟩
  obtain ⟨W3, hW3⟩ : ∃ W, W2.setChan c room (L.toArray.push v') false (s + 1) r false = W := ⟨_, rfl⟩
  rw [hW3] at HF ⊢
  clear hW3
  refine .cons (op_value (v := .int .i64 0) (w' := W3) rfl rfl (by simp [go_sem, execOp, Act.eval, Act.put, goInt]) ?_)
  refine .cons (op_value (v := .bool true) (w' := W3) rfl rfl (by simp [go_sem, execOp, Act.eval, Act.put, goInt]) ?_)
  refine .nil ?_
  clear hz
  simp only [Act.put]
  go_wp2_with fail
  go_ret
  exact ⟨rfl, v', HF.out⟩
end Go.Proofs.Ytknldabnkaecdaa.pip
