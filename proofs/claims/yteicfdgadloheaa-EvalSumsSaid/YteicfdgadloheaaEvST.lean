/- Plain facts: sums, products, quotients of numbers that are told. No program's run in this file. What the sums' closures answer. -/
import Derived.Test.YteicfdgadloheaaEvI
section
namespace Go.Proofs.Yteicfdgadloheaa.exp
set_option linter.unusedSimpArgs false
set_option linter.unusedVariables false

/-- An expression of numbers and signs of numbers: how deep, what it comes to. -/
structure Nu (x : Ex) (d : Nat) (k : Int) : Prop where
  fit : Fit x
  ty : x.ty = 1
  dep : x.dep ≤ d
  size : x.size + 1 ≤ 2 ^ d
  val : x.come envZ = .num k
def opN (o : Nat) (a b : Int) : Int := (opO o a b).n
theorem nu_leaf {a : Int} (h : 0 ≤ a) : Nu (nm a) 1 a := by
  refine ⟨(fit_eq _).2 ⟨(fitsB_iff _ _ _).2 ⟨h, fun _ => rfl, .inl ⟨Nat.le_refl _, (show (1 : Nat) ≤ 4 by decide), rfl⟩⟩, fun y hy => by cases hy⟩, ?_, ?_, ?_, ?_⟩
  · rw [ty_eq]; show tyRow 1 (tys []) = 1; rw [tys_nil]; decide
  · show (Ex.mk 1 a []).dep ≤ 1; rw [dep_mk, deps_nil]; omega
  · show (Ex.mk 1 a []).size + 1 ≤ 2 ^ 1; rw [size_mk, sizes_nil]; omega
  · rw [come_eq]; rfl
theorem opO_num {o : Nat} (ho : 7 ≤ o ∧ o ≤ 11) (a b : Int) : opO o a b = .num (opN o a b) := by
  rcases (show o = 7 ∨ o = 8 ∨ o = 9 ∨ o = 10 ∨ o = 11 by omega) with rfl | rfl | rfl | rfl | rfl <;> rfl
theorem nu_two {o d : Nat} {x y : Ex} {k l : Int} (ho : 7 ≤ o ∧ o ≤ 11) (hx : Nu x d k) (hy : Nu y d l) : Nu (.mk o 0 [x, y]) (d + 1) (opN o k l) := by
  refine ⟨(fit_eq _).2 ⟨(fitsB_iff _ _ _).2 ⟨Int.le_refl _, fun h => absurd h (show ¬ (0 : Int) < 0 by decide), .inr (.inr (.inr ⟨ho.1, Nat.le_trans ho.2 (by decide), rfl⟩))⟩, fun z hz => ?_⟩, ?_, ?_, ?_, ?_⟩
  · rcases List.mem_cons.1 hz with rfl | hz
    · exact hx.fit
    · rcases List.mem_cons.1 hz with rfl | hz
      · exact hy.fit
      · cases hz
  · rw [ty_eq]
    show tyRow o (tys [x, y]) = 1
    rw [tys_cons, tys_cons, tys_nil, hx.ty, hy.ty]
    rcases (show o = 7 ∨ o = 8 ∨ o = 9 ∨ o = 10 ∨ o = 11 by omega) with rfl | rfl | rfl | rfl | rfl <;> decide
  · rw [dep_mk, deps_cons, deps_cons, deps_nil]; have := hx.dep; have := hy.dep; omega
  · rw [size_mk, sizes_cons, sizes_cons, sizes_nil, Nat.pow_succ]; have := hx.size; have := hy.size; omega
  · rw [come_eq]
    show doO envZ o 0 (comes envZ [x, y]) = _
    rw [comes_cons, comes_cons, comes_nil, hx.val, hy.val, ← opO_num ho]
    rcases (show o = 7 ∨ o = 8 ∨ o = 9 ∨ o = 10 ∨ o = 11 by omega) with rfl | rfl | rfl | rfl | rfl <;> rfl
theorem Nu.kind {x : Ex} {d : Nat} {k : Int} (h : Nu x d k) (hd : d ≤ 16) : kindO x true = (1, 0) := by
  have hg : good FM x 1 = true := (good_FM x 1).2 ⟨by have := h.dep; omega, h.fit⟩
  unfold kindO
  rw [if_neg (by rw [hg]; simp), if_neg (by simp), if_neg (by rw [h.ty]; decide), h.ty]
theorem Nu.small {x : Ex} {d : Nat} {k : Int} (h : Nu x d k) (hd : d ≤ 16) : x.size ≤ 1000000 := by
  have := h.size
  have : 2 ^ d ≤ 2 ^ 16 := Nat.pow_le_pow_right (by decide) hd
  omega
theorem Nu.int {x : Ex} {d : Nat} {k : Int} (h : Nu x d k) (hd : d ≤ 16) : intO x envZ = k := by
  unfold intO
  rw [h.kind hd, if_pos rfl, h.val]; rfl

theorem w64_eq (n : Int) : w64 n = (n + 9223372036854775808) % 18446744073709551616 - 9223372036854775808 := by unfold w64 Go.RowKit.wrap64; rfl
theorem w64_in {n : Int} (h : -9223372036854775808 ≤ n ∧ n ≤ 9223372036854775807) : w64 n = n := by rw [w64_eq]; omega
theorem w64_mod (n : Int) : w64 n % 18446744073709551616 = n % 18446744073709551616 := by rw [w64_eq]; omega
theorem w64_of {a b : Int} (h : a % 18446744073709551616 = b % 18446744073709551616) : w64 a = w64 b := by rw [w64_eq, w64_eq]; omega
theorem mul_left (a b : Int) : w64 (w64 a * b) = w64 (a * b) := w64_of (by rw [Int.mul_emod, w64_mod, ← Int.mul_emod])
theorem mul_right (a b : Int) : w64 (a * w64 b) = w64 (a * b) := by rw [Int.mul_comm, mul_left, Int.mul_comm]
theorem add_left (a b : Int) : w64 (w64 a + b) = w64 (a + b) := w64_of (by rw [w64_eq]; omega)
theorem add_right (a b : Int) : w64 (a + w64 b) = w64 (a + b) := by rw [Int.add_comm, add_left, Int.add_comm]
theorem swap_op {o : Nat} (ho : o = 7 ∨ o = 9) (a b : Int) : opN o b a = opN o a b := by
  rcases ho with rfl | rfl
  · show w64 (b + a) = w64 (a + b); rw [Int.add_comm]
  · show w64 (b * a) = w64 (a * b); rw [Int.mul_comm]
theorem assoc_op {o : Nat} (ho : o = 7 ∨ o = 9) (a b c : Int) : opN o (opN o a b) c = opN o a (opN o b c) := by
  rcases ho with rfl | rfl
  · show w64 (w64 (a + b) + c) = w64 (a + w64 (b + c)); rw [add_left, add_right, Int.add_assoc]
  · show w64 (w64 (a * b) * c) = w64 (a * w64 (b * c)); rw [mul_left, mul_right, Int.mul_assoc]
theorem less_self (a : Int) : opN 8 a a = 0 := by
  show w64 (a - a) = 0; rw [Int.sub_self, w64_eq]; decide
theorem back_op {a b : Int} (hb : ¬ b = 0) (ha : 0 ≤ a) (ha' : a ≤ 9223372036854775807) : opN 7 (opN 9 (opN 10 a b) b) (opN 11 a b) = a := by
  show w64 (w64 (quoO a b * b) + remO a b) = a
  unfold quoO remO
  rw [if_neg hb, if_neg hb, add_left, ← add_left, mul_left, add_left, Int.mul_comm, Int.mul_tdiv_add_tmod]
  exact w64_in ⟨by omega, ha'⟩
end Go.Proofs.Yteicfdgadloheaa.exp
end
section
namespace Go.Proofs.Yteicfdgadloheaa.exp
set_option linter.unusedSimpArgs false
set_option linter.unusedVariables false
open Go.RowKit nam

/-- This value is this expression. -/
def Xv (w : World) (V : Value) (x : Ex) : Prop := ∃ (a : Option Addr) (c : Nat), V = .agg #[.int .u8 (x.op : Int), .int .i64 x.n, .slice a x.args.length c] ∧ Lies w Any (.slice a x.args.length c) x.args
theorem Xv.under {w w' : World} {V : Value} {x : Ex} (h : Xv w V x) (hb : Below w.heap.size w w') : Xv w' V x := by
  obtain ⟨a, c, h1, h2⟩ := h
  exact ⟨a, c, h1, h2.under hb⟩
theorem bt {a b c : World} (h : Below a.heap.size a b) (k : Below b.heap.size b c) : Below a.heap.size a c := h.trans (k.mono h.size)
theorem below_set3 {B : Nat} {w w' : World} {b n c : Nat} {A N : Int} {p : Option Addr} (h : Below B w w') (hb : B ≤ b) : Below B w (set3 w' b A N p n c) := ((h.setCell hb _).setCell hb _).setCell hb _
set_option maxRecDepth 1000000 in
theorem leaf_any (a : Int) (w : World) : Calls Try.prog 18 #[.int .i64 a] w fun e w' => ∃ V, e = .returned V ∧ Xv w' V (nm a) ∧ Below w.heap.size w w' := by
  obtain ⟨N, hN⟩ : ∃ N, w.heap.size = N := ⟨_, rfl⟩
  obtain ⟨W, hW⟩ : ∃ W, w.alloc (.cells #[.int .u8 0, .int .i64 0, .slice none 0 0] 24) = W := ⟨_, rfl⟩
  have hb : Below w.heap.size w W := by rw [← hW]; exact (Below.refl _ _).alloc (Nat.le_refl _) _
  have hv : Bx W N 0 0 none 0 0 := by unfold Bx; rw [← hW]; exact heap_last hN.symm
  obtain ⟨d0, d1, d2, d3, d4, d5⟩ := hv.cells
  obtain ⟨g0, g1, g2, _⟩ := (hv.set 1 a none 0 0).cells
  have HX : Hid (Below w.heap.size w (set3 W N 1 a none 0 0)) := Lib.hid (below_set3 hb (by omega))
  clear hb hv
  generalize hW3 : set3 W N 1 a none 0 0 = W3 at g0 g1 g2 HX
  unfold set3 at hW3
  have HW3 := Lib.hid hW3; clear hW3
  go_enter Try.func18, Try.ntmps18
  go_wp2_with fail
  rw [HW3.out]
  refine bodyPost_ret (v := .agg #[.int .u8 1, .int .i64 a, .slice none 0 0]) (by simp [results, Try.f18, go_sem, g0, g1, g2]) rfl ⟨_, rfl, ⟨none, 0, rfl, .nil⟩, HX.out⟩
set_option maxRecDepth 1000000 in
theorem made_any {z : Int} {o : Nat} (hz : z = (o : Int)) {x y : Ex} {vx vy : Value} {w : World} (hx : Xv w vx x) (hy : Xv w vy y) :
    Calls Try.prog 19 #[.int .u8 z, vx, vy] w fun e w' => ∃ V, e = .returned V ∧ Xv w' V (.mk o 0 [x, y]) ∧ Below w.heap.size w w' := by
  obtain ⟨ax, cx, rfl, hlx⟩ := hx
  obtain ⟨ay, cy, rfl, hly⟩ := hy
  obtain ⟨N, hN⟩ : ∃ N, w.heap.size = N := ⟨_, rfl⟩
  obtain ⟨W, hW⟩ : ∃ W, ((w.alloc (.cells #[.int .u8 (x.op : Int), .int .i64 x.n, .slice ax x.args.length cx] 24)).alloc (.cells #[.int .u8 (y.op : Int), .int .i64 y.n, .slice ay y.args.length cy] 24)).alloc (.cells #[.int .u8 0, .int .i64 0, .slice none 0 0] 24) = W := ⟨_, rfl⟩
  have hb : Below w.heap.size w W := by rw [← hW]; exact (((Below.refl _ _).alloc (Nat.le_refl _) _).alloc (by simp) _).alloc (by simp; omega) _
  have hs : W.heap.size = N + 1 + 1 + 1 := by rw [← hW]; simp [hN]
  have e0 : Bx W N (x.op : Int) x.n ax x.args.length cx := by unfold Bx; rw [← hW]; exact heap_old (heap_old (heap_last hN.symm))
  have e1 : Bx W (N + 1) (y.op : Int) y.n ay y.args.length cy := by unfold Bx; rw [← hW]; exact heap_old (heap_last (by simp [hN]))
  have e2 : Bx W (N + 1 + 1) 0 0 none 0 0 := by unfold Bx; rw [← hW]; exact heap_last (by simp [hN])
  obtain ⟨p0, p1, p2, _⟩ := e0.cells
  obtain ⟨q0, q1, q2, _⟩ := e1.cells
  obtain ⟨W2, hW2⟩ : ∃ W2, W.alloc (.cells #[.int .u8 (x.op : Int), .int .i64 x.n, .slice ax x.args.length cx, .int .u8 (y.op : Int), .int .i64 y.n, .slice ay y.args.length cy] 24) = W2 := ⟨_, rfl⟩
  have hb2 : Below W.heap.size W W2 := by rw [← hW2]; exact (Below.refl _ _).alloc (Nat.le_refl _) _
  have hr : W2.heap[N + 1 + 1 + 1]? = some (.cells #[.int .u8 (x.op : Int), .int .i64 x.n, .slice ax x.args.length cx, .int .u8 (y.op : Int), .int .i64 y.n, .slice ay y.args.length cy] 24 (0, 0)) := by rw [← hW2]; exact heap_last hs.symm
  have hv2 : Bx W2 (N + 1 + 1) 0 0 none 0 0 := e2.under hb2
  obtain ⟨d0, d1, d2, d3, d4, d5⟩ := hv2.cells
  obtain ⟨g0, g1, g2, _⟩ := (hv2.set z 0 (some ⟨N + 1 + 1 + 1, 0, none⟩) 2 2).cells
  have hwW : Below w.heap.size w W2 := bt hb hb2
  have hX : Below w.heap.size w (set3 W2 (N + 1 + 1) z 0 (some ⟨N + 1 + 1 + 1, 0, none⟩) 2 2) := below_set3 hwW (by omega)
  have hr3 : (set3 W2 (N + 1 + 1) z 0 (some ⟨N + 1 + 1 + 1, 0, none⟩) 2 2).heap[N + 1 + 1 + 1]? = some (.cells #[.int .u8 (x.op : Int), .int .i64 x.n, .slice ax x.args.length cx, .int .u8 (y.op : Int), .int .i64 y.n, .slice ay y.args.length cy] 24 (0, 0)) := (set3_other (by omega)).trans hr
  have HL : Hid (Lies (set3 W2 (N + 1 + 1) z 0 (some ⟨N + 1 + 1 + 1, 0, none⟩) 2 2) Any (.slice (some ⟨N + 1 + 1 + 1, 0, none⟩) 2 2) [x, y]) := Lib.hid (lies_two trivial hr3 (hlx.under hX) (hly.under hX))
  have HX := Lib.hid hX
  have HZ := Lib.hid hz
  have HS := Lib.hid hs
  clear hb hs e0 e1 e2 hb2 hr hv2 hwW hX hr3 hlx hly hz
  generalize hW3 : set3 W2 (N + 1 + 1) z 0 (some ⟨N + 1 + 1 + 1, 0, none⟩) 2 2 = W3 at g0 g1 g2 HX HL
  unfold set3 at hW3
  have HW3 := Lib.hid hW3; clear hW3
  go_enter Try.func19, Try.ntmps19
  go_upto_region 1 with fail
  have hs := HS.out
  go_wp2_with fail
  rw [HW3.out]
  refine bodyPost_ret (v := .agg #[.int .u8 z, .int .i64 0, .slice (some ⟨N + 1 + 1 + 1, 0, none⟩) 2 2]) (by simp [results, Try.f19, go_sem, g0, g1, g2]) rfl ⟨_, rfl, ⟨_, 2, (by rw [HZ.out]; rfl), HL.out⟩, HX.out⟩
set_option maxRecDepth 1000000 in
theorem at_any {x : Ex} {V : Value} {d : Nat} {k K : Int} {w : World} (hx : Xv w V x) (hn : Nu x d k) (hd : d ≤ 16) (hk : k = K) :
    Calls Try.prog 20 #[V] w fun e w' => e = .returned (.int .i64 K) ∧ Below w.heap.size w w' := by
  obtain ⟨ax, cx, rfl, hlx⟩ := hx
  obtain ⟨N, hN⟩ : ∃ N, w.heap.size = N := ⟨_, rfl⟩
  obtain ⟨W, hW⟩ : ∃ W, w.alloc (.cells #[.int .u8 (x.op : Int), .int .i64 x.n, .slice ax x.args.length cx] 24) = W := ⟨_, rfl⟩
  have hb : Below w.heap.size w W := by rw [← hW]; exact (Below.refl _ _).alloc (Nat.le_refl _) _
  obtain ⟨c0, c1, c2⟩ := box_cells hW
  rw [hN] at c0 c1 c2
  have HI : Hid (Calls Try.prog 12 #[.agg #[.int .u8 (x.op : Int), .int .i64 x.n, .slice ax x.args.length cx], .agg #[.int .i64 0, .int .i64 0, .int .i64 0]] W fun e w' => e = .returned (.int .i64 K) ∧ Below W.heap.size W w') :=
    Lib.hid ((int_any envZ (hlx.under hb) (hn.small hd)).mono fun e w' h => ⟨by rw [h.1, hn.int hd, hk], h.2⟩)
  have HB := Lib.hid hb
  clear hb hlx hn hk
  go_enter Try.func20, Try.ntmps20
  go_wp2_with fail
  refine HI.out.mono ?_
  rintro e w1 ⟨rfl, hb1⟩
  have HX := Lib.hid hb1; clear hb1
  go_wp2_with fail
  go_ret
  exact ⟨rfl, bt HB.out HX.out⟩
end Go.Proofs.Yteicfdgadloheaa.exp
end
