/- What reckon answers: two parts held against each other. What reckon answers: two parts held against each .. -/
import Derived.Test.YtepdecnegihhhaaGreatDoorEvCD
import Derived.Deep.RegionHeld3
set_option linter.unusedSimpArgs false
set_option linter.unusedVariables false
section
section
namespace Go.Proofs.YtepdecnegihhhaaGreatDoor.exp
open Go.RowKit nam
set_option maxHeartbeats 4000000 in
set_option maxRecDepth 1000000 in
theorem rk_14 {E : En} {x a0 a1 : Ex} {v : Value} {w W : World} {N : Nat} (hc : Ctx w W N x E v) (ho : x.op = 14) (hx : x.args = [a0, a1]) {t : TypeId} {V0 V1 : Value} {sm : Bool}
  (hq : ∀ w, (binOp .eql 20 (.iface t V0) (.iface t V1)).run Tryz.prog w = .ok (.bool sm) w)
  (q0 : ∀ {v : Value} {B : Nat → Prop} {w : World}, Lies w B v a0.args → Calls Tryz.prog 166 #[exV a0 v, enV E] w fun e w' => e = .returned (.iface t V0) ∧ Below w.heap.size w w')
  (q1 : ∀ {v : Value} {B : Nat → Prop} {w : World}, Lies w B v a1.args → Calls Tryz.prog 166 #[exV a1 v, enV E] w fun e w' => e = .returned (.iface t V1) ∧ Below w.heap.size w w') :
  Calls Tryz.prog 166 #[exV x v, enV E] w fun e w' => e = .returned (.iface 4 (.bool sm)) ∧ Below w.heap.size w w' := by
 obtain ⟨hN, hW, hb, hat, hen⟩ := hc
 obtain ⟨a, c, h0, h1, h2, hl, hrow⟩ := hat.cells
 simp only [Nat.zero_add] at h0 h1 h2
 obtain ⟨k0, k1, k2⟩ := hen.cells
 rw [ho] at h0 hW
 push_cast at h0 hW
 obtain ⟨bb, cc, p0, d0, p1, d1, s2, e0, e1, e2, e3, e4, e5, l0, l1⟩ := two_raw hat hx
 unfold exV enV at *
 rw [ho]
 have H0 : Hid (∀ w', Below W.heap.size W w' → Calls Tryz.prog 166 #[.agg #[.int .u8 (a0.op : Int), .int .i64 a0.n, .slice p0 a0.args.length d0], .agg #[.int .i64 E.key, .int .i64 E.val, .int .i64 E.acc]] w' fun e w'' => e = .returned (.iface t V0) ∧ Below W.heap.size W w'') :=
  Lib.hid fun w' hw => (q0 (l0.under hw)).mono fun e w'' h => ⟨h.1, hw.trans (h.2.mono hw.size)⟩
 have H1 : Hid (∀ w', Below W.heap.size W w' → Calls Tryz.prog 166 #[.agg #[.int .u8 (a1.op : Int), .int .i64 a1.n, .slice p1 a1.args.length d1], .agg #[.int .i64 E.key, .int .i64 E.val, .int .i64 E.acc]] w' fun e w'' => e = .returned (.iface t V1) ∧ Below W.heap.size W w'') :=
  Lib.hid fun w' hw => (q1 (l1.under hw)).mono fun e w'' h => ⟨h.1, hw.trans (h.2.mono hw.size)⟩
 have HH : Hid (∀ w', Below W.heap.size W w' → w'.cell? ⟨N, 2, none⟩ = some (.slice (some ⟨bb, 0, none⟩) 2 cc) ∧ w'.cell? ⟨bb, 0, none⟩ = some (.int .u8 (a0.op : Int)) ∧ w'.cell? ⟨bb, 1, none⟩ = some (.int .i64 a0.n) ∧ w'.cell? ⟨bb, 2, none⟩ = some (.slice p0 a0.args.length d0) ∧
   w'.cell? ⟨bb, 3, none⟩ = some (.int .u8 (a1.op : Int)) ∧ w'.cell? ⟨bb, 4, none⟩ = some (.int .i64 a1.n) ∧ w'.cell? ⟨bb, 5, none⟩ = some (.slice p1 a1.args.length d1) ∧
   w'.cell? ⟨N + 1, 0, none⟩ = some (.int .i64 E.key) ∧ w'.cell? ⟨N + 1, 1, none⟩ = some (.int .i64 E.val) ∧ w'.cell? ⟨N + 1, 2, none⟩ = some (.int .i64 E.acc)) :=
  Lib.hid fun w' hw => ⟨stay hw s2, stay hw e0, stay hw e1, stay hw e2, stay hw e3, stay hw e4, stay hw e5, stay hw k0, stay hw k1, stay hw k2⟩
 have HB := Lib.hid hb
 have HR : Hid (Below W.heap.size W W) := Lib.hid (Below.refl _ _)
 clear hl hrow hat hen hb q0 q1 l0 l1 hx h2 ho
 go_enter Tryz.func166, Tryz.ntmps166
 go_upto_region 21 with fail
 go_region_held3 (fun w' => w'.cell? ⟨N, 2, none⟩ = some (.slice (some ⟨bb, 0, none⟩) 2 cc) ∧ w'.cell? ⟨bb, 0, none⟩ = some (.int .u8 (a0.op : Int)) ∧ w'.cell? ⟨bb, 1, none⟩ = some (.int .i64 a0.n) ∧ w'.cell? ⟨bb, 2, none⟩ = some (.slice p0 a0.args.length d0) ∧
   w'.cell? ⟨bb, 3, none⟩ = some (.int .u8 (a1.op : Int)) ∧ w'.cell? ⟨bb, 4, none⟩ = some (.int .i64 a1.n) ∧ w'.cell? ⟨bb, 5, none⟩ = some (.slice p1 a1.args.length d1) ∧
   w'.cell? ⟨N + 1, 0, none⟩ = some (.int .i64 E.key) ∧ w'.cell? ⟨N + 1, 1, none⟩ = some (.int .i64 E.val) ∧ w'.cell? ⟨N + 1, 2, none⟩ = some (.int .i64 E.acc)) (first | exact HH.out _ HR.out.drew | exact HH.out _ hb3 | exact HH.out _ hb4) (first
  | (go_at_call 166; with_reducible refine (H0.out _ ?_).mono ?_; exact HR.out.drew; rintro e w3 ⟨rfl, hb3⟩)
  | (go_at_call 166; with_reducible refine (H1.out _ ?_).mono ?_; exact hb3; rintro e w4 ⟨rfl, hb4⟩))
 all_goals (go_wp2_with fail; go_ret; exact ⟨rfl, HB.out.trans (hb4.mono HB.out.size)⟩)
end Go.Proofs.YtepdecnegihhhaaGreatDoor.exp
end
section
namespace Go.Proofs.YtepdecnegihhhaaGreatDoor.exp
open Go.RowKit nam
set_option maxHeartbeats 4000000 in
set_option maxRecDepth 1000000 in
theorem rk_15 {E : En} {x a0 a1 : Ex} {v : Value} {w W : World} {N : Nat} (hc : Ctx w W N x E v) (ho : x.op = 15) (hx : x.args = [a0, a1]) {t : TypeId} {V0 V1 : Value} {sm : Bool}
  (hq : ∀ w, (binOp .neq 20 (.iface t V0) (.iface t V1)).run Tryz.prog w = .ok (.bool sm) w)
  (q0 : ∀ {v : Value} {B : Nat → Prop} {w : World}, Lies w B v a0.args → Calls Tryz.prog 166 #[exV a0 v, enV E] w fun e w' => e = .returned (.iface t V0) ∧ Below w.heap.size w w')
  (q1 : ∀ {v : Value} {B : Nat → Prop} {w : World}, Lies w B v a1.args → Calls Tryz.prog 166 #[exV a1 v, enV E] w fun e w' => e = .returned (.iface t V1) ∧ Below w.heap.size w w') :
  Calls Tryz.prog 166 #[exV x v, enV E] w fun e w' => e = .returned (.iface 4 (.bool sm)) ∧ Below w.heap.size w w' := by
 obtain ⟨hN, hW, hb, hat, hen⟩ := hc
 obtain ⟨a, c, h0, h1, h2, hl, hrow⟩ := hat.cells
 simp only [Nat.zero_add] at h0 h1 h2
 obtain ⟨k0, k1, k2⟩ := hen.cells
 rw [ho] at h0 hW
 push_cast at h0 hW
 obtain ⟨bb, cc, p0, d0, p1, d1, s2, e0, e1, e2, e3, e4, e5, l0, l1⟩ := two_raw hat hx
 unfold exV enV at *
 rw [ho]
 have H0 : Hid (∀ w', Below W.heap.size W w' → Calls Tryz.prog 166 #[.agg #[.int .u8 (a0.op : Int), .int .i64 a0.n, .slice p0 a0.args.length d0], .agg #[.int .i64 E.key, .int .i64 E.val, .int .i64 E.acc]] w' fun e w'' => e = .returned (.iface t V0) ∧ Below W.heap.size W w'') :=
  Lib.hid fun w' hw => (q0 (l0.under hw)).mono fun e w'' h => ⟨h.1, hw.trans (h.2.mono hw.size)⟩
 have H1 : Hid (∀ w', Below W.heap.size W w' → Calls Tryz.prog 166 #[.agg #[.int .u8 (a1.op : Int), .int .i64 a1.n, .slice p1 a1.args.length d1], .agg #[.int .i64 E.key, .int .i64 E.val, .int .i64 E.acc]] w' fun e w'' => e = .returned (.iface t V1) ∧ Below W.heap.size W w'') :=
  Lib.hid fun w' hw => (q1 (l1.under hw)).mono fun e w'' h => ⟨h.1, hw.trans (h.2.mono hw.size)⟩
 have HH : Hid (∀ w', Below W.heap.size W w' → w'.cell? ⟨N, 2, none⟩ = some (.slice (some ⟨bb, 0, none⟩) 2 cc) ∧ w'.cell? ⟨bb, 0, none⟩ = some (.int .u8 (a0.op : Int)) ∧ w'.cell? ⟨bb, 1, none⟩ = some (.int .i64 a0.n) ∧ w'.cell? ⟨bb, 2, none⟩ = some (.slice p0 a0.args.length d0) ∧
   w'.cell? ⟨bb, 3, none⟩ = some (.int .u8 (a1.op : Int)) ∧ w'.cell? ⟨bb, 4, none⟩ = some (.int .i64 a1.n) ∧ w'.cell? ⟨bb, 5, none⟩ = some (.slice p1 a1.args.length d1) ∧
   w'.cell? ⟨N + 1, 0, none⟩ = some (.int .i64 E.key) ∧ w'.cell? ⟨N + 1, 1, none⟩ = some (.int .i64 E.val) ∧ w'.cell? ⟨N + 1, 2, none⟩ = some (.int .i64 E.acc)) :=
  Lib.hid fun w' hw => ⟨stay hw s2, stay hw e0, stay hw e1, stay hw e2, stay hw e3, stay hw e4, stay hw e5, stay hw k0, stay hw k1, stay hw k2⟩
 have HB := Lib.hid hb
 have HR : Hid (Below W.heap.size W W) := Lib.hid (Below.refl _ _)
 clear hl hrow hat hen hb q0 q1 l0 l1 hx h2 ho
 go_enter Tryz.func166, Tryz.ntmps166
 go_upto_region 23 with fail
 go_region_held3 (fun w' => w'.cell? ⟨N, 2, none⟩ = some (.slice (some ⟨bb, 0, none⟩) 2 cc) ∧ w'.cell? ⟨bb, 0, none⟩ = some (.int .u8 (a0.op : Int)) ∧ w'.cell? ⟨bb, 1, none⟩ = some (.int .i64 a0.n) ∧ w'.cell? ⟨bb, 2, none⟩ = some (.slice p0 a0.args.length d0) ∧
   w'.cell? ⟨bb, 3, none⟩ = some (.int .u8 (a1.op : Int)) ∧ w'.cell? ⟨bb, 4, none⟩ = some (.int .i64 a1.n) ∧ w'.cell? ⟨bb, 5, none⟩ = some (.slice p1 a1.args.length d1) ∧
   w'.cell? ⟨N + 1, 0, none⟩ = some (.int .i64 E.key) ∧ w'.cell? ⟨N + 1, 1, none⟩ = some (.int .i64 E.val) ∧ w'.cell? ⟨N + 1, 2, none⟩ = some (.int .i64 E.acc)) (first | exact HH.out _ HR.out.drew | exact HH.out _ hb3 | exact HH.out _ hb4) (first
  | (go_at_call 166; with_reducible refine (H0.out _ ?_).mono ?_; exact HR.out.drew; rintro e w3 ⟨rfl, hb3⟩)
  | (go_at_call 166; with_reducible refine (H1.out _ ?_).mono ?_; exact hb3; rintro e w4 ⟨rfl, hb4⟩))
 all_goals (go_wp2_with fail; go_ret; exact ⟨rfl, HB.out.trans (hb4.mono HB.out.size)⟩)
end Go.Proofs.YtepdecnegihhhaaGreatDoor.exp
end
end
section
section
namespace Go.Proofs.YtepdecnegihhhaaGreatDoor.exp
open Go.RowKit nam
theorem rk_num0 {E : En} {x y : Ex} {N : Nat} (i : Nat) (hr : RK E y) (hi : i < x.args.length) (hy : x.args[i] = y) {n : Int} (hn : y.come E = .num n) :
  ∀ {w : World}, At w Any N 0 x → EnC w (N + 1) E → Calls Tryz.prog 198 #[.int .i64 (i : Int), .pointer (some ⟨N, 0, none⟩), .pointer (some ⟨N + 1, 0, none⟩)] w fun e w' => e = .returned (.int .i64 n) ∧ Below w.heap.size w w' :=
 fun h1 h2 => num_at hr h1 h2 hi hy hn
theorem rk_tru0 {E : En} {x y : Ex} {N : Nat} (i : Nat) (hr : RK E y) (hi : i < x.args.length) (hy : x.args[i] = y) {n : Bool} (hn : y.come E = .tru n) :
  ∀ {w : World}, At w Any N 0 x → EnC w (N + 1) E → Calls Tryz.prog 199 #[.int .i64 (i : Int), .pointer (some ⟨N, 0, none⟩), .pointer (some ⟨N + 1, 0, none⟩)] w fun e w' => e = .returned (.bool n) ∧ Below w.heap.size w w' :=
 fun h1 h2 => tru_at hr h1 h2 hi hy hn
theorem reck_any (E : En) : ∀ x : Ex, Fit x → x.ty ≠ 0 → RK E x := by
 refine Ex.ind fun x ih hf ht => ?_
 intro v B w h
 have hA := ((fit_eq x).1 hf).2
 obtain ⟨W, N, hc⟩ := ctx_of h E
 have hi : ∀ y ∈ x.args, y.ty ≠ 0 → RK E y ∧ (y.come E).ty = y.ty := fun y hy hn => ⟨ih y hy (hA y hy) hn, come_ty E y (hA y hy) hn⟩
 rw [come_eq]
 rcases shape hf ht with ⟨h1, h2, hl, hv⟩ | ⟨h1, a, hl, ta, hv⟩ | ⟨h1, a, hl, ta, hv⟩ | ⟨h1, h2, a, b, hl, ta, tb, hv⟩ | ⟨h1, h2, a, b, hl, ta, tb, hv⟩ | ⟨h1, h2, a, b, hl, ta, tb, hv⟩ | ⟨h1, h2, a, b, hl, ta, tb, hv⟩ | ⟨h1, a, b, c, hl, ta, tb, tc, hv⟩
 · rcases (show x.op = 1 ∨ x.op = 2 ∨ x.op = 3 ∨ x.op = 4 by omega) with h | h | h | h
   · have := rk_1 hc h; rw [h]; exact this
   · have := rk_2 hc h; rw [h]; exact this
   · have := rk_3 hc h; rw [h]; exact this
   · have := rk_4 hc h; rw [h]; exact this
 · obtain ⟨ra, ca⟩ := hi a (by rw [hl]; simp) (by omega)
   obtain ⟨n, hn⟩ := Vl.of1 (ca.trans ta)
   have := rk_5 hc h1 (rk_num0 0 ra (by rw [hl]; simp) (by simp [hl]) hn)
   rw [h1, hl, comes_cons, comes_nil, hn]; exact this
 · obtain ⟨ra, ca⟩ := hi a (by rw [hl]; simp) (by omega)
   obtain ⟨n, hn⟩ := Vl.of2 (ca.trans ta)
   rw [h1, hl, comes_cons, comes_nil, hn]
   cases n with
   | true => exact rk_6t hc h1 (rk_tru0 0 ra (by rw [hl]; simp) (by simp [hl]) hn)
   | false => exact rk_6f hc h1 (rk_tru0 0 ra (by rw [hl]; simp) (by simp [hl]) hn)
 · obtain ⟨ra, ca⟩ := hi a (by rw [hl]; simp) (by omega)
   obtain ⟨rb, cb⟩ := hi b (by rw [hl]; simp) (by omega)
   obtain ⟨n, hn⟩ := Vl.of1 (ca.trans ta)
   obtain ⟨m, hm⟩ := Vl.of1 (cb.trans tb)
   have := rk_num hc ⟨h1, by omega⟩ (rk_num0 0 ra (by rw [hl]; simp) (by simp [hl]) hn) (rk_num0 1 rb (by rw [hl]; simp) (by simp [hl]) hm)
   rw [hl, comes_cons, comes_cons, comes_nil, hn, hm]
   rcases (show x.op = 7 ∨ x.op = 8 ∨ x.op = 9 ∨ x.op = 10 ∨ x.op = 11 by omega) with h | h | h | h | h <;> (rw [h] at this ⊢; exact this)
 · obtain ⟨ra, ca⟩ := hi a (by rw [hl]; simp) (by omega)
   obtain ⟨rb, cb⟩ := hi b (by rw [hl]; simp) (by omega)
   obtain ⟨n, hn⟩ := Vl.of1 (ca.trans ta)
   obtain ⟨m, hm⟩ := Vl.of1 (cb.trans tb)
   have := rk_num hc ⟨by omega, by omega⟩ (rk_num0 0 ra (by rw [hl]; simp) (by simp [hl]) hn) (rk_num0 1 rb (by rw [hl]; simp) (by simp [hl]) hm)
   rw [hl, comes_cons, comes_cons, comes_nil, hn, hm]
   rcases (show x.op = 12 ∨ x.op = 13 by omega) with h | h <;> (rw [h] at this ⊢; exact this)
 · obtain ⟨ra, ca⟩ := hi a (by rw [hl]; simp) (by omega)
   obtain ⟨rb, cb⟩ := hi b (by rw [hl]; simp) (by omega)
   have hab : (b.come E).ty = (a.come E).ty := by rw [ca, cb, tb]
   have he := eql_v hab
   have hne := neq_v hab
   rw [hl, comes_cons, comes_cons, comes_nil]
   rw [← ca] at ta
   have key : ∀ {t : TypeId} {V0 V1 : Value}, (a.come E).v = .iface t V0 → (b.come E).v = .iface t V1 → Calls Tryz.prog 166 #[exV x v, enV E] w fun e w' => e = .returned (doO E x.op x.n [a.come E, b.come E]).v ∧ Below w.heap.size w w' := by
    intro t V0 V1 e0 e1
    rw [e0, e1] at he hne
    have r0 : ∀ {v : Value} {B : Nat → Prop} {w : World}, Lies w B v a.args → Calls Tryz.prog 166 #[exV a v, enV E] w fun e w' => e = .returned (.iface t V0) ∧ Below w.heap.size w w' := fun h => by have := ra h; rw [e0] at this; exact this
    have r1 : ∀ {v : Value} {B : Nat → Prop} {w : World}, Lies w B v b.args → Calls Tryz.prog 166 #[exV b v, enV E] w fun e w' => e = .returned (.iface t V1) ∧ Below w.heap.size w w' := fun h => by have := rb h; rw [e1] at this; exact this
    rcases (show x.op = 14 ∨ x.op = 15 by omega) with h | h
    · have := rk_14 hc h hl he r0 r1
      rw [h]; exact this
    · have := rk_15 hc h hl hne r0 r1
      rw [h]; exact this
   rcases ta with ta | ta
   · obtain ⟨n, hn⟩ := Vl.of1 ta
     obtain ⟨m, hm⟩ := Vl.of1 (hab.trans ta)
     exact key (V0 := .int .i64 n) (V1 := .int .i64 m) (by rw [hn]; rfl) (by rw [hm]; rfl)
   · obtain ⟨n, hn⟩ := Vl.of2 ta
     obtain ⟨m, hm⟩ := Vl.of2 (hab.trans ta)
     exact key (V0 := .bool n) (V1 := .bool m) (by rw [hn]; rfl) (by rw [hm]; rfl)
 · obtain ⟨ra, ca⟩ := hi a (by rw [hl]; simp) (by omega)
   obtain ⟨rb, cb⟩ := hi b (by rw [hl]; simp) (by omega)
   obtain ⟨n, hn⟩ := Vl.of2 (ca.trans ta)
   obtain ⟨m, hm⟩ := Vl.of2 (cb.trans tb)
   rw [hl, comes_cons, comes_cons, comes_nil, hn, hm]
   rcases (show x.op = 16 ∨ x.op = 17 by omega) with h | h <;> rw [h] <;> cases n
   · exact rk_16f hc h (rk_tru0 0 ra (by rw [hl]; simp) (by simp [hl]) hn)
   · exact rk_16t hc h (rk_tru0 0 ra (by rw [hl]; simp) (by simp [hl]) hn) (rk_tru0 1 rb (by rw [hl]; simp) (by simp [hl]) hm)
   · exact rk_17f hc h (rk_tru0 0 ra (by rw [hl]; simp) (by simp [hl]) hn) (rk_tru0 1 rb (by rw [hl]; simp) (by simp [hl]) hm)
   · exact rk_17t hc h (rk_tru0 0 ra (by rw [hl]; simp) (by simp [hl]) hn)
 · obtain ⟨ra, ca⟩ := hi a (by rw [hl]; simp) (by omega)
   obtain ⟨rb, cb⟩ := hi b (by rw [hl]; simp) (by omega)
   obtain ⟨rc, cc⟩ := hi c (by rw [hl]; simp) (by omega)
   obtain ⟨n, hn⟩ := Vl.of2 (ca.trans ta)
   rw [h1, hl, comes_cons, comes_cons, comes_cons, comes_nil, hn]
   cases n with
   | true => exact rk_18t hc h1 hl (rk_tru0 0 ra (by rw [hl]; simp) (by simp [hl]) hn) rb
   | false => exact rk_18f hc h1 hl (rk_tru0 0 ra (by rw [hl]; simp) (by simp [hl]) hn) rc
def reckV (E : En) (x : Ex) : Value := if (kindO x true).2 = 0 then (x.come E).v else .nilIface
set_option maxRecDepth 1000000 in
theorem reckoned_any (E : En) {x : Ex} {v : Value} {B : Nat → Prop} {w : World} (h : Lies w B v x.args) (hs : x.size ≤ 1000000) :
  Calls Tryz.prog 121 #[exV x v, enV E] w fun e w' => e = .returned (.tuple #[reckV E x, .int .i64 (kindO x true).2]) ∧ Below w.heap.size w w' := by
 obtain ⟨W, N, hc⟩ := ctx_of h E
 obtain ⟨hN, hW, hb, hat, hen⟩ := hc
 obtain ⟨a, c, h0, h1, h2, hl, hrow⟩ := hat.cells
 simp only [Nat.zero_add] at h0 h1 h2
 obtain ⟨k0, k1, k2⟩ := hen.cells
 have HK := Lib.hid (kind_any hl hs true)
 obtain ⟨r, hr⟩ : ∃ r, kindO x true = r := ⟨_, rfl⟩
 unfold reckV
 rw [hr] at HK ⊢
 obtain ⟨rt, rc⟩ := r
 by_cases h0r : rc = 0
 · have hz : (kindO x true).2 = 0 := by rw [hr]; exact h0r
   have hk1 := kind_ok hz
   simp only [h0r, if_true] at HK ⊢
   obtain ⟨R, hR⟩ : ∃ R, (x.come E).v = R := ⟨_, rfl⟩
   rw [hR]
   have HC : Hid (∀ w', Below W.heap.size W w' → Calls Tryz.prog 166 #[.agg #[.int .u8 (x.op : Int), .int .i64 x.n, .slice a x.args.length c], .agg #[.int .i64 E.key, .int .i64 E.val, .int .i64 E.acc]] w' fun e w'' => e = .returned R ∧ Below W.heap.size W w'') :=
    Lib.hid fun w' hw => (reck_any E x hk1.1 hk1.2 (hl.under hw)).mono fun e w'' h => ⟨by rw [← hR]; exact h.1, hw.trans (h.2.mono hw.size)⟩
   have HH : Hid (∀ w', Below W.heap.size W w' → w'.cell? ⟨N, 0, none⟩ = some (.int .u8 (x.op : Int)) ∧ w'.cell? ⟨N, 1, none⟩ = some (.int .i64 x.n) ∧ w'.cell? ⟨N, 2, none⟩ = some (.slice a x.args.length c) ∧
     w'.cell? ⟨N + 1, 0, none⟩ = some (.int .i64 E.key) ∧ w'.cell? ⟨N + 1, 1, none⟩ = some (.int .i64 E.val) ∧ w'.cell? ⟨N + 1, 2, none⟩ = some (.int .i64 E.acc)) :=
    Lib.hid fun w' hw => ⟨stay hw h0, stay hw h1, stay hw h2, stay hw k0, stay hw k1, stay hw k2⟩
   have HB := Lib.hid hb
   clear hl hrow hat hen hb hr h0r hz hR hk1
   unfold exV enV at *
   go_enter Tryz.func121, Tryz.ntmps121
   go_wp2_with fail
   refine HK.out.mono ?_
   rintro e w3 ⟨rfl, hb3⟩
   obtain ⟨m0, m1, m2, m3, m4, m5⟩ := HH.out _ hb3
   have HX := Lib.hid hb3; clear hb3
   go_wp2_with fail
   refine (HC.out _ HX.out).mono ?_
   rintro e w4 ⟨rfl, hb4⟩
   have HX4 := Lib.hid hb4; clear hb4
   go_wp2_with fail
   go_ret2
   exact ⟨rfl, HB.out.trans (HX4.out.mono HB.out.size)⟩
 · have hne : (rc != 0) = true := by simpa using h0r
   simp only [h0r, if_false]
   have HB := Lib.hid hb
   clear hl hrow hat hen hb hr h0r
   unfold exV enV at *
   go_enter Tryz.func121, Tryz.ntmps121
   go_wp2_with fail
   refine HK.out.mono ?_
   rintro e w3 ⟨rfl, hb3⟩
   have HX := Lib.hid hb3; clear hb3
   go_wp2_with fail
   go_ret2
   exact ⟨rfl, HB.out.trans (HX.out.mono HB.out.size)⟩
end Go.Proofs.YtepdecnegihhhaaGreatDoor.exp
end
section
namespace Go.Proofs.YtepdecnegihhhaaGreatDoor.exp
open Go.RowKit nam
set_option maxRecDepth 1000000 in
theorem int_any (E : En) {x : Ex} {v : Value} {B : Nat → Prop} {w : World} (h : Lies w B v x.args) (hs : x.size ≤ 1000000) :
  Calls Tryz.prog 77 #[exV x v, enV E] w fun e w' => e = .returned (.int .i64 (intO x E)) ∧ Below w.heap.size w w' := by
 obtain ⟨W, N, hc⟩ := ctx_of h E
 obtain ⟨hN, hW, hb, hat, hen⟩ := hc
 obtain ⟨a, c, h0, h1, h2, hl, hrow⟩ := hat.cells
 simp only [Nat.zero_add] at h0 h1 h2
 obtain ⟨k0, k1, k2⟩ := hen.cells
 have HR := Lib.hid (reckoned_any E hl hs)
 obtain ⟨r, hr⟩ : ∃ r, kindO x true = r := ⟨_, rfl⟩
 obtain ⟨z, hz⟩ : ∃ z, x.come E = z := ⟨_, rfl⟩
 try unfold intO
 try unfold boolO
 unfold reckV at HR
 rw [hr, hz] at HR ⊢
 obtain ⟨rt, rc⟩ := r
 have HB := Lib.hid hb
 clear hl hrow hat hen hb hr hz
 unfold exV enV at *
 by_cases h0r : rc = 0
 · simp only [h0r, if_true] at HR ⊢
   clear h0r
   cases z with
   | num n =>
    simp only [Vl.v, Vl.n, Vl.b] at HR ⊢
    have has := as2_2t (.int .i64 n)
    go_enter Tryz.func77, Tryz.ntmps77
    go_wp2_with fail
    refine HR.out.mono ?_
    rintro e w3 ⟨rfl, hb3⟩
    have HX := Lib.hid hb3; clear hb3
    go_wp2_with fail
    go_ret
    exact ⟨rfl, HB.out.trans (HX.out.mono HB.out.size)⟩
   | tru n =>
    simp only [Vl.v, Vl.n, Vl.b] at HR ⊢
    have has := as4_2t (.bool n)
    go_enter Tryz.func77, Tryz.ntmps77
    go_wp2_with fail
    refine HR.out.mono ?_
    rintro e w3 ⟨rfl, hb3⟩
    have HX := Lib.hid hb3; clear hb3
    go_wp2_with fail
    go_ret
    exact ⟨rfl, HB.out.trans (HX.out.mono HB.out.size)⟩
 · simp only [h0r, if_false] at HR ⊢
   clear h0r
   have has := as0_2t
   go_enter Tryz.func77, Tryz.ntmps77
   go_wp2_with fail
   refine HR.out.mono ?_
   rintro e w3 ⟨rfl, hb3⟩
   have HX := Lib.hid hb3; clear hb3
   go_wp2_with fail
   go_ret
   exact ⟨rfl, HB.out.trans (HX.out.mono HB.out.size)⟩
end Go.Proofs.YtepdecnegihhhaaGreatDoor.exp
end
end
