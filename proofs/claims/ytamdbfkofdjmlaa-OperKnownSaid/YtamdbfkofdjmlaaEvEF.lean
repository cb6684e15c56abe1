/- What reckon answers: two parts held against each other. What reckon answers: two parts held against each other. -/
import Derived.Test.YtamdbfkofdjmlaaEvCD
import Derived.Deep.RegionHeld3
section
namespace Go.Proofs.Ytamdbfkofdjmlaa.exp
set_option linter.unusedSimpArgs false
set_option linter.unusedVariables false
open Go.RowKit nam

set_option maxHeartbeats 4000000 in
set_option maxRecDepth 1000000 in
theorem rk_14 {E : En} {x a0 a1 : Ex} {v : Value} {w W : World} {N : Nat} (hc : Ctx w W N x E v) (ho : x.op = 14) (hx : x.args = [a0, a1]) {t : TypeId} {V0 V1 : Value} {sm : Bool}
    (hq : ∀ w, (binOp .eql 20 (.iface t V0) (.iface t V1)).run Try.prog w = .ok (.bool sm) w)
    (q0 : ∀ {v : Value} {B : Nat → Prop} {w : World}, Lies w B v a0.args → Calls Try.prog 75 #[exV a0 v, enV E] w fun e w' => e = .returned (.iface t V0) ∧ Below w.heap.size w w')
    (q1 : ∀ {v : Value} {B : Nat → Prop} {w : World}, Lies w B v a1.args → Calls Try.prog 75 #[exV a1 v, enV E] w fun e w' => e = .returned (.iface t V1) ∧ Below w.heap.size w w') :
    Calls Try.prog 75 #[exV x v, enV E] w fun e w' => e = .returned (.iface 4 (.bool sm)) ∧ Below w.heap.size w w' := by
  obtain ⟨hN, hW, hb, hat, hen⟩ := hc
  obtain ⟨a, c, h0, h1, h2, hl, hrow⟩ := hat.cells
  simp only [Nat.zero_add] at h0 h1 h2
  obtain ⟨k0, k1, k2⟩ := hen.cells
  rw [ho] at h0 hW
  push_cast at h0 hW
  obtain ⟨bb, cc, p0, d0, p1, d1, s2, e0, e1, e2, e3, e4, e5, l0, l1⟩ := two_raw hat hx
  unfold exV enV at *
  rw [ho]
  have H0 : Hid (∀ w', Below W.heap.size W w' → Calls Try.prog 75 #[.agg #[.int .u8 (a0.op : Int), .int .i64 a0.n, .slice p0 a0.args.length d0], .agg #[.int .i64 E.key, .int .i64 E.val, .int .i64 E.acc]] w' fun e w'' => e = .returned (.iface t V0) ∧ Below W.heap.size W w'') :=
    Lib.hid fun w' hw => (q0 (l0.under hw)).mono fun e w'' h => ⟨h.1, hw.trans (h.2.mono hw.size)⟩
  have H1 : Hid (∀ w', Below W.heap.size W w' → Calls Try.prog 75 #[.agg #[.int .u8 (a1.op : Int), .int .i64 a1.n, .slice p1 a1.args.length d1], .agg #[.int .i64 E.key, .int .i64 E.val, .int .i64 E.acc]] w' fun e w'' => e = .returned (.iface t V1) ∧ Below W.heap.size W w'') :=
    Lib.hid fun w' hw => (q1 (l1.under hw)).mono fun e w'' h => ⟨h.1, hw.trans (h.2.mono hw.size)⟩
  have HH : Hid (∀ w', Below W.heap.size W w' → w'.cell? ⟨N, 2, none⟩ = some (.slice (some ⟨bb, 0, none⟩) 2 cc) ∧ w'.cell? ⟨bb, 0, none⟩ = some (.int .u8 (a0.op : Int)) ∧ w'.cell? ⟨bb, 1, none⟩ = some (.int .i64 a0.n) ∧ w'.cell? ⟨bb, 2, none⟩ = some (.slice p0 a0.args.length d0) ∧
      w'.cell? ⟨bb, 3, none⟩ = some (.int .u8 (a1.op : Int)) ∧ w'.cell? ⟨bb, 4, none⟩ = some (.int .i64 a1.n) ∧ w'.cell? ⟨bb, 5, none⟩ = some (.slice p1 a1.args.length d1) ∧
      w'.cell? ⟨N + 1, 0, none⟩ = some (.int .i64 E.key) ∧ w'.cell? ⟨N + 1, 1, none⟩ = some (.int .i64 E.val) ∧ w'.cell? ⟨N + 1, 2, none⟩ = some (.int .i64 E.acc)) :=
    Lib.hid fun w' hw => ⟨stay hw s2, stay hw e0, stay hw e1, stay hw e2, stay hw e3, stay hw e4, stay hw e5, stay hw k0, stay hw k1, stay hw k2⟩
  have HB := Lib.hid hb
  have HR : Hid (Below W.heap.size W W) := Lib.hid (Below.refl _ _)
  clear hl hrow hat hen hb q0 q1 l0 l1 hx h2 ho
  go_enter Try.func75, Try.ntmps75
  go_upto_region 21 with fail
  go_region_held3 (fun w' => w'.cell? ⟨N, 2, none⟩ = some (.slice (some ⟨bb, 0, none⟩) 2 cc) ∧ w'.cell? ⟨bb, 0, none⟩ = some (.int .u8 (a0.op : Int)) ∧ w'.cell? ⟨bb, 1, none⟩ = some (.int .i64 a0.n) ∧ w'.cell? ⟨bb, 2, none⟩ = some (.slice p0 a0.args.length d0) ∧
      w'.cell? ⟨bb, 3, none⟩ = some (.int .u8 (a1.op : Int)) ∧ w'.cell? ⟨bb, 4, none⟩ = some (.int .i64 a1.n) ∧ w'.cell? ⟨bb, 5, none⟩ = some (.slice p1 a1.args.length d1) ∧
      w'.cell? ⟨N + 1, 0, none⟩ = some (.int .i64 E.key) ∧ w'.cell? ⟨N + 1, 1, none⟩ = some (.int .i64 E.val) ∧ w'.cell? ⟨N + 1, 2, none⟩ = some (.int .i64 E.acc)) (first | exact HH.out _ HR.out.drew | exact HH.out _ hb3 | exact HH.out _ hb4) (first
    | (go_at_call 75; with_reducible refine (H0.out _ ?_).mono ?_; exact HR.out.drew; rintro e w3 ⟨rfl, hb3⟩)
    | (go_at_call 75; with_reducible refine (H1.out _ ?_).mono ?_; exact hb3; rintro e w4 ⟨rfl, hb4⟩))
  all_goals (go_wp2_with fail; go_ret; exact ⟨rfl, HB.out.trans (hb4.mono HB.out.size)⟩)
end Go.Proofs.Ytamdbfkofdjmlaa.exp
end
section
namespace Go.Proofs.Ytamdbfkofdjmlaa.exp
set_option linter.unusedSimpArgs false
set_option linter.unusedVariables false
open Go.RowKit nam

set_option maxHeartbeats 4000000 in
set_option maxRecDepth 1000000 in
theorem rk_15 {E : En} {x a0 a1 : Ex} {v : Value} {w W : World} {N : Nat} (hc : Ctx w W N x E v) (ho : x.op = 15) (hx : x.args = [a0, a1]) {t : TypeId} {V0 V1 : Value} {sm : Bool}
    (hq : ∀ w, (binOp .neq 20 (.iface t V0) (.iface t V1)).run Try.prog w = .ok (.bool sm) w)
    (q0 : ∀ {v : Value} {B : Nat → Prop} {w : World}, Lies w B v a0.args → Calls Try.prog 75 #[exV a0 v, enV E] w fun e w' => e = .returned (.iface t V0) ∧ Below w.heap.size w w')
    (q1 : ∀ {v : Value} {B : Nat → Prop} {w : World}, Lies w B v a1.args → Calls Try.prog 75 #[exV a1 v, enV E] w fun e w' => e = .returned (.iface t V1) ∧ Below w.heap.size w w') :
    Calls Try.prog 75 #[exV x v, enV E] w fun e w' => e = .returned (.iface 4 (.bool sm)) ∧ Below w.heap.size w w' := by
  obtain ⟨hN, hW, hb, hat, hen⟩ := hc
  obtain ⟨a, c, h0, h1, h2, hl, hrow⟩ := hat.cells
  simp only [Nat.zero_add] at h0 h1 h2
  obtain ⟨k0, k1, k2⟩ := hen.cells
  rw [ho] at h0 hW
  push_cast at h0 hW
  obtain ⟨bb, cc, p0, d0, p1, d1, s2, e0, e1, e2, e3, e4, e5, l0, l1⟩ := two_raw hat hx
  unfold exV enV at *
  rw [ho]
  have H0 : Hid (∀ w', Below W.heap.size W w' → Calls Try.prog 75 #[.agg #[.int .u8 (a0.op : Int), .int .i64 a0.n, .slice p0 a0.args.length d0], .agg #[.int .i64 E.key, .int .i64 E.val, .int .i64 E.acc]] w' fun e w'' => e = .returned (.iface t V0) ∧ Below W.heap.size W w'') :=
    Lib.hid fun w' hw => (q0 (l0.under hw)).mono fun e w'' h => ⟨h.1, hw.trans (h.2.mono hw.size)⟩
  have H1 : Hid (∀ w', Below W.heap.size W w' → Calls Try.prog 75 #[.agg #[.int .u8 (a1.op : Int), .int .i64 a1.n, .slice p1 a1.args.length d1], .agg #[.int .i64 E.key, .int .i64 E.val, .int .i64 E.acc]] w' fun e w'' => e = .returned (.iface t V1) ∧ Below W.heap.size W w'') :=
    Lib.hid fun w' hw => (q1 (l1.under hw)).mono fun e w'' h => ⟨h.1, hw.trans (h.2.mono hw.size)⟩
  have HH : Hid (∀ w', Below W.heap.size W w' → w'.cell? ⟨N, 2, none⟩ = some (.slice (some ⟨bb, 0, none⟩) 2 cc) ∧ w'.cell? ⟨bb, 0, none⟩ = some (.int .u8 (a0.op : Int)) ∧ w'.cell? ⟨bb, 1, none⟩ = some (.int .i64 a0.n) ∧ w'.cell? ⟨bb, 2, none⟩ = some (.slice p0 a0.args.length d0) ∧
      w'.cell? ⟨bb, 3, none⟩ = some (.int .u8 (a1.op : Int)) ∧ w'.cell? ⟨bb, 4, none⟩ = some (.int .i64 a1.n) ∧ w'.cell? ⟨bb, 5, none⟩ = some (.slice p1 a1.args.length d1) ∧
      w'.cell? ⟨N + 1, 0, none⟩ = some (.int .i64 E.key) ∧ w'.cell? ⟨N + 1, 1, none⟩ = some (.int .i64 E.val) ∧ w'.cell? ⟨N + 1, 2, none⟩ = some (.int .i64 E.acc)) :=
    Lib.hid fun w' hw => ⟨stay hw s2, stay hw e0, stay hw e1, stay hw e2, stay hw e3, stay hw e4, stay hw e5, stay hw k0, stay hw k1, stay hw k2⟩
  have HB := Lib.hid hb
  have HR : Hid (Below W.heap.size W W) := Lib.hid (Below.refl _ _)
  clear hl hrow hat hen hb q0 q1 l0 l1 hx h2 ho
  go_enter Try.func75, Try.ntmps75
  go_upto_region 23 with fail
  go_region_held3 (fun w' => w'.cell? ⟨N, 2, none⟩ = some (.slice (some ⟨bb, 0, none⟩) 2 cc) ∧ w'.cell? ⟨bb, 0, none⟩ = some (.int .u8 (a0.op : Int)) ∧ w'.cell? ⟨bb, 1, none⟩ = some (.int .i64 a0.n) ∧ w'.cell? ⟨bb, 2, none⟩ = some (.slice p0 a0.args.length d0) ∧
      w'.cell? ⟨bb, 3, none⟩ = some (.int .u8 (a1.op : Int)) ∧ w'.cell? ⟨bb, 4, none⟩ = some (.int .i64 a1.n) ∧ w'.cell? ⟨bb, 5, none⟩ = some (.slice p1 a1.args.length d1) ∧
      w'.cell? ⟨N + 1, 0, none⟩ = some (.int .i64 E.key) ∧ w'.cell? ⟨N + 1, 1, none⟩ = some (.int .i64 E.val) ∧ w'.cell? ⟨N + 1, 2, none⟩ = some (.int .i64 E.acc)) (first | exact HH.out _ HR.out.drew | exact HH.out _ hb3 | exact HH.out _ hb4) (first
    | (go_at_call 75; with_reducible refine (H0.out _ ?_).mono ?_; exact HR.out.drew; rintro e w3 ⟨rfl, hb3⟩)
    | (go_at_call 75; with_reducible refine (H1.out _ ?_).mono ?_; exact hb3; rintro e w4 ⟨rfl, hb4⟩))
  all_goals (go_wp2_with fail; go_ret; exact ⟨rfl, HB.out.trans (hb4.mono HB.out.size)⟩)
end Go.Proofs.Ytamdbfkofdjmlaa.exp
end
