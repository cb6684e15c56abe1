/- What reckon answers: numbers and truths that hang on its closures alone. What reckon answers: two numbers, two parts held against each other, a branch. -/
import Derived.Test.YtepdecnegihhhaaGreatDoorMEv
set_option linter.unusedSimpArgs false
set_option linter.unusedVariables false
namespace Go.Proofs.YtepdecnegihhhaaGreatDoor.exp
section
open Go.RowKit nam
set_option maxRecDepth 1000000 in
theorem tru_at {E : En} {x y : Ex} {w : World} {X Y i : Nat} {n : Bool} (hr : RK E y) (hx : At w Any X 0 x) (he : EnC w Y E) (hi : i < x.args.length) (hy : x.args[i] = y) (hn : y.come E = .tru n) :
  Calls Tryz.prog 199 #[.int .i64 (i : Int), .pointer (some ⟨X, 0, none⟩), .pointer (some ⟨Y, 0, none⟩)] w fun e w' => e = .returned (.bool n) ∧ Below w.heap.size w w' := by
 obtain ⟨b, c, a, d, h2, e0, e1, e2, hl⟩ := part_at hx hi hy
 obtain ⟨k0, k1, k2⟩ := he.cells
 have hin : (i : Int) < (x.args.length : Int) := by omega
 have HC : Hid (Calls Tryz.prog 166 #[.agg #[.int .u8 (y.op : Int), .int .i64 y.n, .slice a y.args.length d], .agg #[.int .i64 E.key, .int .i64 E.val, .int .i64 E.acc]] w.drew fun e w' => e = .returned (.iface 4 (.bool n)) ∧ Below w.heap.size w w') := Lib.hid (by
  refine Calls.mono ?_ fun e w' (h : e = .returned (.iface 4 (.bool n)) ∧ Below w.drew.heap.size w.drew w') => ⟨h.1, undrew h.2⟩
  have := hr (w := w.drew) (hl.frame fun _ _ _ _ => rfl)
  rw [hn] at this
  exact this)
 clear hr hx he hl hy hn
 have has := as4_4 (.bool n)
 go_enter Tryz.func199, Tryz.ntmps199
 go_wp2_with fail
 go_region_with (go_at_call 166; (refine HC.out.mono ?_); rintro e w3 ⟨rfl, hb⟩)
 all_goals (go_wp2_with fail; go_ret; exact ⟨rfl, hb⟩)
structure Ctx (w W : World) (N : Nat) (x : Ex) (E : En) (v : Value) : Prop where
 hN : w.heap.size = N
 hW : (w.alloc (.cells #[.int .u8 (x.op : Int), .int .i64 x.n, v] 46)).alloc (.cells #[.int .i64 E.key, .int .i64 E.val, .int .i64 E.acc] 148) = W
 hb : Below w.heap.size w W
 hat : At W Any N 0 x
 hen : EnC W (N + 1) E
theorem ctx_of {w : World} {B : Nat → Prop} {v : Value} {x : Ex} (h : Lies w B v x.args) (E : En) : ∃ W N, Ctx w W N x E v := by
 obtain ⟨N, hN⟩ : ∃ N, w.heap.size = N := ⟨_, rfl⟩
 obtain ⟨W, hW⟩ : ∃ W, (w.alloc (.cells #[.int .u8 (x.op : Int), .int .i64 x.n, v] 46)).alloc (.cells #[.int .i64 E.key, .int .i64 E.val, .int .i64 E.acc] 148) = W := ⟨_, rfl⟩
 have hwb : Below w.heap.size w W := by rw [← hW]; exact ((Below.refl _ _).alloc (Nat.le_refl _) _).alloc (by simp) _
 refine ⟨W, N, hN, hW, hwb, ⟨#[.int .u8 (x.op : Int), .int .i64 x.n, v], v, trivial, ?_, rfl, rfl, rfl, (h.mono (fun _ _ => trivial)).under hwb⟩, ?_⟩
 · rw [← hW]; exact heap_old (heap_last hN.symm)
 · unfold EnC; rw [← hW]; exact heap_last (by simp [hN])
set_option maxRecDepth 1000000 in
theorem rk_1 {E : En} {x : Ex} {v : Value} {w W : World} {N : Nat} (hc : Ctx w W N x E v) (ho : x.op = 1) : Calls Tryz.prog 166 #[exV x v, enV E] w fun e w' => e = .returned (.iface 2 (.int .i64 x.n)) ∧ Below w.heap.size w w' := by
 obtain ⟨hN, hW, hb, hat, hen⟩ := hc
 obtain ⟨a, c, h0, h1, h2, hl, hrow⟩ := hat.cells
 simp only [Nat.zero_add] at h0 h1 h2
 obtain ⟨k0, k1, k2⟩ := hen.cells
 rw [ho] at h0 hW
 push_cast at h0 hW
 unfold exV enV
 rw [ho]
 have HB := Lib.hid hb
 clear hl hrow hat hen hb
 go_enter Tryz.func166, Tryz.ntmps166
 go_wp2_with fail
 go_ret
 exact ⟨rfl, HB.out⟩
set_option maxRecDepth 1000000 in
theorem rk_2 {E : En} {x : Ex} {v : Value} {w W : World} {N : Nat} (hc : Ctx w W N x E v) (ho : x.op = 2) : Calls Tryz.prog 166 #[exV x v, enV E] w fun e w' => e = .returned (.iface 2 (.int .i64 E.key)) ∧ Below w.heap.size w w' := by
 obtain ⟨hN, hW, hb, hat, hen⟩ := hc
 obtain ⟨a, c, h0, h1, h2, hl, hrow⟩ := hat.cells
 simp only [Nat.zero_add] at h0 h1 h2
 obtain ⟨k0, k1, k2⟩ := hen.cells
 rw [ho] at h0 hW
 push_cast at h0 hW
 unfold exV enV
 rw [ho]
 have HB := Lib.hid hb
 clear hl hrow hat hen hb
 go_enter Tryz.func166, Tryz.ntmps166
 go_wp2_with fail
 go_ret
 exact ⟨rfl, HB.out⟩
set_option maxRecDepth 1000000 in
theorem rk_3 {E : En} {x : Ex} {v : Value} {w W : World} {N : Nat} (hc : Ctx w W N x E v) (ho : x.op = 3) : Calls Tryz.prog 166 #[exV x v, enV E] w fun e w' => e = .returned (.iface 2 (.int .i64 E.val)) ∧ Below w.heap.size w w' := by
 obtain ⟨hN, hW, hb, hat, hen⟩ := hc
 obtain ⟨a, c, h0, h1, h2, hl, hrow⟩ := hat.cells
 simp only [Nat.zero_add] at h0 h1 h2
 obtain ⟨k0, k1, k2⟩ := hen.cells
 rw [ho] at h0 hW
 push_cast at h0 hW
 unfold exV enV
 rw [ho]
 have HB := Lib.hid hb
 clear hl hrow hat hen hb
 go_enter Tryz.func166, Tryz.ntmps166
 go_wp2_with fail
 go_ret
 exact ⟨rfl, HB.out⟩
set_option maxRecDepth 1000000 in
theorem rk_4 {E : En} {x : Ex} {v : Value} {w W : World} {N : Nat} (hc : Ctx w W N x E v) (ho : x.op = 4) : Calls Tryz.prog 166 #[exV x v, enV E] w fun e w' => e = .returned (.iface 2 (.int .i64 E.acc)) ∧ Below w.heap.size w w' := by
 obtain ⟨hN, hW, hb, hat, hen⟩ := hc
 obtain ⟨a, c, h0, h1, h2, hl, hrow⟩ := hat.cells
 simp only [Nat.zero_add] at h0 h1 h2
 obtain ⟨k0, k1, k2⟩ := hen.cells
 rw [ho] at h0 hW
 push_cast at h0 hW
 unfold exV enV
 rw [ho]
 have HB := Lib.hid hb
 clear hl hrow hat hen hb
 go_enter Tryz.func166, Tryz.ntmps166
 go_wp2_with fail
 go_ret
 exact ⟨rfl, HB.out⟩
set_option maxRecDepth 1000000 in
theorem rk_5 {E : En} {x : Ex} {v : Value} {w W : World} {N : Nat} (hc : Ctx w W N x E v) (ho : x.op = 5) {n0 : Int} (q0 : ∀ {w : World}, At w Any N 0 x → EnC w (N + 1) E → Calls Tryz.prog 198 #[.int .i64 0, .pointer (some ⟨N, 0, none⟩), .pointer (some ⟨N + 1, 0, none⟩)] w fun e w' => e = .returned (.int .i64 n0) ∧ Below w.heap.size w w') : Calls Tryz.prog 166 #[exV x v, enV E] w fun e w' => e = .returned (.iface 2 (.int .i64 (w64 (-n0)))) ∧ Below w.heap.size w w' := by
 obtain ⟨hN, hW, hb, hat, hen⟩ := hc
 obtain ⟨a, c, h0, h1, h2, hl, hrow⟩ := hat.cells
 simp only [Nat.zero_add] at h0 h1 h2
 obtain ⟨k0, k1, k2⟩ := hen.cells
 rw [ho] at h0 hW
 push_cast at h0 hW
 unfold exV enV
 rw [ho]
 have H0 : Hid (∀ w', Below W.heap.size W w' → Calls Tryz.prog 198 #[.int .i64 0, .pointer (some ⟨N, 0, none⟩), .pointer (some ⟨N + 1, 0, none⟩)] w' fun e w'' => e = .returned (.int .i64 n0) ∧ Below W.heap.size W w'') := Lib.hid fun w' hw => (q0 (hat.under' hw) (hen.under hw)).mono fun e w'' h => ⟨h.1, hw.trans (h.2.mono hw.size)⟩
 have HB := Lib.hid hb
 have HR : Hid (Below W.heap.size W W) := Lib.hid (Below.refl _ _)
 clear hl hrow hat hen hb
 go_enter Tryz.func166, Tryz.ntmps166
 go_wp2_with fail
 refine (H0.out _ HR.out).mono ?_
 rintro e w1 ⟨rfl, hb1⟩
 have HX1 := Lib.hid hb1; clear hb1
 go_wp2_with fail
 go_ret
 exact ⟨rfl, HB.out.trans (HX1.out.mono HB.out.size)⟩
set_option maxRecDepth 1000000 in
theorem rk_6t {E : En} {x : Ex} {v : Value} {w W : World} {N : Nat} (hc : Ctx w W N x E v) (ho : x.op = 6) (q0 : ∀ {w : World}, At w Any N 0 x → EnC w (N + 1) E → Calls Tryz.prog 199 #[.int .i64 0, .pointer (some ⟨N, 0, none⟩), .pointer (some ⟨N + 1, 0, none⟩)] w fun e w' => e = .returned (.bool true) ∧ Below w.heap.size w w') : Calls Tryz.prog 166 #[exV x v, enV E] w fun e w' => e = .returned (.iface 4 (.bool false)) ∧ Below w.heap.size w w' := by
 obtain ⟨hN, hW, hb, hat, hen⟩ := hc
 obtain ⟨a, c, h0, h1, h2, hl, hrow⟩ := hat.cells
 simp only [Nat.zero_add] at h0 h1 h2
 obtain ⟨k0, k1, k2⟩ := hen.cells
 rw [ho] at h0 hW
 push_cast at h0 hW
 unfold exV enV
 rw [ho]
 have H0 : Hid (∀ w', Below W.heap.size W w' → Calls Tryz.prog 199 #[.int .i64 0, .pointer (some ⟨N, 0, none⟩), .pointer (some ⟨N + 1, 0, none⟩)] w' fun e w'' => e = .returned (.bool true) ∧ Below W.heap.size W w'') := Lib.hid fun w' hw => (q0 (hat.under' hw) (hen.under hw)).mono fun e w'' h => ⟨h.1, hw.trans (h.2.mono hw.size)⟩
 have HB := Lib.hid hb
 have HR : Hid (Below W.heap.size W W) := Lib.hid (Below.refl _ _)
 clear hl hrow hat hen hb
 go_enter Tryz.func166, Tryz.ntmps166
 go_wp2_with fail
 refine (H0.out _ HR.out).mono ?_
 rintro e w1 ⟨rfl, hb1⟩
 have HX1 := Lib.hid hb1; clear hb1
 go_wp2_with fail
 go_ret
 exact ⟨rfl, HB.out.trans (HX1.out.mono HB.out.size)⟩
set_option maxRecDepth 1000000 in
theorem rk_6f {E : En} {x : Ex} {v : Value} {w W : World} {N : Nat} (hc : Ctx w W N x E v) (ho : x.op = 6) (q0 : ∀ {w : World}, At w Any N 0 x → EnC w (N + 1) E → Calls Tryz.prog 199 #[.int .i64 0, .pointer (some ⟨N, 0, none⟩), .pointer (some ⟨N + 1, 0, none⟩)] w fun e w' => e = .returned (.bool false) ∧ Below w.heap.size w w') : Calls Tryz.prog 166 #[exV x v, enV E] w fun e w' => e = .returned (.iface 4 (.bool true)) ∧ Below w.heap.size w w' := by
 obtain ⟨hN, hW, hb, hat, hen⟩ := hc
 obtain ⟨a, c, h0, h1, h2, hl, hrow⟩ := hat.cells
 simp only [Nat.zero_add] at h0 h1 h2
 obtain ⟨k0, k1, k2⟩ := hen.cells
 rw [ho] at h0 hW
 push_cast at h0 hW
 unfold exV enV
 rw [ho]
 have H0 : Hid (∀ w', Below W.heap.size W w' → Calls Tryz.prog 199 #[.int .i64 0, .pointer (some ⟨N, 0, none⟩), .pointer (some ⟨N + 1, 0, none⟩)] w' fun e w'' => e = .returned (.bool false) ∧ Below W.heap.size W w'') := Lib.hid fun w' hw => (q0 (hat.under' hw) (hen.under hw)).mono fun e w'' h => ⟨h.1, hw.trans (h.2.mono hw.size)⟩
 have HB := Lib.hid hb
 have HR : Hid (Below W.heap.size W W) := Lib.hid (Below.refl _ _)
 clear hl hrow hat hen hb
 go_enter Tryz.func166, Tryz.ntmps166
 go_wp2_with fail
 refine (H0.out _ HR.out).mono ?_
 rintro e w1 ⟨rfl, hb1⟩
 have HX1 := Lib.hid hb1; clear hb1
 go_wp2_with fail
 go_ret
 exact ⟨rfl, HB.out.trans (HX1.out.mono HB.out.size)⟩
set_option maxRecDepth 1000000 in
theorem rk_16f {E : En} {x : Ex} {v : Value} {w W : World} {N : Nat} (hc : Ctx w W N x E v) (ho : x.op = 16) (q0 : ∀ {w : World}, At w Any N 0 x → EnC w (N + 1) E → Calls Tryz.prog 199 #[.int .i64 0, .pointer (some ⟨N, 0, none⟩), .pointer (some ⟨N + 1, 0, none⟩)] w fun e w' => e = .returned (.bool false) ∧ Below w.heap.size w w') : Calls Tryz.prog 166 #[exV x v, enV E] w fun e w' => e = .returned (.iface 4 (.bool false)) ∧ Below w.heap.size w w' := by
 obtain ⟨hN, hW, hb, hat, hen⟩ := hc
 obtain ⟨a, c, h0, h1, h2, hl, hrow⟩ := hat.cells
 simp only [Nat.zero_add] at h0 h1 h2
 obtain ⟨k0, k1, k2⟩ := hen.cells
 rw [ho] at h0 hW
 push_cast at h0 hW
 unfold exV enV
 rw [ho]
 have H0 : Hid (∀ w', Below W.heap.size W w' → Calls Tryz.prog 199 #[.int .i64 0, .pointer (some ⟨N, 0, none⟩), .pointer (some ⟨N + 1, 0, none⟩)] w' fun e w'' => e = .returned (.bool false) ∧ Below W.heap.size W w'') := Lib.hid fun w' hw => (q0 (hat.under' hw) (hen.under hw)).mono fun e w'' h => ⟨h.1, hw.trans (h.2.mono hw.size)⟩
 have HB := Lib.hid hb
 have HR : Hid (Below W.heap.size W W) := Lib.hid (Below.refl _ _)
 clear hl hrow hat hen hb
 go_enter Tryz.func166, Tryz.ntmps166
 go_wp2_with fail
 refine (H0.out _ HR.out).mono ?_
 rintro e w1 ⟨rfl, hb1⟩
 have HX1 := Lib.hid hb1; clear hb1
 go_wp2_with fail
 go_ret
 exact ⟨rfl, HB.out.trans (HX1.out.mono HB.out.size)⟩
set_option maxRecDepth 1000000 in
theorem rk_16t {E : En} {x : Ex} {v : Value} {w W : World} {N : Nat} (hc : Ctx w W N x E v) (ho : x.op = 16) {b1 : Bool} (q0 : ∀ {w : World}, At w Any N 0 x → EnC w (N + 1) E → Calls Tryz.prog 199 #[.int .i64 0, .pointer (some ⟨N, 0, none⟩), .pointer (some ⟨N + 1, 0, none⟩)] w fun e w' => e = .returned (.bool true) ∧ Below w.heap.size w w') (q1 : ∀ {w : World}, At w Any N 0 x → EnC w (N + 1) E → Calls Tryz.prog 199 #[.int .i64 1, .pointer (some ⟨N, 0, none⟩), .pointer (some ⟨N + 1, 0, none⟩)] w fun e w' => e = .returned (.bool b1) ∧ Below w.heap.size w w') : Calls Tryz.prog 166 #[exV x v, enV E] w fun e w' => e = .returned (.iface 4 (.bool b1)) ∧ Below w.heap.size w w' := by
 obtain ⟨hN, hW, hb, hat, hen⟩ := hc
 obtain ⟨a, c, h0, h1, h2, hl, hrow⟩ := hat.cells
 simp only [Nat.zero_add] at h0 h1 h2
 obtain ⟨k0, k1, k2⟩ := hen.cells
 rw [ho] at h0 hW
 push_cast at h0 hW
 unfold exV enV
 rw [ho]
 have H0 : Hid (∀ w', Below W.heap.size W w' → Calls Tryz.prog 199 #[.int .i64 0, .pointer (some ⟨N, 0, none⟩), .pointer (some ⟨N + 1, 0, none⟩)] w' fun e w'' => e = .returned (.bool true) ∧ Below W.heap.size W w'') := Lib.hid fun w' hw => (q0 (hat.under' hw) (hen.under hw)).mono fun e w'' h => ⟨h.1, hw.trans (h.2.mono hw.size)⟩
 have H1 : Hid (∀ w', Below W.heap.size W w' → Calls Tryz.prog 199 #[.int .i64 1, .pointer (some ⟨N, 0, none⟩), .pointer (some ⟨N + 1, 0, none⟩)] w' fun e w'' => e = .returned (.bool b1) ∧ Below W.heap.size W w'') := Lib.hid fun w' hw => (q1 (hat.under' hw) (hen.under hw)).mono fun e w'' h => ⟨h.1, hw.trans (h.2.mono hw.size)⟩
 have HB := Lib.hid hb
 have HR : Hid (Below W.heap.size W W) := Lib.hid (Below.refl _ _)
 clear hl hrow hat hen hb
 go_enter Tryz.func166, Tryz.ntmps166
 go_wp2_with fail
 refine (H0.out _ HR.out).mono ?_
 rintro e w1 ⟨rfl, hb1⟩
 have HX1 := Lib.hid hb1; clear hb1
 go_wp2_with fail
 refine (H1.out _ HX1.out).mono ?_
 rintro e w2 ⟨rfl, hb2⟩
 have HX2 := Lib.hid hb2; clear hb2
 go_wp2_with fail
 go_ret
 exact ⟨rfl, HB.out.trans (HX2.out.mono HB.out.size)⟩
set_option maxRecDepth 1000000 in
theorem rk_17t {E : En} {x : Ex} {v : Value} {w W : World} {N : Nat} (hc : Ctx w W N x E v) (ho : x.op = 17) (q0 : ∀ {w : World}, At w Any N 0 x → EnC w (N + 1) E → Calls Tryz.prog 199 #[.int .i64 0, .pointer (some ⟨N, 0, none⟩), .pointer (some ⟨N + 1, 0, none⟩)] w fun e w' => e = .returned (.bool true) ∧ Below w.heap.size w w') : Calls Tryz.prog 166 #[exV x v, enV E] w fun e w' => e = .returned (.iface 4 (.bool true)) ∧ Below w.heap.size w w' := by
 obtain ⟨hN, hW, hb, hat, hen⟩ := hc
 obtain ⟨a, c, h0, h1, h2, hl, hrow⟩ := hat.cells
 simp only [Nat.zero_add] at h0 h1 h2
 obtain ⟨k0, k1, k2⟩ := hen.cells
 rw [ho] at h0 hW
 push_cast at h0 hW
 unfold exV enV
 rw [ho]
 have H0 : Hid (∀ w', Below W.heap.size W w' → Calls Tryz.prog 199 #[.int .i64 0, .pointer (some ⟨N, 0, none⟩), .pointer (some ⟨N + 1, 0, none⟩)] w' fun e w'' => e = .returned (.bool true) ∧ Below W.heap.size W w'') := Lib.hid fun w' hw => (q0 (hat.under' hw) (hen.under hw)).mono fun e w'' h => ⟨h.1, hw.trans (h.2.mono hw.size)⟩
 have HB := Lib.hid hb
 have HR : Hid (Below W.heap.size W W) := Lib.hid (Below.refl _ _)
 clear hl hrow hat hen hb
 go_enter Tryz.func166, Tryz.ntmps166
 go_wp2_with fail
 refine (H0.out _ HR.out).mono ?_
 rintro e w1 ⟨rfl, hb1⟩
 have HX1 := Lib.hid hb1; clear hb1
 go_wp2_with fail
 go_ret
 exact ⟨rfl, HB.out.trans (HX1.out.mono HB.out.size)⟩
set_option maxRecDepth 1000000 in
theorem rk_17f {E : En} {x : Ex} {v : Value} {w W : World} {N : Nat} (hc : Ctx w W N x E v) (ho : x.op = 17) {b1 : Bool} (q0 : ∀ {w : World}, At w Any N 0 x → EnC w (N + 1) E → Calls Tryz.prog 199 #[.int .i64 0, .pointer (some ⟨N, 0, none⟩), .pointer (some ⟨N + 1, 0, none⟩)] w fun e w' => e = .returned (.bool false) ∧ Below w.heap.size w w') (q1 : ∀ {w : World}, At w Any N 0 x → EnC w (N + 1) E → Calls Tryz.prog 199 #[.int .i64 1, .pointer (some ⟨N, 0, none⟩), .pointer (some ⟨N + 1, 0, none⟩)] w fun e w' => e = .returned (.bool b1) ∧ Below w.heap.size w w') : Calls Tryz.prog 166 #[exV x v, enV E] w fun e w' => e = .returned (.iface 4 (.bool b1)) ∧ Below w.heap.size w w' := by
 obtain ⟨hN, hW, hb, hat, hen⟩ := hc
 obtain ⟨a, c, h0, h1, h2, hl, hrow⟩ := hat.cells
 simp only [Nat.zero_add] at h0 h1 h2
 obtain ⟨k0, k1, k2⟩ := hen.cells
 rw [ho] at h0 hW
 push_cast at h0 hW
 unfold exV enV
 rw [ho]
 have H0 : Hid (∀ w', Below W.heap.size W w' → Calls Tryz.prog 199 #[.int .i64 0, .pointer (some ⟨N, 0, none⟩), .pointer (some ⟨N + 1, 0, none⟩)] w' fun e w'' => e = .returned (.bool false) ∧ Below W.heap.size W w'') := Lib.hid fun w' hw => (q0 (hat.under' hw) (hen.under hw)).mono fun e w'' h => ⟨h.1, hw.trans (h.2.mono hw.size)⟩
 have H1 : Hid (∀ w', Below W.heap.size W w' → Calls Tryz.prog 199 #[.int .i64 1, .pointer (some ⟨N, 0, none⟩), .pointer (some ⟨N + 1, 0, none⟩)] w' fun e w'' => e = .returned (.bool b1) ∧ Below W.heap.size W w'') := Lib.hid fun w' hw => (q1 (hat.under' hw) (hen.under hw)).mono fun e w'' h => ⟨h.1, hw.trans (h.2.mono hw.size)⟩
 have HB := Lib.hid hb
 have HR : Hid (Below W.heap.size W W) := Lib.hid (Below.refl _ _)
 clear hl hrow hat hen hb
 go_enter Tryz.func166, Tryz.ntmps166
 go_wp2_with fail
 refine (H0.out _ HR.out).mono ?_
 rintro e w1 ⟨rfl, hb1⟩
 have HX1 := Lib.hid hb1; clear hb1
 go_wp2_with fail
 refine (H1.out _ HX1.out).mono ?_
 rintro e w2 ⟨rfl, hb2⟩
 have HX2 := Lib.hid hb2; clear hb2
 go_wp2_with fail
 go_ret
 exact ⟨rfl, HB.out.trans (HX2.out.mono HB.out.size)⟩
end
section
open Go.RowKit nam
theorem stay {w w' : World} (hb : Below w.heap.size w w') {b o : Nat} {v : Value} (h : w.cell? ⟨b, o, none⟩ = some v) : w'.cell? ⟨b, o, none⟩ = some v := by
 have hl : b < w.heap.size := by
  rcases Nat.lt_or_ge b w.heap.size with h1 | h1
  · exact h1
  · simp [World.cell?, Array.getElem?_eq_none h1] at h
 exact (hb.cell (p := ⟨b, o, none⟩) hl).trans h
theorem raw_at {w : World} {x y : Ex} {N i : Nat} (hx : At w Any N 0 x) (hi : i < x.args.length) (hy : x.args[i] = y) {b c : Nat} (hs : w.cell? ⟨N, 2, none⟩ = some (.slice (some ⟨b, 0, none⟩) x.args.length c)) : ∃ p d,
  w.cell? ⟨b, i * 3, none⟩ = some (.int .u8 (y.op : Int)) ∧ w.cell? ⟨b, i * 3 + 1, none⟩ = some (.int .i64 y.n) ∧ w.cell? ⟨b, i * 3 + 2, none⟩ = some (.slice p y.args.length d) ∧ Lies w Any (.slice p y.args.length d) y.args := by
 obtain ⟨b', c', p, d, h2, e0, e1, e2, hl⟩ := part_at hx hi hy
 rw [hs] at h2
 simp only [Option.some.injEq, Value.slice.injEq, Addr.mk.injEq, and_true, true_and] at h2
 obtain ⟨rfl, _⟩ := h2
 exact ⟨p, d, e0, e1, e2, hl⟩
theorem two_raw {w : World} {x a0 a1 : Ex} {N : Nat} (hx : At w Any N 0 x) (ha : x.args = [a0, a1]) : ∃ b c p0 d0 p1 d1, w.cell? ⟨N, 2, none⟩ = some (.slice (some ⟨b, 0, none⟩) 2 c) ∧
  w.cell? ⟨b, 0, none⟩ = some (.int .u8 (a0.op : Int)) ∧ w.cell? ⟨b, 1, none⟩ = some (.int .i64 a0.n) ∧ w.cell? ⟨b, 2, none⟩ = some (.slice p0 a0.args.length d0) ∧
  w.cell? ⟨b, 3, none⟩ = some (.int .u8 (a1.op : Int)) ∧ w.cell? ⟨b, 4, none⟩ = some (.int .i64 a1.n) ∧ w.cell? ⟨b, 5, none⟩ = some (.slice p1 a1.args.length d1) ∧
  Lies w Any (.slice p0 a0.args.length d0) a0.args ∧ Lies w Any (.slice p1 a1.args.length d1) a1.args := by
 have hlen : x.args.length = 2 := by rw [ha]; rfl
 obtain ⟨b, c, _, _, h2, _⟩ := part_at (i := 0) hx (by omega) rfl
 obtain ⟨p0, d0, e0, e1, e2, l0⟩ := raw_at (i := 0) (y := a0) hx (by omega) (by simp [ha]) h2
 obtain ⟨p1, d1, e3, e4, e5, l1⟩ := raw_at (i := 1) (y := a1) hx (by omega) (by simp [ha]) h2
 rw [hlen] at h2
 exact ⟨b, c, p0, d0, p1, d1, h2, e0, e1, e2, e3, e4, e5, l0, l1⟩
theorem three_raw1 {w : World} {x a0 a1 a2 : Ex} {N : Nat} (hx : At w Any N 0 x) (ha : x.args = [a0, a1, a2]) : ∃ b c p1 d1, w.cell? ⟨N, 2, none⟩ = some (.slice (some ⟨b, 0, none⟩) 3 c) ∧
  w.cell? ⟨b, 3, none⟩ = some (.int .u8 (a1.op : Int)) ∧ w.cell? ⟨b, 4, none⟩ = some (.int .i64 a1.n) ∧ w.cell? ⟨b, 5, none⟩ = some (.slice p1 a1.args.length d1) ∧ Lies w Any (.slice p1 a1.args.length d1) a1.args := by
 have hlen : x.args.length = 3 := by rw [ha]; rfl
 obtain ⟨b, c, _, _, h2, _⟩ := part_at (i := 0) hx (by omega) rfl
 obtain ⟨p1, d1, e3, e4, e5, l1⟩ := raw_at (i := 1) (y := a1) hx (by omega) (by simp [ha]) h2
 rw [hlen] at h2
 exact ⟨b, c, p1, d1, h2, e3, e4, e5, l1⟩
theorem three_raw2 {w : World} {x a0 a1 a2 : Ex} {N : Nat} (hx : At w Any N 0 x) (ha : x.args = [a0, a1, a2]) : ∃ b c p1 d1, w.cell? ⟨N, 2, none⟩ = some (.slice (some ⟨b, 0, none⟩) 3 c) ∧
  w.cell? ⟨b, 6, none⟩ = some (.int .u8 (a2.op : Int)) ∧ w.cell? ⟨b, 7, none⟩ = some (.int .i64 a2.n) ∧ w.cell? ⟨b, 8, none⟩ = some (.slice p1 a2.args.length d1) ∧ Lies w Any (.slice p1 a2.args.length d1) a2.args := by
 have hlen : x.args.length = 3 := by rw [ha]; rfl
 obtain ⟨b, c, _, _, h2, _⟩ := part_at (i := 0) hx (by omega) rfl
 obtain ⟨p1, d1, e3, e4, e5, l1⟩ := raw_at (i := 2) (y := a2) hx (by omega) (by simp [ha]) h2
 rw [hlen] at h2
 exact ⟨b, c, p1, d1, h2, e3, e4, e5, l1⟩
set_option maxHeartbeats 4000000 in
set_option maxRecDepth 1000000 in
theorem rk_num {E : En} {x : Ex} {v : Value} {w W : World} {N : Nat} (hc : Ctx w W N x E v) (ho : 7 ≤ x.op ∧ x.op ≤ 13) {n0 n1 : Int} (q0 : ∀ {w : World}, At w Any N 0 x → EnC w (N + 1) E → Calls Tryz.prog 198 #[.int .i64 0, .pointer (some ⟨N, 0, none⟩), .pointer (some ⟨N + 1, 0, none⟩)] w fun e w' => e = .returned (.int .i64 n0) ∧ Below w.heap.size w w') (q1 : ∀ {w : World}, At w Any N 0 x → EnC w (N + 1) E → Calls Tryz.prog 198 #[.int .i64 1, .pointer (some ⟨N, 0, none⟩), .pointer (some ⟨N + 1, 0, none⟩)] w fun e w' => e = .returned (.int .i64 n1) ∧ Below w.heap.size w w') : Calls Tryz.prog 166 #[exV x v, enV E] w fun e w' => e = .returned (opO x.op n0 n1).v ∧ Below w.heap.size w w' := by
 obtain ⟨hN, hW, hb, hat, hen⟩ := hc
 obtain ⟨a, c, h0, h1, h2, hl, hrow⟩ := hat.cells
 simp only [Nat.zero_add] at h0 h1 h2
 obtain ⟨k0, k1, k2⟩ := hen.cells
 unfold exV enV
 have H0 : Hid (∀ w', Below W.heap.size W w' → Calls Tryz.prog 198 #[.int .i64 0, .pointer (some ⟨N, 0, none⟩), .pointer (some ⟨N + 1, 0, none⟩)] w' fun e w'' => e = .returned (.int .i64 n0) ∧ Below W.heap.size W w'') := Lib.hid fun w' hw => (q0 (hat.under' hw) (hen.under hw)).mono fun e w'' h => ⟨h.1, hw.trans (h.2.mono hw.size)⟩
 have H1 : Hid (∀ w', Below W.heap.size W w' → Calls Tryz.prog 198 #[.int .i64 1, .pointer (some ⟨N, 0, none⟩), .pointer (some ⟨N + 1, 0, none⟩)] w' fun e w'' => e = .returned (.int .i64 n1) ∧ Below W.heap.size W w'') := Lib.hid fun w' hw => (q1 (hat.under' hw) (hen.under hw)).mono fun e w'' h => ⟨h.1, hw.trans (h.2.mono hw.size)⟩
 have HO := Lib.hid (of_numbers ho n0 n1)
 obtain ⟨o, ho'⟩ : ∃ o, x.op = o := ⟨_, rfl⟩
 rw [ho'] at ho h0 hW HO ⊢
 obtain ⟨R, hR⟩ : ∃ R, (opO o n0 n1).v = R := ⟨_, rfl⟩
 rw [hR] at HO ⊢
 have f1 : ((o : Int) == 1) = false := by rw [beq_eq_false_iff_ne]; omega
 have f2 : ((o : Int) == 2) = false := by rw [beq_eq_false_iff_ne]; omega
 have f3 : ((o : Int) == 3) = false := by rw [beq_eq_false_iff_ne]; omega
 have f4 : ((o : Int) == 4) = false := by rw [beq_eq_false_iff_ne]; omega
 have f5 : ((o : Int) == 5) = false := by rw [beq_eq_false_iff_ne]; omega
 have f6 : ((o : Int) == 6) = false := by rw [beq_eq_false_iff_ne]; omega
 have f14 : ((o : Int) == 14) = false := by rw [beq_eq_false_iff_ne]; omega
 have f15 : ((o : Int) == 15) = false := by rw [beq_eq_false_iff_ne]; omega
 have f16 : ((o : Int) == 16) = false := by rw [beq_eq_false_iff_ne]; omega
 have f17 : ((o : Int) == 17) = false := by rw [beq_eq_false_iff_ne]; omega
 have f18 : ((o : Int) == 18) = false := by rw [beq_eq_false_iff_ne]; omega
 have HB := Lib.hid hb
 have HR : Hid (Below W.heap.size W W) := Lib.hid (Below.refl _ _)
 have HH : Hid (∀ w', Below W.heap.size W w' → w'.cell? ⟨N, 0, none⟩ = some (.int .u8 (o : Int))) := Lib.hid fun w' hw => stay hw h0
 clear hl hrow hat hen hb hR ho' ho q0 q1
 go_enter Tryz.func166, Tryz.ntmps166
 go_upto_region 28 with fail
 go_region_with (first
  | (go_at_call 200; (refine (HO.out _).mono ?_); rintro e w5 ⟨rfl, rfl⟩)
  | (go_at_call 198; ((with_reducible refine (H0.out _ (by first | exact HR.out | exact HR.out.drew)).mono ?_); rintro e w3 ⟨rfl, hb3⟩; have g3 := HH.out _ hb3))
  | (go_at_call 198; ((with_reducible refine (H1.out _ (by first | exact hb3 | exact hb3.drew)).mono ?_); rintro e w4 ⟨rfl, hb4⟩; have g4 := HH.out _ hb4)))
 all_goals (go_wp2_with fail; go_ret; exact ⟨rfl, HB.out.trans (hb4.mono HB.out.size)⟩)
set_option maxRecDepth 1000000 in
theorem rk_18t {E : En} {x a0 a1 a2 : Ex} {v : Value} {w W : World} {N : Nat} (hc : Ctx w W N x E v) (ho : x.op = 18) (hx : x.args = [a0, a1, a2]) {R : Value} (q0 : ∀ {w : World}, At w Any N 0 x → EnC w (N + 1) E → Calls Tryz.prog 199 #[.int .i64 0, .pointer (some ⟨N, 0, none⟩), .pointer (some ⟨N + 1, 0, none⟩)] w fun e w' => e = .returned (.bool true) ∧ Below w.heap.size w w') 
  (q1 : ∀ {v : Value} {B : Nat → Prop} {w : World}, Lies w B v a1.args → Calls Tryz.prog 166 #[exV a1 v, enV E] w fun e w' => e = .returned R ∧ Below w.heap.size w w') :
  Calls Tryz.prog 166 #[exV x v, enV E] w fun e w' => e = .returned R ∧ Below w.heap.size w w' := by
 obtain ⟨hN, hW, hb, hat, hen⟩ := hc
 obtain ⟨a, c, h0, h1, h2, hl, hrow⟩ := hat.cells
 simp only [Nat.zero_add] at h0 h1 h2
 obtain ⟨k0, k1, k2⟩ := hen.cells
 rw [ho] at h0 hW
 push_cast at h0 hW
 obtain ⟨bb, cc, p1, d1, s2, e3, e4, e5, l1⟩ := three_raw1 hat hx
 unfold exV enV at *
 rw [ho]
 have H0 : Hid (∀ w', Below W.heap.size W w' → Calls Tryz.prog 199 #[.int .i64 0, .pointer (some ⟨N, 0, none⟩), .pointer (some ⟨N + 1, 0, none⟩)] w' fun e w'' => e = .returned (.bool true) ∧ Below W.heap.size W w'') := Lib.hid fun w' hw => (q0 (hat.under' hw) (hen.under hw)).mono fun e w'' h => ⟨h.1, hw.trans (h.2.mono hw.size)⟩
 have H1 : Hid (∀ w', Below W.heap.size W w' → Calls Tryz.prog 166 #[.agg #[.int .u8 (a1.op : Int), .int .i64 a1.n, .slice p1 a1.args.length d1], .agg #[.int .i64 E.key, .int .i64 E.val, .int .i64 E.acc]] w' fun e w'' => e = .returned R ∧ Below W.heap.size W w'') :=
  Lib.hid fun w' hw => (q1 (l1.under hw)).mono fun e w'' h => ⟨h.1, hw.trans (h.2.mono hw.size)⟩
 have HH : Hid (∀ w', Below W.heap.size W w' → w'.cell? ⟨N, 2, none⟩ = some (.slice (some ⟨bb, 0, none⟩) 3 cc) ∧
   w'.cell? ⟨bb, 3, none⟩ = some (.int .u8 (a1.op : Int)) ∧ w'.cell? ⟨bb, 4, none⟩ = some (.int .i64 a1.n) ∧ w'.cell? ⟨bb, 5, none⟩ = some (.slice p1 a1.args.length d1) ∧
   w'.cell? ⟨N + 1, 0, none⟩ = some (.int .i64 E.key) ∧ w'.cell? ⟨N + 1, 1, none⟩ = some (.int .i64 E.val) ∧ w'.cell? ⟨N + 1, 2, none⟩ = some (.int .i64 E.acc)) :=
  Lib.hid fun w' hw => ⟨stay hw s2, stay hw e3, stay hw e4, stay hw e5, stay hw k0, stay hw k1, stay hw k2⟩
 have HB := Lib.hid hb
 have HR : Hid (Below W.heap.size W W) := Lib.hid (Below.refl _ _)
 clear hl hrow hat hen hb q0 q1 l1 hx h2 ho
 go_enter Tryz.func166, Tryz.ntmps166
 go_wp2_with fail
 refine (H0.out _ HR.out).mono ?_
 rintro e w3 ⟨rfl, hb3⟩
 obtain ⟨m0, m1, m2, m3, m4, m5, m6⟩ := HH.out _ hb3
 go_upto_region 26 with fail
 go_region_with (go_at_call 166; ((with_reducible refine (H1.out _ (by first | exact hb3 | exact hb3.drew)).mono ?_); rintro e w4 ⟨rfl, hb4⟩))
 all_goals (go_wp2_with fail; go_ret; exact ⟨rfl, HB.out.trans (hb4.mono HB.out.size)⟩)
set_option maxRecDepth 1000000 in
theorem rk_18f {E : En} {x a0 a1 a2 : Ex} {v : Value} {w W : World} {N : Nat} (hc : Ctx w W N x E v) (ho : x.op = 18) (hx : x.args = [a0, a1, a2]) {R : Value} (q0 : ∀ {w : World}, At w Any N 0 x → EnC w (N + 1) E → Calls Tryz.prog 199 #[.int .i64 0, .pointer (some ⟨N, 0, none⟩), .pointer (some ⟨N + 1, 0, none⟩)] w fun e w' => e = .returned (.bool false) ∧ Below w.heap.size w w') 
  (q1 : ∀ {v : Value} {B : Nat → Prop} {w : World}, Lies w B v a2.args → Calls Tryz.prog 166 #[exV a2 v, enV E] w fun e w' => e = .returned R ∧ Below w.heap.size w w') :
  Calls Tryz.prog 166 #[exV x v, enV E] w fun e w' => e = .returned R ∧ Below w.heap.size w w' := by
 obtain ⟨hN, hW, hb, hat, hen⟩ := hc
 obtain ⟨a, c, h0, h1, h2, hl, hrow⟩ := hat.cells
 simp only [Nat.zero_add] at h0 h1 h2
 obtain ⟨k0, k1, k2⟩ := hen.cells
 rw [ho] at h0 hW
 push_cast at h0 hW
 obtain ⟨bb, cc, p1, d1, s2, e3, e4, e5, l1⟩ := three_raw2 hat hx
 unfold exV enV at *
 rw [ho]
 have H0 : Hid (∀ w', Below W.heap.size W w' → Calls Tryz.prog 199 #[.int .i64 0, .pointer (some ⟨N, 0, none⟩), .pointer (some ⟨N + 1, 0, none⟩)] w' fun e w'' => e = .returned (.bool false) ∧ Below W.heap.size W w'') := Lib.hid fun w' hw => (q0 (hat.under' hw) (hen.under hw)).mono fun e w'' h => ⟨h.1, hw.trans (h.2.mono hw.size)⟩
 have H1 : Hid (∀ w', Below W.heap.size W w' → Calls Tryz.prog 166 #[.agg #[.int .u8 (a2.op : Int), .int .i64 a2.n, .slice p1 a2.args.length d1], .agg #[.int .i64 E.key, .int .i64 E.val, .int .i64 E.acc]] w' fun e w'' => e = .returned R ∧ Below W.heap.size W w'') :=
  Lib.hid fun w' hw => (q1 (l1.under hw)).mono fun e w'' h => ⟨h.1, hw.trans (h.2.mono hw.size)⟩
 have HH : Hid (∀ w', Below W.heap.size W w' → w'.cell? ⟨N, 2, none⟩ = some (.slice (some ⟨bb, 0, none⟩) 3 cc) ∧
   w'.cell? ⟨bb, 6, none⟩ = some (.int .u8 (a2.op : Int)) ∧ w'.cell? ⟨bb, 7, none⟩ = some (.int .i64 a2.n) ∧ w'.cell? ⟨bb, 8, none⟩ = some (.slice p1 a2.args.length d1) ∧
   w'.cell? ⟨N + 1, 0, none⟩ = some (.int .i64 E.key) ∧ w'.cell? ⟨N + 1, 1, none⟩ = some (.int .i64 E.val) ∧ w'.cell? ⟨N + 1, 2, none⟩ = some (.int .i64 E.acc)) :=
  Lib.hid fun w' hw => ⟨stay hw s2, stay hw e3, stay hw e4, stay hw e5, stay hw k0, stay hw k1, stay hw k2⟩
 have HB := Lib.hid hb
 have HR : Hid (Below W.heap.size W W) := Lib.hid (Below.refl _ _)
 clear hl hrow hat hen hb q0 q1 l1 hx h2 ho
 go_enter Tryz.func166, Tryz.ntmps166
 go_wp2_with fail
 refine (H0.out _ HR.out).mono ?_
 rintro e w3 ⟨rfl, hb3⟩
 obtain ⟨m0, m1, m2, m3, m4, m5, m6⟩ := HH.out _ hb3
 go_upto_region 27 with fail
 go_region_with (go_at_call 166; ((with_reducible refine (H1.out _ (by first | exact hb3 | exact hb3.drew)).mono ?_); rintro e w4 ⟨rfl, hb4⟩))
 all_goals (go_wp2_with fail; go_ret; exact ⟨rfl, HB.out.trans (hb4.mono HB.out.size)⟩)
end
end Go.Proofs.YtepdecnegihhhaaGreatDoor.exp
