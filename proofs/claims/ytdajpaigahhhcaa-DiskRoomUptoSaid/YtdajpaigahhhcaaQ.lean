/- No disk: each method of nil. DiskKnown and DiskMoves return true. -/
import Derived.Test.YtdajpaigahhhcaaO
namespace Go.Proofs.Ytdajpaigahhhcaa.dsk
set_option linter.unusedSimpArgs false
set_option linter.unusedVariables false
open Go.RowKit

theorem append_nil (i : Int) (s : ByteArray) (w : World) : Calls Try.prog 11 #[.pointer none, .int .i64 i, .string s] w fun e w' => e = .returned (.int .i64 1) ∧ Below w.heap.size w w' := by
  go_enter Try.func11, Try.ntmps11
  go_wp2_with fail
  refine (refusal_nil _ _ _ _).mono ?_
  rintro e w' ⟨rfl, rfl⟩
  go_wp2_with fail
  go_ret
  exact ⟨rfl, below3 w _ _ _⟩
theorem cut_nil (i n : Int) (w : World) : Calls Try.prog 18 #[.pointer none, .int .i64 i, .int .i64 n] w fun e w' => e = .returned (.int .i64 1) ∧ Below w.heap.size w w' := by
  go_enter Try.func18, Try.ntmps18
  go_wp2_with fail
  refine (refusal_nil _ _ _ _).mono ?_
  rintro e w' ⟨rfl, rfl⟩
  go_wp2_with fail
  go_ret
  exact ⟨rfl, below3 w _ _ _⟩
theorem move_nil (i n : Int) (w : World) : Calls Try.prog 17 #[.pointer none, .int .i64 i, .int .i64 n] w fun e w' => e = .returned (.int .i64 1) ∧ Below w.heap.size w w' := by
  go_enter Try.func17, Try.ntmps17
  go_wp2_with fail
  refine (refusal_nil _ _ _ _).mono ?_
  rintro e w' ⟨rfl, rfl⟩
  go_wp2_with fail
  go_ret
  exact ⟨rfl, below3 w _ _ _⟩
theorem sync_nil (w : World) : Calls Try.prog 12 #[.pointer none] w fun e w' => e = .returned (.int .i64 1) ∧ w = w' := by
  go_enter Try.func12, Try.ntmps12
  go_wp2_with fail
  refine (refusal_nil _ _ _ _).mono ?_
  rintro e w' ⟨rfl, rfl⟩
  go_wp2_with fail
  go_ret
  exact ⟨rfl, rfl⟩
theorem power_nil (n : Int) (w : World) : Calls Try.prog 14 #[.pointer none, .int .i64 n] w fun e w' => e = .returned (.int .i64 1) ∧ w = w' := by
  go_enter Try.func14, Try.ntmps14
  go_wp2_with fail
  refine (refusal_nil _ _ _ _).mono ?_
  rintro e w' ⟨rfl, rfl⟩
  go_wp2_with fail
  go_ret
  exact ⟨rfl, rfl⟩
theorem read_nil (n : Int) (w : World) : Calls Try.prog 15 #[.pointer none, .int .i64 n] w fun e w' => e = .returned (.tuple #[.string ⟨#[]⟩, .int .i64 1]) ∧ Below w.heap.size w w' := by
  go_enter Try.func15, Try.ntmps15
  go_wp2_with fail
  refine (refusal_nil _ _ _ _).mono ?_
  rintro e w' ⟨rfl, rfl⟩
  go_wp2_with fail
  go_ret2
  exact ⟨rfl, (Below.refl _ w).alloc (Nat.le_refl _) _⟩

def k1 : D := ⟨10, false, -1, fun _ => empty, [.app 0 abcde]⟩
def k2 : D := ⟨10, false, -1, k1.now, []⟩
def k3 : D := ⟨10, false, 0, k1.now, []⟩
def k4 : D := ⟨10, true, 0, k1.now, []⟩
def k5 : D := k4.crash 0 0
def k6 : D := ⟨10, false, -1, k5.sure, [.mov 0 1]⟩
theorem known1 : (D.fresh 10).append 0 ⟨#[97, 98, 99, 100, 101]⟩ = (0, k1) := by kernel_rfl
theorem known2 : k1.sync = (0, k2) := by kernel_rfl
theorem known3 : k2.append 1 ⟨#[115, 105, 120, 115, 105, 120]⟩ = (7, k2) := by kernel_rfl
theorem known4 : k2.room' = 5 := by kernel_rfl
theorem known5 : k2.power 0 = (0, k3) := by kernel_rfl
theorem known6 : k3.sync = (50, k4) := by kernel_rfl
theorem known7 : k4.read 0 = (⟨#[]⟩, 50) := by kernel_rfl
theorem known8 : k5.move 0 1 = (0, k6) := by kernel_rfl
theorem known9 : k6.read 1 = (⟨#[97, 98, 99, 100, 101]⟩, 0) := by kernel_rfl
set_option maxHeartbeats 6400000 in
set_option maxRecDepth 100000 in
theorem law_known (w : World) : Calls Try.prog 3 #[] w fun e w' => e = .returned (.bool true) ∧ Below w.heap.size w w' := by
  go_enter Try.func3, Try.ntmps3
  go_wp2_with fail
  refine (new_ten w).mono ?_
  rintro e a1 ⟨rfl, h⟩
  have H := Lib.hid h; clear h
  go_wp2_with fail
  refine (works_any _).mono ?_
  rintro e a2 ⟨rfl, hb⟩
  have H := Lib.hid (H.out.on hb); clear hb
  go_wp2_with fail
  refine (append_here known1 H.out (by decide)).mono ?_
  rintro e a2 ⟨rfl, h⟩
  have H := Lib.hid h; clear h
  go_wp2_with fail
  refine (sync_here known2 H.out).mono ?_
  rintro e a3 ⟨rfl, h⟩
  have H := Lib.hid h; clear h
  go_wp2_with fail
  refine (append_here known3 H.out (by decide)).mono ?_
  rintro e a4 ⟨rfl, h⟩
  have H := Lib.hid h; clear h
  go_wp2_with fail
  refine (left_here known4 H.out).mono ?_
  rintro e a5 ⟨rfl, rfl⟩
  go_wp2_with fail
  refine (power_here known5 (by decide) H.out).mono ?_
  rintro e a6 ⟨rfl, h⟩
  have H := Lib.hid h; clear h
  go_wp2_with fail
  refine (sync_here known6 H.out).mono ?_
  rintro e a7 ⟨rfl, h⟩
  have H := Lib.hid h; clear h
  go_wp2_with fail
  refine (read_here known7 H.out).mono ?_
  rintro e a8 ⟨rfl, h⟩
  have H := Lib.hid h; clear h
  go_wp2_with fail
  refine (crash_here (x2 := k5) rfl (by decide) (by decide) (by decide) (by decide) H.out (by decide)).mono ?_
  rintro e a9 ⟨rfl, h⟩
  have H := Lib.hid h; clear h
  go_wp2_with fail
  refine (move_here known8 H.out (by decide)).mono ?_
  rintro e a10 ⟨rfl, h⟩
  have H := Lib.hid h; clear h
  go_wp2_with fail
  refine (read_here known9 H.out).mono ?_
  rintro e a11 ⟨rfl, h⟩
  have H := Lib.hid h; clear h
  go_wp2_with fail
  refine (crash_nil _ _ _).mono ?_
  rintro e a12 ⟨rfl, rfl⟩
  go_wp2_with fail
  refine (read_nil _ _).mono ?_
  rintro e a13 ⟨rfl, hb⟩
  have H := Lib.hid (H.out.on hb); clear hb
  go_wp2_with fail
  refine (new_bad 0 (by decide) _).mono ?_
  rintro e a14 ⟨rfl, rfl⟩
  go_wp2_with fail
  refine (append_nil _ _ _).mono ?_
  rintro e a15 ⟨rfl, hb⟩
  have H := Lib.hid (H.out.on hb); clear hb
  go_wp2_with fail
  refine (cut_nil _ _ _).mono ?_
  rintro e a16 ⟨rfl, hb⟩
  have H := Lib.hid (H.out.on hb); clear hb
  go_wp2_with fail
  refine (move_nil _ _ _).mono ?_
  rintro e a17 ⟨rfl, hb⟩
  have H := Lib.hid (H.out.on hb); clear hb
  go_wp2_with fail
  refine (sync_nil _).mono ?_
  rintro e a18 ⟨rfl, rfl⟩
  go_wp2_with fail
  refine (power_nil _ _).mono ?_
  rintro e a19 ⟨rfl, rfl⟩
  go_wp2_with fail
  refine (on_nil _).mono ?_
  rintro e a20 ⟨rfl, rfl⟩
  go_wp2_with fail
  refine (loose_nil _).mono ?_
  rintro e a21 ⟨rfl, rfl⟩
  go_wp2_with fail
  refine (left_nil _).mono ?_
  rintro e a22 ⟨rfl, rfl⟩
  go_wp2_with fail
  go_ret
  exact ⟨rfl, H.out.below⟩
end Go.Proofs.Ytdajpaigahhhcaa.dsk
