/- The reference's reader: which Op a sign of a level is. Written by tools/genOp.py. -/
import Derived.Test.YtffhmbiamkbchaaDoorMRa
namespace Go.Proofs.YtffhmbiamkbchaaDoor.exp
set_option linter.unusedSimpArgs false
set_option linter.unusedVariables false
open Go.RowKit nam lex

/-- The same of bytes. -/
def opX (r : Nat) (X : ByteArray) : Nat :=
  if r = 0 then (if X = ⟨#[124]⟩ then 17 else 0)
  else if r = 1 then (if X = ⟨#[38]⟩ then 16 else 0)
  else if r = 2 then (if X = ⟨#[60]⟩ then 12 else if X = ⟨#[60, 61]⟩ then 13 else if X = ⟨#[61]⟩ then 14 else if X = ⟨#[33, 61]⟩ then 15 else 0)
  else if r = 3 then (if X = ⟨#[43]⟩ then 7 else if X = ⟨#[45]⟩ then 8 else 0)
  else if r = 4 then (if X = ⟨#[42]⟩ then 9 else if X = ⟨#[47]⟩ then 10 else if X = ⟨#[37]⟩ then 11 else 0)
  else 0

def St0 (X : ByteArray) (u7 u6 u8 : Value) : Prop := (u7 = .string ⟨#[]⟩ ∧ u6 = .int .u8 17 ∧ u8 = .int .i64 0) ∨ (u7 = .string ⟨#[124]⟩ ∧ u6 = .int .u8 17 ∧ u8 = .int .i64 1) ∨ (u7 = .string ⟨#[]⟩ ∧ u6 = .int .u8 18 ∧ u8 = .int .i64 2 ∧ X ≠ ⟨#[124]⟩)
set_option maxHeartbeats 3200000 in
set_option maxRecDepth 1000000 in
theorem op_0 (X : ByteArray) (w : World) : Calls Tryd.prog 48 #[.int .i64 0, .string X] w fun e w' => e = .returned (.int .u8 (opX 0 X)) ∧ Below w.heap.size w w' := by
  have HB : Hid (∀ o o', Below w.heap.size w ((w.alloc o).alloc o')) := Lib.hid (fun o o' => ((Below.refl _ _).alloc (Nat.le_refl _) o).alloc (by simp) o')
  go_enter Tryd.func48, Tryd.ntmps48
  go_wp2_with fail
  go_loop [7, 6, 8] (fun u7 u6 u8 => St0 X u7 u6 u8) (fun _ _ u8 => 3 - (intOf u8).toNat)
  case atStart => exact .inl ⟨rfl, rfl, rfl⟩
  case round =>
    unfold St0 at hrel
    rcases hrel with ⟨rfl, rfl, rfl⟩ | ⟨rfl, rfl, rfl⟩ | ⟨rfl, rfl, rfl, n0⟩
    · -- 0
      go_wp2_with fail
      go_round
      case rel => exact .inr (.inl ⟨rfl, rfl, rfl⟩)
      case measure => simp [intOf]
    · -- 1
      by_cases hx : X = ⟨#[124]⟩
      · have hr : opX 0 X = 17 := by simp [opX, hx]
        have he := str_eq (a := ⟨#[124]⟩) hx.symm
        rw [ByteArray.toList_eq ⟨#[124]⟩] at he
        dsimp only at he
        have HR := Lib.hid hr
        clear hx hr
        go_wp2_with fail
        go_ret
        exact ⟨by rw [HR.out]; rfl, HB.out _ _⟩
      · have he := str_ne (a := ⟨#[124]⟩) (fun e => hx e.symm)
        rw [ByteArray.toList_eq ⟨#[124]⟩] at he
        dsimp only at he
        have HX := Lib.hid hx
        clear hx
        go_wp2_with fail
        go_round
        case rel => exact .inr (.inr (⟨rfl, rfl, rfl, HX.out⟩))
        case measure => simp [intOf]
    · -- 2
      have hr : opX 0 X = 0 := by simp [opX, n0]
      have HR := Lib.hid hr
      clear hr
      go_wp2_with fail
      go_ret
      exact ⟨by rw [HR.out]; rfl, HB.out _ _⟩

def St1 (X : ByteArray) (u7 u6 u8 : Value) : Prop := (u7 = .string ⟨#[]⟩ ∧ u6 = .int .u8 16 ∧ u8 = .int .i64 0) ∨ (u7 = .string ⟨#[38]⟩ ∧ u6 = .int .u8 16 ∧ u8 = .int .i64 1) ∨ (u7 = .string ⟨#[]⟩ ∧ u6 = .int .u8 17 ∧ u8 = .int .i64 2 ∧ X ≠ ⟨#[38]⟩)
set_option maxHeartbeats 3200000 in
set_option maxRecDepth 1000000 in
theorem op_1 (X : ByteArray) (w : World) : Calls Tryd.prog 48 #[.int .i64 1, .string X] w fun e w' => e = .returned (.int .u8 (opX 1 X)) ∧ Below w.heap.size w w' := by
  have HB : Hid (∀ o o', Below w.heap.size w ((w.alloc o).alloc o')) := Lib.hid (fun o o' => ((Below.refl _ _).alloc (Nat.le_refl _) o).alloc (by simp) o')
  go_enter Tryd.func48, Tryd.ntmps48
  go_wp2_with fail
  go_loop [7, 6, 8] (fun u7 u6 u8 => St1 X u7 u6 u8) (fun _ _ u8 => 3 - (intOf u8).toNat)
  case atStart => exact .inl ⟨rfl, rfl, rfl⟩
  case round =>
    unfold St1 at hrel
    rcases hrel with ⟨rfl, rfl, rfl⟩ | ⟨rfl, rfl, rfl⟩ | ⟨rfl, rfl, rfl, n0⟩
    · -- 0
      go_wp2_with fail
      go_round
      case rel => exact .inr (.inl ⟨rfl, rfl, rfl⟩)
      case measure => simp [intOf]
    · -- 1
      by_cases hx : X = ⟨#[38]⟩
      · have hr : opX 1 X = 16 := by simp [opX, hx]
        have he := str_eq (a := ⟨#[38]⟩) hx.symm
        rw [ByteArray.toList_eq ⟨#[38]⟩] at he
        dsimp only at he
        have HR := Lib.hid hr
        clear hx hr
        go_wp2_with fail
        go_ret
        exact ⟨by rw [HR.out]; rfl, HB.out _ _⟩
      · have he := str_ne (a := ⟨#[38]⟩) (fun e => hx e.symm)
        rw [ByteArray.toList_eq ⟨#[38]⟩] at he
        dsimp only at he
        have HX := Lib.hid hx
        clear hx
        go_wp2_with fail
        go_round
        case rel => exact .inr (.inr (⟨rfl, rfl, rfl, HX.out⟩))
        case measure => simp [intOf]
    · -- 2
      have hr : opX 1 X = 0 := by simp [opX, n0]
      have HR := Lib.hid hr
      clear hr
      go_wp2_with fail
      go_ret
      exact ⟨by rw [HR.out]; rfl, HB.out _ _⟩

def St2 (X : ByteArray) (u7 u6 u8 : Value) : Prop := (u7 = .string ⟨#[]⟩ ∧ u6 = .int .u8 12 ∧ u8 = .int .i64 0) ∨ (u7 = .string ⟨#[60]⟩ ∧ u6 = .int .u8 12 ∧ u8 = .int .i64 1) ∨ (u7 = .string ⟨#[]⟩ ∧ u6 = .int .u8 13 ∧ u8 = .int .i64 2 ∧ X ≠ ⟨#[60]⟩) ∨ (u7 = .string ⟨#[60]⟩ ∧ u6 = .int .u8 13 ∧ u8 = .int .i64 3 ∧ X ≠ ⟨#[60]⟩) ∨ (u7 = .string ⟨#[60, 61]⟩ ∧ u6 = .int .u8 13 ∧ u8 = .int .i64 4 ∧ X ≠ ⟨#[60]⟩) ∨ (u7 = .string ⟨#[]⟩ ∧ u6 = .int .u8 14 ∧ u8 = .int .i64 5 ∧ X ≠ ⟨#[60]⟩ ∧ X ≠ ⟨#[60, 61]⟩) ∨ (u7 = .string ⟨#[61]⟩ ∧ u6 = .int .u8 14 ∧ u8 = .int .i64 6 ∧ X ≠ ⟨#[60]⟩ ∧ X ≠ ⟨#[60, 61]⟩) ∨ (u7 = .string ⟨#[]⟩ ∧ u6 = .int .u8 15 ∧ u8 = .int .i64 7 ∧ X ≠ ⟨#[60]⟩ ∧ X ≠ ⟨#[60, 61]⟩ ∧ X ≠ ⟨#[61]⟩) ∨ (u7 = .string ⟨#[33]⟩ ∧ u6 = .int .u8 15 ∧ u8 = .int .i64 8 ∧ X ≠ ⟨#[60]⟩ ∧ X ≠ ⟨#[60, 61]⟩ ∧ X ≠ ⟨#[61]⟩) ∨ (u7 = .string ⟨#[33, 61]⟩ ∧ u6 = .int .u8 15 ∧ u8 = .int .i64 9 ∧ X ≠ ⟨#[60]⟩ ∧ X ≠ ⟨#[60, 61]⟩ ∧ X ≠ ⟨#[61]⟩) ∨ (u7 = .string ⟨#[]⟩ ∧ u6 = .int .u8 16 ∧ u8 = .int .i64 10 ∧ X ≠ ⟨#[60]⟩ ∧ X ≠ ⟨#[60, 61]⟩ ∧ X ≠ ⟨#[61]⟩ ∧ X ≠ ⟨#[33, 61]⟩)
set_option maxHeartbeats 3200000 in
set_option maxRecDepth 1000000 in
theorem op_2 (X : ByteArray) (w : World) : Calls Tryd.prog 48 #[.int .i64 2, .string X] w fun e w' => e = .returned (.int .u8 (opX 2 X)) ∧ Below w.heap.size w w' := by
  have HB : Hid (∀ o o', Below w.heap.size w ((w.alloc o).alloc o')) := Lib.hid (fun o o' => ((Below.refl _ _).alloc (Nat.le_refl _) o).alloc (by simp) o')
  go_enter Tryd.func48, Tryd.ntmps48
  go_wp2_with fail
  go_loop [7, 6, 8] (fun u7 u6 u8 => St2 X u7 u6 u8) (fun _ _ u8 => 11 - (intOf u8).toNat)
  case atStart => exact .inl ⟨rfl, rfl, rfl⟩
  case round =>
    unfold St2 at hrel
    rcases hrel with ⟨rfl, rfl, rfl⟩ | ⟨rfl, rfl, rfl⟩ | ⟨rfl, rfl, rfl, n0⟩ | ⟨rfl, rfl, rfl, n0⟩ | ⟨rfl, rfl, rfl, n0⟩ | ⟨rfl, rfl, rfl, n0, n1⟩ | ⟨rfl, rfl, rfl, n0, n1⟩ | ⟨rfl, rfl, rfl, n0, n1, n2⟩ | ⟨rfl, rfl, rfl, n0, n1, n2⟩ | ⟨rfl, rfl, rfl, n0, n1, n2⟩ | ⟨rfl, rfl, rfl, n0, n1, n2, n3⟩
    · -- 0
      go_wp2_with fail
      go_round
      case rel => exact .inr (.inl ⟨rfl, rfl, rfl⟩)
      case measure => simp [intOf]
    · -- 1
      by_cases hx : X = ⟨#[60]⟩
      · have hr : opX 2 X = 12 := by simp [opX, hx]
        have he := str_eq (a := ⟨#[60]⟩) hx.symm
        rw [ByteArray.toList_eq ⟨#[60]⟩] at he
        dsimp only at he
        have HR := Lib.hid hr
        clear hx hr
        go_wp2_with fail
        go_ret
        exact ⟨by rw [HR.out]; rfl, HB.out _ _⟩
      · have he := str_ne (a := ⟨#[60]⟩) (fun e => hx e.symm)
        rw [ByteArray.toList_eq ⟨#[60]⟩] at he
        dsimp only at he
        have HX := Lib.hid hx
        clear hx
        go_wp2_with fail
        go_round
        case rel => exact .inr (.inr (.inl ⟨rfl, rfl, rfl, HX.out⟩))
        case measure => simp [intOf]
    · -- 2
      go_wp2_with fail
      go_round
      case rel => exact .inr (.inr (.inr (.inl ⟨rfl, rfl, rfl, n0⟩)))
      case measure => simp [intOf]
    · -- 3
      go_wp2_with fail
      go_round
      case rel => exact .inr (.inr (.inr (.inr (.inl ⟨rfl, rfl, rfl, n0⟩))))
      case measure => simp [intOf]
    · -- 4
      by_cases hx : X = ⟨#[60, 61]⟩
      · have hr : opX 2 X = 13 := by simp [opX, hx]
        have he := str_eq (a := ⟨#[60, 61]⟩) hx.symm
        rw [ByteArray.toList_eq ⟨#[60, 61]⟩] at he
        dsimp only at he
        have HR := Lib.hid hr
        clear hx hr
        go_wp2_with fail
        go_ret
        exact ⟨by rw [HR.out]; rfl, HB.out _ _⟩
      · have he := str_ne (a := ⟨#[60, 61]⟩) (fun e => hx e.symm)
        rw [ByteArray.toList_eq ⟨#[60, 61]⟩] at he
        dsimp only at he
        have HX := Lib.hid hx
        clear hx
        go_wp2_with fail
        go_round
        case rel => exact .inr (.inr (.inr (.inr (.inr (.inl ⟨rfl, rfl, rfl, n0, HX.out⟩)))))
        case measure => simp [intOf]
    · -- 5
      go_wp2_with fail
      go_round
      case rel => exact .inr (.inr (.inr (.inr (.inr (.inr (.inl ⟨rfl, rfl, rfl, n0, n1⟩))))))
      case measure => simp [intOf]
    · -- 6
      by_cases hx : X = ⟨#[61]⟩
      · have hr : opX 2 X = 14 := by simp [opX, hx]
        have he := str_eq (a := ⟨#[61]⟩) hx.symm
        rw [ByteArray.toList_eq ⟨#[61]⟩] at he
        dsimp only at he
        have HR := Lib.hid hr
        clear hx hr
        go_wp2_with fail
        go_ret
        exact ⟨by rw [HR.out]; rfl, HB.out _ _⟩
      · have he := str_ne (a := ⟨#[61]⟩) (fun e => hx e.symm)
        rw [ByteArray.toList_eq ⟨#[61]⟩] at he
        dsimp only at he
        have HX := Lib.hid hx
        clear hx
        go_wp2_with fail
        go_round
        case rel => exact .inr (.inr (.inr (.inr (.inr (.inr (.inr (.inl ⟨rfl, rfl, rfl, n0, n1, HX.out⟩)))))))
        case measure => simp [intOf]
    · -- 7
      go_wp2_with fail
      go_round
      case rel => exact .inr (.inr (.inr (.inr (.inr (.inr (.inr (.inr (.inl ⟨rfl, rfl, rfl, n0, n1, n2⟩))))))))
      case measure => simp [intOf]
    · -- 8
      go_wp2_with fail
      go_round
      case rel => exact .inr (.inr (.inr (.inr (.inr (.inr (.inr (.inr (.inr (.inl ⟨rfl, rfl, rfl, n0, n1, n2⟩)))))))))
      case measure => simp [intOf]
    · -- 9
      by_cases hx : X = ⟨#[33, 61]⟩
      · have hr : opX 2 X = 15 := by simp [opX, hx]
        have he := str_eq (a := ⟨#[33, 61]⟩) hx.symm
        rw [ByteArray.toList_eq ⟨#[33, 61]⟩] at he
        dsimp only at he
        have HR := Lib.hid hr
        clear hx hr
        go_wp2_with fail
        go_ret
        exact ⟨by rw [HR.out]; rfl, HB.out _ _⟩
      · have he := str_ne (a := ⟨#[33, 61]⟩) (fun e => hx e.symm)
        rw [ByteArray.toList_eq ⟨#[33, 61]⟩] at he
        dsimp only at he
        have HX := Lib.hid hx
        clear hx
        go_wp2_with fail
        go_round
        case rel => exact .inr (.inr (.inr (.inr (.inr (.inr (.inr (.inr (.inr (.inr (⟨rfl, rfl, rfl, n0, n1, n2, HX.out⟩))))))))))
        case measure => simp [intOf]
    · -- 10
      have hr : opX 2 X = 0 := by simp [opX, n0, n1, n2, n3]
      have HR := Lib.hid hr
      clear hr
      go_wp2_with fail
      go_ret
      exact ⟨by rw [HR.out]; rfl, HB.out _ _⟩

def St3 (X : ByteArray) (u7 u6 u8 : Value) : Prop := (u7 = .string ⟨#[]⟩ ∧ u6 = .int .u8 7 ∧ u8 = .int .i64 0) ∨ (u7 = .string ⟨#[43]⟩ ∧ u6 = .int .u8 7 ∧ u8 = .int .i64 1) ∨ (u7 = .string ⟨#[]⟩ ∧ u6 = .int .u8 8 ∧ u8 = .int .i64 2 ∧ X ≠ ⟨#[43]⟩) ∨ (u7 = .string ⟨#[45]⟩ ∧ u6 = .int .u8 8 ∧ u8 = .int .i64 3 ∧ X ≠ ⟨#[43]⟩) ∨ (u7 = .string ⟨#[]⟩ ∧ u6 = .int .u8 9 ∧ u8 = .int .i64 4 ∧ X ≠ ⟨#[43]⟩ ∧ X ≠ ⟨#[45]⟩)
set_option maxHeartbeats 3200000 in
set_option maxRecDepth 1000000 in
theorem op_3 (X : ByteArray) (w : World) : Calls Tryd.prog 48 #[.int .i64 3, .string X] w fun e w' => e = .returned (.int .u8 (opX 3 X)) ∧ Below w.heap.size w w' := by
  have HB : Hid (∀ o o', Below w.heap.size w ((w.alloc o).alloc o')) := Lib.hid (fun o o' => ((Below.refl _ _).alloc (Nat.le_refl _) o).alloc (by simp) o')
  go_enter Tryd.func48, Tryd.ntmps48
  go_wp2_with fail
  go_loop [7, 6, 8] (fun u7 u6 u8 => St3 X u7 u6 u8) (fun _ _ u8 => 5 - (intOf u8).toNat)
  case atStart => exact .inl ⟨rfl, rfl, rfl⟩
  case round =>
    unfold St3 at hrel
    rcases hrel with ⟨rfl, rfl, rfl⟩ | ⟨rfl, rfl, rfl⟩ | ⟨rfl, rfl, rfl, n0⟩ | ⟨rfl, rfl, rfl, n0⟩ | ⟨rfl, rfl, rfl, n0, n1⟩
    · -- 0
      go_wp2_with fail
      go_round
      case rel => exact .inr (.inl ⟨rfl, rfl, rfl⟩)
      case measure => simp [intOf]
    · -- 1
      by_cases hx : X = ⟨#[43]⟩
      · have hr : opX 3 X = 7 := by simp [opX, hx]
        have he := str_eq (a := ⟨#[43]⟩) hx.symm
        rw [ByteArray.toList_eq ⟨#[43]⟩] at he
        dsimp only at he
        have HR := Lib.hid hr
        clear hx hr
        go_wp2_with fail
        go_ret
        exact ⟨by rw [HR.out]; rfl, HB.out _ _⟩
      · have he := str_ne (a := ⟨#[43]⟩) (fun e => hx e.symm)
        rw [ByteArray.toList_eq ⟨#[43]⟩] at he
        dsimp only at he
        have HX := Lib.hid hx
        clear hx
        go_wp2_with fail
        go_round
        case rel => exact .inr (.inr (.inl ⟨rfl, rfl, rfl, HX.out⟩))
        case measure => simp [intOf]
    · -- 2
      go_wp2_with fail
      go_round
      case rel => exact .inr (.inr (.inr (.inl ⟨rfl, rfl, rfl, n0⟩)))
      case measure => simp [intOf]
    · -- 3
      by_cases hx : X = ⟨#[45]⟩
      · have hr : opX 3 X = 8 := by simp [opX, hx]
        have he := str_eq (a := ⟨#[45]⟩) hx.symm
        rw [ByteArray.toList_eq ⟨#[45]⟩] at he
        dsimp only at he
        have HR := Lib.hid hr
        clear hx hr
        go_wp2_with fail
        go_ret
        exact ⟨by rw [HR.out]; rfl, HB.out _ _⟩
      · have he := str_ne (a := ⟨#[45]⟩) (fun e => hx e.symm)
        rw [ByteArray.toList_eq ⟨#[45]⟩] at he
        dsimp only at he
        have HX := Lib.hid hx
        clear hx
        go_wp2_with fail
        go_round
        case rel => exact .inr (.inr (.inr (.inr (⟨rfl, rfl, rfl, n0, HX.out⟩))))
        case measure => simp [intOf]
    · -- 4
      have hr : opX 3 X = 0 := by simp [opX, n0, n1]
      have HR := Lib.hid hr
      clear hr
      go_wp2_with fail
      go_ret
      exact ⟨by rw [HR.out]; rfl, HB.out _ _⟩

def St4 (X : ByteArray) (u7 u6 u8 : Value) : Prop := (u7 = .string ⟨#[]⟩ ∧ u6 = .int .u8 9 ∧ u8 = .int .i64 0) ∨ (u7 = .string ⟨#[42]⟩ ∧ u6 = .int .u8 9 ∧ u8 = .int .i64 1) ∨ (u7 = .string ⟨#[]⟩ ∧ u6 = .int .u8 10 ∧ u8 = .int .i64 2 ∧ X ≠ ⟨#[42]⟩) ∨ (u7 = .string ⟨#[47]⟩ ∧ u6 = .int .u8 10 ∧ u8 = .int .i64 3 ∧ X ≠ ⟨#[42]⟩) ∨ (u7 = .string ⟨#[]⟩ ∧ u6 = .int .u8 11 ∧ u8 = .int .i64 4 ∧ X ≠ ⟨#[42]⟩ ∧ X ≠ ⟨#[47]⟩) ∨ (u7 = .string ⟨#[37]⟩ ∧ u6 = .int .u8 11 ∧ u8 = .int .i64 5 ∧ X ≠ ⟨#[42]⟩ ∧ X ≠ ⟨#[47]⟩) ∨ (u7 = .string ⟨#[]⟩ ∧ u6 = .int .u8 12 ∧ u8 = .int .i64 6 ∧ X ≠ ⟨#[42]⟩ ∧ X ≠ ⟨#[47]⟩ ∧ X ≠ ⟨#[37]⟩)
set_option maxHeartbeats 3200000 in
set_option maxRecDepth 1000000 in
theorem op_4 (X : ByteArray) (w : World) : Calls Tryd.prog 48 #[.int .i64 4, .string X] w fun e w' => e = .returned (.int .u8 (opX 4 X)) ∧ Below w.heap.size w w' := by
  have HB : Hid (∀ o o', Below w.heap.size w ((w.alloc o).alloc o')) := Lib.hid (fun o o' => ((Below.refl _ _).alloc (Nat.le_refl _) o).alloc (by simp) o')
  go_enter Tryd.func48, Tryd.ntmps48
  go_wp2_with fail
  go_loop [7, 6, 8] (fun u7 u6 u8 => St4 X u7 u6 u8) (fun _ _ u8 => 7 - (intOf u8).toNat)
  case atStart => exact .inl ⟨rfl, rfl, rfl⟩
  case round =>
    unfold St4 at hrel
    rcases hrel with ⟨rfl, rfl, rfl⟩ | ⟨rfl, rfl, rfl⟩ | ⟨rfl, rfl, rfl, n0⟩ | ⟨rfl, rfl, rfl, n0⟩ | ⟨rfl, rfl, rfl, n0, n1⟩ | ⟨rfl, rfl, rfl, n0, n1⟩ | ⟨rfl, rfl, rfl, n0, n1, n2⟩
    · -- 0
      go_wp2_with fail
      go_round
      case rel => exact .inr (.inl ⟨rfl, rfl, rfl⟩)
      case measure => simp [intOf]
    · -- 1
      by_cases hx : X = ⟨#[42]⟩
      · have hr : opX 4 X = 9 := by simp [opX, hx]
        have he := str_eq (a := ⟨#[42]⟩) hx.symm
        rw [ByteArray.toList_eq ⟨#[42]⟩] at he
        dsimp only at he
        have HR := Lib.hid hr
        clear hx hr
        go_wp2_with fail
        go_ret
        exact ⟨by rw [HR.out]; rfl, HB.out _ _⟩
      · have he := str_ne (a := ⟨#[42]⟩) (fun e => hx e.symm)
        rw [ByteArray.toList_eq ⟨#[42]⟩] at he
        dsimp only at he
        have HX := Lib.hid hx
        clear hx
        go_wp2_with fail
        go_round
        case rel => exact .inr (.inr (.inl ⟨rfl, rfl, rfl, HX.out⟩))
        case measure => simp [intOf]
    · -- 2
      go_wp2_with fail
      go_round
      case rel => exact .inr (.inr (.inr (.inl ⟨rfl, rfl, rfl, n0⟩)))
      case measure => simp [intOf]
    · -- 3
      by_cases hx : X = ⟨#[47]⟩
      · have hr : opX 4 X = 10 := by simp [opX, hx]
        have he := str_eq (a := ⟨#[47]⟩) hx.symm
        rw [ByteArray.toList_eq ⟨#[47]⟩] at he
        dsimp only at he
        have HR := Lib.hid hr
        clear hx hr
        go_wp2_with fail
        go_ret
        exact ⟨by rw [HR.out]; rfl, HB.out _ _⟩
      · have he := str_ne (a := ⟨#[47]⟩) (fun e => hx e.symm)
        rw [ByteArray.toList_eq ⟨#[47]⟩] at he
        dsimp only at he
        have HX := Lib.hid hx
        clear hx
        go_wp2_with fail
        go_round
        case rel => exact .inr (.inr (.inr (.inr (.inl ⟨rfl, rfl, rfl, n0, HX.out⟩))))
        case measure => simp [intOf]
    · -- 4
      go_wp2_with fail
      go_round
      case rel => exact .inr (.inr (.inr (.inr (.inr (.inl ⟨rfl, rfl, rfl, n0, n1⟩)))))
      case measure => simp [intOf]
    · -- 5
      by_cases hx : X = ⟨#[37]⟩
      · have hr : opX 4 X = 11 := by simp [opX, hx]
        have he := str_eq (a := ⟨#[37]⟩) hx.symm
        rw [ByteArray.toList_eq ⟨#[37]⟩] at he
        dsimp only at he
        have HR := Lib.hid hr
        clear hx hr
        go_wp2_with fail
        go_ret
        exact ⟨by rw [HR.out]; rfl, HB.out _ _⟩
      · have he := str_ne (a := ⟨#[37]⟩) (fun e => hx e.symm)
        rw [ByteArray.toList_eq ⟨#[37]⟩] at he
        dsimp only at he
        have HX := Lib.hid hx
        clear hx
        go_wp2_with fail
        go_round
        case rel => exact .inr (.inr (.inr (.inr (.inr (.inr (⟨rfl, rfl, rfl, n0, n1, HX.out⟩))))))
        case measure => simp [intOf]
    · -- 6
      have hr : opX 4 X = 0 := by simp [opX, n0, n1, n2]
      have HR := Lib.hid hr
      clear hr
      go_wp2_with fail
      go_ret
      exact ⟨by rw [HR.out]; rfl, HB.out _ _⟩

theorem okl {t : List Nat} (h : ∀ r ∈ t, r < 128) : ∀ r ∈ t, okR r := fun r hr => by have := h r hr; unfold okR; omega
theorem textOf_sign {l t : List Nat} {T : ByteArray} (hl : ∀ r ∈ l, okR r) (ht : ∀ r ∈ t, okR r) (hT : textOf t = T) : (textOf l = T) = (l = t) :=
  propext ⟨fun e => textOf_inj hl ht (e.trans hT.symm), fun e => by rw [e, hT]⟩
theorem opX_at {l : List Nat} (hl : ∀ r ∈ l, okR r) : ∀ r, r < 5 → opX r (textOf l) = opAt r l
  | 0, _ => by unfold opX opAt; simp only [if_true]; simp only [textOf_sign hl (t := [124]) (T := ⟨#[124]⟩) (okl (by decide)) rfl]
  | 1, _ => by unfold opX opAt; simp only [if_true, Nat.reduceEqDiff, if_false]; simp only [textOf_sign hl (t := [38]) (T := ⟨#[38]⟩) (okl (by decide)) rfl]
  | 2, _ => by unfold opX opAt; simp only [if_true, Nat.reduceEqDiff, if_false]; simp only [textOf_sign hl (t := [60]) (T := ⟨#[60]⟩) (okl (by decide)) rfl, textOf_sign hl (t := [60, 61]) (T := ⟨#[60, 61]⟩) (okl (by decide)) rfl, textOf_sign hl (t := [61]) (T := ⟨#[61]⟩) (okl (by decide)) rfl, textOf_sign hl (t := [33, 61]) (T := ⟨#[33, 61]⟩) (okl (by decide)) rfl]
  | 3, _ => by unfold opX opAt; simp only [if_true, Nat.reduceEqDiff, if_false]; simp only [textOf_sign hl (t := [43]) (T := ⟨#[43]⟩) (okl (by decide)) rfl, textOf_sign hl (t := [45]) (T := ⟨#[45]⟩) (okl (by decide)) rfl]
  | 4, _ => by unfold opX opAt; simp only [if_true, Nat.reduceEqDiff, if_false]; simp only [textOf_sign hl (t := [42]) (T := ⟨#[42]⟩) (okl (by decide)) rfl, textOf_sign hl (t := [47]) (T := ⟨#[47]⟩) (okl (by decide)) rfl, textOf_sign hl (t := [37]) (T := ⟨#[37]⟩) (okl (by decide)) rfl]
theorem op_any {l : List Nat} (hl : ∀ r ∈ l, okR r) (r : Nat) (hr : r < 5) (w : World) : Calls Tryd.prog 48 #[.int .i64 (r : Int), .string (textOf l)] w fun e w' => e = .returned (.int .u8 (opAt r l)) ∧ Below w.heap.size w w' := by
  rw [← opX_at hl r hr]
  match r, hr with
  | 0, _ => exact op_0 _ w
  | 1, _ => exact op_1 _ w
  | 2, _ => exact op_2 _ w
  | 3, _ => exact op_3 _ w
  | 4, _ => exact op_4 _ w
end Go.Proofs.YtffhmbiamkbchaaDoor.exp
