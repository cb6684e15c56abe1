/- What names.Name, Many and At answer: of every text. -/
import Derived.Test.YtmhdjmfkndgboaaA
namespace Go.Proofs.Ytmhdjmfkndgboaa
open Go.RowKit

theorem below_iter (w : World) (s : ByteArray) (pos : Nat) : Below w.heap.size w (w.iter s pos) := (Below.refl _ w).alloc (Nat.le_refl _) _
theorem ret_int {k : IntKind} {a b : Int} (h : a = b) : Ending.returned (.int k a) = .returned (.int k b) := by rw [h]

set_option maxRecDepth 1000000 in
theorem many_any (s : ByteArray) (w : World) (hs : s.size ≤ 9223372036854775807) :
    Calls Try.prog 16 #[.string s] w fun e w' => e = .returned (.int .i64 (rn s 0).length) ∧ Below w.heap.size w w' := by
  go_enter Try.func16, Try.ntmps16
  go_wp2
  go_loopw [3] (fun n w' => ∃ pos many : Nat, w' = w.iter s pos ∧ n = .int .i64 many ∧ many + (rn s pos).length = (rn s 0).length) (fun _ w' => s.size - w'.iterPos w.heap.size)
  case atStart => exact ⟨0, 0, rfl, rfl, by omega⟩
  case round =>
    obtain ⟨pos, many, rfl, rfl, hc⟩ := hrel
    have hl := rn_length s 0
    by_cases hp : pos < s.size
    · have hnx : ∀ ty, (Instr.next (.pointer (some ⟨w.heap.size, 0, none⟩)) true ty).run Try.prog (w.iter s pos) = _ := fun ty => run_next_any w s pos ty hp
      have hwd := width_pos s pos hp
      have hst := congrArg List.length (rn_step s pos hp)
      rw [List.length_cons] at hst
      have hm : (many : Int) + 1 ≤ 9223372036854775807 := by omega
      have HC : Hid (many + (rn s pos).length = (rn s 0).length) := hc
      have HS : Hid _ := hst
      clear hc hst
      go_wp2
      go_roundw
      case rel => exact ⟨pos + (Utf8.decode s pos).2, many + 1, rfl, by go_num, by have := HC.out; have := HS.out; omega⟩
      case measure => simp; omega
    · have hnx : ∀ ty, (Instr.next (.pointer (some ⟨w.heap.size, 0, none⟩)) true ty).run Try.prog (w.iter s pos) = _ := fun ty => run_next_end w s pos ty hp
      rw [rn_end s pos hp] at hc
      have HC : Hid _ := hc
      clear hc
      go_wp2
      go_ret
      exact ⟨ret_int (by have := HC.out; simp at this; omega), below_iter w s pos⟩

set_option maxRecDepth 1000000 in
theorem name_any (s : ByteArray) (w : World) :
    Calls Try.prog 13 #[.string s] w fun e w' => e = .returned (.bool (nameB s)) ∧ Below w.heap.size w w' := by
  go_enter Try.func13, Try.ntmps13
  go_wp2
  go_loopw [3] (fun n w' => ∃ pos many : Nat, w' = w.iter s pos ∧ n = .int .i64 many ∧ many ≤ 24 ∧ nameFrom many (rn s pos) = nameB s) (fun _ w' => s.size - w'.iterPos w.heap.size)
  case atStart => exact ⟨0, 0, rfl, rfl, by omega, rfl⟩
  case round =>
    obtain ⟨pos, many, rfl, rfl, hm, hc⟩ := hrel
    by_cases hp : pos < s.size
    · have hnx : ∀ ty, (Instr.next (.pointer (some ⟨w.heap.size, 0, none⟩)) true ty).run Try.prog (w.iter s pos) = _ := fun ty => run_next_any w s pos ty hp
      have hwd := width_pos s pos hp
      rw [rn_step s pos hp] at hc
      simp only [nameFrom] at hc
      have HC : Hid _ := hc
      clear hc
      go_wp2_with (first | (go_at_call 24; refine (letter_any _ _).mono ?_; rintro e w' ⟨rfl, rfl⟩) | (go_at_call 25; refine (digit_any _ _).mono ?_; rintro e w' ⟨rfl, rfl⟩))
      all_goals first
        | (go_roundw
           case rel => exact ⟨pos + (Utf8.decode s pos).2, many + 1, rfl, by go_num, by omega, by rw [← HC.out, if_neg (by clear hnx HC; first | (simp_all; done) | (simp_all; omega)), if_neg (by omega)]⟩
           case measure => simp; omega)
        | (go_ret; exact ⟨ret_bool (by rw [← HC.out]; split; rfl; split; rfl; exfalso; clear hnx HC; first | omega | (simp_all; done) | (simp_all; omega)), below_iter _ _ _⟩)
    · have hnx : ∀ ty, (Instr.next (.pointer (some ⟨w.heap.size, 0, none⟩)) true ty).run Try.prog (w.iter s pos) = _ := fun ty => run_next_end w s pos ty hp
      rw [rn_end s pos hp] at hc
      simp only [nameFrom] at hc
      have HC : Hid _ := hc
      clear hc
      go_wp2
      go_ret
      exact ⟨ret_bool (by rw [← HC.out]), below_iter w s pos⟩


/-- What At answers: the rune at place n and where it begins. -/
def atE (s : ByteArray) (n : Int) : Ending :=
  match (if 0 ≤ n then (runesAt s 0)[n.toNat]? else none) with
  | some x => .returned (.tuple #[.int .i32 x.2, .int .i64 x.1, .int .i64 0])
  | none => .returned (.tuple #[.int .i32 0, .int .i64 0, .int .i64 2])
theorem atE_some {s : ByteArray} {k : Nat} {x : Nat × Nat} (h : (runesAt s 0)[k]? = some x) : atE s k = .returned (.tuple #[.int .i32 x.2, .int .i64 x.1, .int .i64 0]) := by
  unfold atE
  simp [h]
theorem atE_none {s : ByteArray} {n : Int} (h : n < 0 ∨ (runesAt s 0).length ≤ n.toNat) : atE s n = .returned (.tuple #[.int .i32 0, .int .i64 0, .int .i64 2]) := by
  unfold atE
  by_cases h0 : 0 ≤ n
  · rw [if_pos h0, List.getElem?_eq_none (by omega)]
  · rw [if_neg h0]
theorem drop_step {s : ByteArray} {k pos : Nat} (hp : pos < s.size) (h : runesAt s pos = (runesAt s 0).drop k) : (runesAt s 0)[k]? = some (pos, (Utf8.decode s pos).1) ∧ runesAt s (pos + (Utf8.decode s pos).2) = (runesAt s 0).drop (k + 1) := by
  rw [runesAt_step s pos hp] at h
  constructor
  · have := congrArg (·[0]?) h
    simpa using this.symm
  · have := congrArg List.tail h
    simpa using this

set_option maxRecDepth 1000000 in
theorem at_any (s : ByteArray) (n : Int) (w : World) (hs : s.size ≤ 9223372036854775807) :
    Calls Try.prog 10 #[.string s, .int .i64 n] w fun e w' => e = atE s n ∧ Below w.heap.size w w' := by
  go_enter Try.func10, Try.ntmps10
  go_wp2
  go_loopw [7] (fun m w' => ∃ pos k : Nat, w' = w.iter s pos ∧ m = .int .i64 k ∧ runesAt s pos = (runesAt s 0).drop k ∧ k + (runesAt s pos).length ≤ s.size ∧ ¬ (0 ≤ n ∧ n < k)) (fun _ w' => s.size - w'.iterPos w.heap.size)
  case atStart => exact ⟨0, 0, rfl, rfl, rfl, by have := runesAt_length s 0; omega, by omega⟩
  case round =>
    obtain ⟨pos, k, rfl, rfl, hd, hl, hn⟩ := hrel
    by_cases hp : pos < s.size
    · have hnx : ∀ ty, (Instr.next (.pointer (some ⟨w.heap.size, 0, none⟩)) true ty).run Try.prog (w.iter s pos) = _ := fun ty => run_next_any w s pos ty hp
      have hwd := width_pos s pos hp
      obtain ⟨h1, h2⟩ := drop_step hp hd
      rw [runesAt_step s pos hp, List.length_cons] at hl
      have hk : (k : Int) + 1 ≤ 9223372036854775807 := by omega
      have H1 := Lib.hid h1; have H2 := Lib.hid h2; have HD := Lib.hid hd
      clear h1 h2 hd
      by_cases he : n = k
      · have hb : ((k : Int) == n) = true := by simp [he]
        have HE := Lib.hid he; clear he
        go_wp2
        go_ret3
        exact ⟨by rw [HE.out, atE_some H1.out]; rfl, below_iter _ _ _⟩
      · have hb : ((k : Int) == n) = false := by simp; omega
        go_wp2
        go_roundw
        case rel => exact ⟨pos + (Utf8.decode s pos).2, k + 1, rfl, by go_num, H2.out, by omega, by omega⟩
        case measure => simp; omega
    · have hnx : ∀ ty, (Instr.next (.pointer (some ⟨w.heap.size, 0, none⟩)) true ty).run Try.prog (w.iter s pos) = _ := fun ty => run_next_end w s pos ty hp
      rw [runesAt_end s pos hp] at hd
      have HD := Lib.hid hd
      clear hd
      go_wp2
      go_ret3
      exact ⟨by rw [atE_none (by have h := congrArg List.length HD.out; simp only [List.length_nil, List.length_drop] at h; omega)]; rfl, below_iter _ _ _⟩
end Go.Proofs.Ytmhdjmfkndgboaa
