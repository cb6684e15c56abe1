/- What names.Name, Many and At answer: of every text. -/
import Derived.Test.YtjmfneljgogohaaDoorNmA
namespace Go.Proofs.YtjmfneljgogohaaDoor.nam
open Go.RowKit

theorem below_iter (w : World) (s : ByteArray) (pos : Nat) : Below w.heap.size w (w.iter s pos) := (Below.refl _ w).alloc (Nat.le_refl _) _
theorem ret_int {k : IntKind} {a b : Int} (h : a = b) : Ending.returned (.int k a) = .returned (.int k b) := by rw [h]

set_option maxRecDepth 1000000 in
theorem name_any (s : ByteArray) (w : World) :
    Calls Tryd.prog 17 #[.string s] w fun e w' => e = .returned (.bool (nameB s)) ∧ Below w.heap.size w w' := by
  go_enter Tryd.func17, Tryd.ntmps17
  go_wp2
  go_loopw [3] (fun n w' => ∃ pos many : Nat, w' = w.iter s pos ∧ n = .int .i64 many ∧ many ≤ 24 ∧ nameFrom many (rn s pos) = nameB s) (fun _ w' => s.size - w'.iterPos w.heap.size)
  case atStart => exact ⟨0, 0, rfl, rfl, by omega, rfl⟩
  case round =>
    obtain ⟨pos, many, rfl, rfl, hm, hc⟩ := hrel
    by_cases hp : pos < s.size
    · have hnx : ∀ ty, (Instr.next (.pointer (some ⟨w.heap.size, 0, none⟩)) true ty).run Tryd.prog (w.iter s pos) = _ := fun ty => run_next_any w s pos ty hp
      have hwd := width_pos s pos hp
      rw [rn_step s pos hp] at hc
      simp only [nameFrom] at hc
      have HC : Hid _ := hc
      clear hc
      go_wp2_with (first | (go_at_call 30; refine (letter_any _ _).mono ?_; rintro e w' ⟨rfl, rfl⟩) | (go_at_call 31; refine (digit_any _ _).mono ?_; rintro e w' ⟨rfl, rfl⟩))
      all_goals first
        | (go_roundw
           case rel => exact ⟨pos + (Utf8.decode s pos).2, many + 1, rfl, by go_num, by omega, by rw [← HC.out, if_neg (by clear hnx HC; first | (simp_all; done) | (simp_all; omega)), if_neg (by omega)]⟩
           case measure => simp; omega)
        | (go_ret; exact ⟨ret_bool (by rw [← HC.out]; split; rfl; split; rfl; exfalso; clear hnx HC; first | omega | (simp_all; done) | (simp_all; omega)), below_iter _ _ _⟩)
    · have hnx : ∀ ty, (Instr.next (.pointer (some ⟨w.heap.size, 0, none⟩)) true ty).run Tryd.prog (w.iter s pos) = _ := fun ty => run_next_end w s pos ty hp
      rw [rn_end s pos hp] at hc
      simp only [nameFrom] at hc
      have HC : Hid _ := hc
      clear hc
      go_wp2
      go_ret
      exact ⟨ret_bool (by rw [← HC.out]), below_iter w s pos⟩


theorem drop_step {s : ByteArray} {k pos : Nat} (hp : pos < s.size) (h : runesAt s pos = (runesAt s 0).drop k) : (runesAt s 0)[k]? = some (pos, (Utf8.decode s pos).1) ∧ runesAt s (pos + (Utf8.decode s pos).2) = (runesAt s 0).drop (k + 1) := by
  rw [runesAt_step s pos hp] at h
  constructor
  · have := congrArg (·[0]?) h
    simpa using this.symm
  · have := congrArg List.tail h
    simpa using this
theorem name_true {s : ByteArray} (h : nameB s = true) (w : World) : Calls Tryd.prog 17 #[.string s] w fun e w' => e = .returned (.bool true) ∧ Below w.heap.size w w' := by
  have := name_any s w; rwa [h] at this
theorem name_false {s : ByteArray} (h : nameB s = false) (w : World) : Calls Tryd.prog 17 #[.string s] w fun e w' => e = .returned (.bool false) ∧ Below w.heap.size w w' := by
  have := name_any s w; rwa [h] at this
theorem below_on {B : Nat} {w w' w'' : World} (h : Below B w w') (k : Below w'.heap.size w' w'') (hB : B ≤ w'.heap.size) : Below B w w'' := h.trans (k.mono hB)
theorem below_on' {w w' w'' : World} (h : Below w.heap.size w w') (k : Below w'.heap.size w' w'') : Below w.heap.size w w'' := h.trans (k.mono h.size)
end Go.Proofs.YtjmfneljgogohaaDoor.nam
