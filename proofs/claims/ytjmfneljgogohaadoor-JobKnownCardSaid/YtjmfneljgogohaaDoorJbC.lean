/- slices.Index, slices.Contains over whole numbers. -/
import Derived.Test.YtjmfneljgogohaaDoorJbM
namespace Go.Proofs.YtjmfneljgogohaaDoor.jb
set_option linter.unusedSimpArgs false
set_option linter.unusedVariables false
open Go.RowKit nam exp

def isP (p : Int) (x : Int) : Bool := decide (p = x)
set_option maxHeartbeats 800000 in
set_option maxRecDepth 1000000 in
theorem index_any {w : World} {v : Value} {l : List Int} (h : IRow w v l) (hl : l.length ≤ 1000000) (p : Int) :
    Calls Tryd.prog 46 #[v, .int .i64 p] w fun e w' => e = .returned (.int .i64 (firstI (isP p) l 0)) ∧ w' = w := by
  obtain ⟨a, c, rfl, h2⟩ := h
  have HC := Lib.hid h2
  clear h2
  obtain ⟨n, hn⟩ : ∃ n, l.length = n := ⟨_, rfl⟩
  have HN := Lib.hid hn
  rw [hn] at hl
  rw [hn]
  clear hn
  go_enter Tryd.func46, Tryd.ntmps46
  go_wp2_with fail
  go_loopg [8] n (fun g v8 wr => ∃ k : Nat, k + g = n ∧ v8 = .int .i64 k ∧ firstI (isP p) (l.drop k) k = firstI (isP p) l 0 ∧ wr = w)
  case atStart => exact ⟨0, by omega, rfl, rfl, rfl⟩
  case round =>
    obtain ⟨k, hk, rfl, hf, rfl⟩ := hrel
    have HF := Lib.hid hf; clear hf
    by_cases hkn : k < n
    · have hkl : k < l.length := by rw [HN.out]; exact hkn
      have hki : (k : Int) < (n : Int) := by omega
      obtain ⟨b, o, rfl, _, hc⟩ := HC.out (by omega)
      have hc := hc k hkl
      have HD := Lib.hid (firstI_drop (f := isP p) (k := k) hkl)
      obtain ⟨x, hx⟩ : ∃ x, l[k] = x := ⟨_, rfl⟩
      rw [hx] at hc HD
      have HP : Hid (isP p x = decide (p = x)) := Lib.hid rfl
      clear hx hkl hkn
      by_cases hpx : p = x
      · subst hpx
        have HE : Hid (Ending.returned (.int .i64 (k : Int)) = .returned (.int .i64 (firstI (isP p) l 0))) := Lib.hid (by rw [← HF.out, HD.out, HP.out]; simp)
        go_wp2_with fail
        try rw [Exit.noGoto_ret]
        go_ret
        exact ⟨HE.out, rfl⟩
      · have hne : (p == x) = false := by rw [beq_eq_false_iff_ne]; exact hpx
        have HE : Hid (firstI (isP p) (l.drop (k + 1)) (k + 1) = firstI (isP p) l 0) := Lib.hid (by rw [← HF.out, HD.out, HP.out]; simp [hpx])
        go_wp2_with fail
        go_roundg (gk - 1)
        case rel => exact ⟨k + 1, by omega, by go_num, HE.out, rfl⟩
        case measure => omega
    · have hki : ¬ (k : Int) < (n : Int) := by omega
      have HE : Hid (Ending.returned (.int .i64 (-1)) = .returned (.int .i64 (firstI (isP p) l 0))) := Lib.hid (by rw [← HF.out, List.drop_eq_nil_of_le (by rw [HN.out]; omega)]; rfl)
      clear hkn
      go_wp2_with fail
      try rw [Exit.noGoto_ret]
      go_ret
      exact ⟨HE.out, rfl⟩
theorem contains_any {w : World} {v : Value} {l : List Int} (h : IRow w v l) (hl : l.length ≤ 1000000) (p : Int) :
    Calls Tryd.prog 39 #[v, .int .i64 p] w fun e w' => e = .returned (.bool (decide (p ∈ l))) ∧ w' = w := by
  have HI := Lib.hid (index_any h hl p)
  have HR : Hid (decide (p ∈ l) = decide (0 ≤ firstI (isP p) l 0)) := Lib.hid (by
    rw [Bool.eq_iff_iff, decide_eq_true_eq, decide_eq_true_eq, firstI_lt]
    constructor
    · exact fun h => ⟨p, h, by simp [isP]⟩
    · rintro ⟨x, h1, h2⟩
      have : p = x := by simpa [isP] using h2
      rw [this]; exact h1)
  obtain ⟨r, hr⟩ : ∃ r, firstI (isP p) l 0 = r := ⟨_, rfl⟩
  rw [hr] at HI HR
  rw [HR.out]
  clear h hr HR
  go_enter Tryd.func39, Tryd.ntmps39
  go_wp2_with fail
  refine HI.out.mono ?_
  rintro e w1 ⟨rfl, rfl⟩
  go_wp2_with fail
  go_ret
  exact ⟨ret_bool (by simp), rfl⟩
end Go.Proofs.YtjmfneljgogohaaDoor.jb
