/- How much room parts leave; whether there are neither too few nor too many of anything. -/
import Derived.Test.YtjmfneljgogohaaDoorJbI
namespace Go.Proofs.YtjmfneljgogohaaDoor.jb
set_option linter.unusedSimpArgs false
set_option linter.unusedVariables false
open Go.RowKit nam exp

/-- What is left behind these parts, none of which is looked at where there is no room. -/
def leaveL : List Ex → Int → Int
  | [], r => r
  | x :: l, r => if r < 0 then r else leaveL l (leave x.size r)
theorem leaveL_neg {l : List Ex} {r : Int} (h : r < 0) : leaveL l r = r := by
  cases l with
  | nil => rfl
  | cons x l => rw [leaveL, if_pos h]
theorem leaveL_eq : ∀ {l : List Ex} {r : Int}, 0 ≤ r → leaveL l r = max (-1) (r - sizes l)
  | [], r, h => by rw [leaveL, sizes_nil]; omega
  | x :: l, r, h => by
    rw [leaveL, if_neg (by omega), sizes_cons]
    have hx := size_pos x
    by_cases h1 : leave x.size r < 0
    · rw [leaveL_neg h1]
      unfold leave at h1 ⊢
      rw [if_neg (by omega)] at h1 ⊢
      push_cast
      omega
    · rw [leaveL_eq (by omega)]
      unfold leave at h1 ⊢
      rw [if_neg (by omega)] at h1 ⊢
      push_cast
      omega
theorem leave_parts (l : List Ex) (r : Int) : leave (1 + sizes l) r = leaveL l (r - 1) := by
  unfold leave
  by_cases h : r < 0
  · rw [if_pos h, leaveL_neg (by omega)]
  · rw [if_neg h]
    by_cases h0 : r = 0
    · subst h0
      rw [leaveL_neg (by omega)]
      push_cast
      omega
    · rw [leaveL_eq (by omega)]
      push_cast
      omega
theorem leave_less {s : Nat} {r : Int} (hs : 1 ≤ s) (hr : 0 ≤ r) : -1 ≤ leave s r ∧ leave s r ≤ r - 1 := by
  unfold leave
  rw [if_neg (by omega)]
  omega
theorem leaveL_drop {l : List Ex} {k : Nat} {r : Int} (h : k < l.length) (hr : 0 ≤ r) : leaveL (l.drop k) r = leaveL (l.drop (k + 1)) (leave l[k].size r) := by
  rw [List.drop_eq_getElem_cons h, leaveL, if_neg (by omega)]
set_option maxHeartbeats 1600000 in
set_option maxRecDepth 1000000 in
theorem left_at : ∀ (s : Nat) (l : List Ex), sizes l ≤ s → ∀ (w : World) (b o : Nat) (v : Value) (r : Int), w.cell? ⟨b, o + 2, none⟩ = some v → Lies w Any v l → -100 ≤ r → r ≤ 1000 →
    Calls Tryd.prog 32 #[.pointer (some ⟨b, o, none⟩), .int .i64 r] w fun e w' => e = .returned (.int .i64 (leave (1 + sizes l) r)) ∧ w' = w := by
  intro s
  induction s with
  | zero =>
    intro l hl w b o v r hc hv h1 h2
    obtain rfl : l = [] := List.eq_nil_of_length_eq_zero (by have := sizes_len l; omega)
    rw [leave_parts]
    obtain ⟨a, c, rfl, _⟩ := hv.form
    clear hv
    have hn : ¬ ((0 : Int) < ((([] : List Ex).length : Nat) : Int)) := by simp
    go_enter Tryd.func32, Tryd.ntmps32
    go_wp2_with fail
    go_loopg [1, 5] 0 (fun g v1 v5 wr => v1 = .int .i64 (r - 1) ∧ v5 = .int .i64 0 ∧ wr = w)
    case atStart => exact ⟨by go_num, rfl, rfl⟩
    case round =>
      obtain ⟨rfl, rfl, rfl⟩ := hrel
      go_wp2_with fail
      try rw [Exit.noGoto_ret]
      go_ret
      exact ⟨by rw [leaveL]; rfl, rfl⟩
  | succ s ih =>
    intro l hl w b o v r hc hv h1 h2
    rw [leave_parts]
    have HIH : Hid (∀ (k : Nat) (hk : k < l.length) (b' : Nat) (r' : Int), At w Any b' (k * 3) l[k] → 0 ≤ r' → r' ≤ 1000 → Calls Tryd.prog 32 #[.pointer (some ⟨b', k * 3, none⟩), .int .i64 r'] w fun e w' => e = .returned (.int .i64 (leave l[k].size r')) ∧ w' = w) := Lib.hid (fun k hk b' r' hat g1 g2 => by
      obtain ⟨a', c', _, _, k3, k4, _⟩ := hat.cells
      have hsz := sizes_mem (List.getElem_mem hk)
      have hse := size_eq l[k]
      have := ih l[k].args (by omega) w b' (k * 3) _ r' k3 k4 (by omega) g2
      rw [← hse] at this
      exact this)
    obtain ⟨a, c, rfl, hat⟩ := hv.form
    have HAT := Lib.hid hat
    have HSZ : Hid (∀ y : Ex, 1 ≤ y.size) := Lib.hid size_pos
    clear hv hat ih hl
    obtain ⟨n, hn⟩ : ∃ n, l.length = n := ⟨_, rfl⟩
    have HN := Lib.hid hn
    rw [hn] at hc
    clear hn
    go_enter Tryd.func32, Tryd.ntmps32
    go_wp2_with fail
    go_loopg [1, 5] n (fun g v1 v5 wr => ∃ (k : Nat) (q : Int), k + g = n ∧ v5 = .int .i64 k ∧ v1 = .int .i64 q ∧ leaveL (l.drop k) q = leaveL l (r - 1) ∧ -101 ≤ q ∧ (k : Int) + q ≤ 999 ∧ (0 ≤ q ∨ k ≤ 1000) ∧ wr = w)
    case atStart => exact ⟨0, r - 1, by omega, rfl, by go_num, rfl, by omega, by omega, by omega, rfl⟩
    case round =>
      obtain ⟨k, q, hk, rfl, rfl, hf, hq1, hq2, hq3, rfl⟩ := hrel
      have HF := Lib.hid hf; clear hf
      by_cases hkn : k < n
      · have hkl : k < l.length := by rw [HN.out]; exact hkn
        have hki : (k : Int) < (n : Int) := by omega
        by_cases hq0 : 0 ≤ q
        · obtain ⟨b1, rfl, hat⟩ := HAT.out (by omega)
          have HC := Lib.hid (HIH.out k hkl b1 q (hat k hkl) hq0 (by omega))
          have HD := Lib.hid (leaveL_drop hkl hq0)
          have hls := leave_less (HSZ.out l[k]) hq0
          obtain ⟨q', hq'⟩ : ∃ q', leave l[k].size q = q' := ⟨_, rfl⟩
          rw [hq'] at HC HD hls
          clear hkl hat hq'
          obtain ⟨g1, g2⟩ := hls
          go_wp2_with fail
          refine HC.out.mono ?_
          rintro e w1 ⟨rfl, rfl⟩
          go_wp2_with fail
          go_roundg (gk - 1)
          case rel => exact ⟨k + 1, q', by omega, by go_num, rfl, by rw [← HD.out]; exact HF.out, by omega, by push_cast; omega, by omega, rfl⟩
          case measure => omega
        · have HE : Hid (Ending.returned (.int .i64 q) = .returned (.int .i64 (leaveL l (r - 1)))) := Lib.hid (by rw [← HF.out, leaveL_neg (by omega)])
          have hq0' : q < 0 := by omega
          clear hkl
          go_wp2_with fail
          try rw [Exit.noGoto_ret]
          go_ret
          exact ⟨HE.out, rfl⟩
      · have hki : ¬ (k : Int) < (n : Int) := by omega
        have HE : Hid (Ending.returned (.int .i64 q) = .returned (.int .i64 (leaveL l (r - 1)))) := Lib.hid (by rw [← HF.out, List.drop_eq_nil_of_le (by rw [HN.out]; omega)]; rfl)
        clear hkn
        go_wp2_with fail
        try rw [Exit.noGoto_ret]
        go_ret
        exact ⟨HE.out, rfl⟩
end Go.Proofs.YtjmfneljgogohaaDoor.jb
