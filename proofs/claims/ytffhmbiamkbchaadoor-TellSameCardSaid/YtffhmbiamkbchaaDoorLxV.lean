/- What changelingref07.what answers of a rune. -/
import Derived.Test.YtffhmbiamkbchaaDoorMLy
import Derived.Test.YtffhmbiamkbchaaDoorLxH
import Derived.Test.YtffhmbiamkbchaaDoorNmG
namespace Go.Proofs.YtffhmbiamkbchaaDoor.lex
set_option linter.unusedSimpArgs false
set_option linter.unusedVariables false
open Go.RowKit nam

theorem cls_no {r : Nat} (hd : digB r = false) (hb : blkB r = false) (hs : sgnB r = false) : cls r = if letB r then 1 else 0 := by
  unfold cls; rw [hd, hb, hs]; rfl
theorem sgnB_list (r : Nat) : sgnB r = decide (r = 43 ∨ r = 45 ∨ r = 42 ∨ r = 47 ∨ r = 37 ∨ r = 40 ∨ r = 41 ∨ r = 38 ∨ r = 124 ∨ r = 33 ∨ r = 61 ∨ r = 60) := by
  unfold sgnB
  rw [Bool.eq_iff_iff]
  simp
/-- The signs, by their places. -/
def sgnAt (k : Nat) : Nat := [43, 45, 42, 47, 37, 40, 41, 38, 124, 33, 61, 60].getD k 0
theorem sgn_none {r : Nat} (h : ∀ j, j < 12 → sgnAt j ≠ r) : sgnB r = false := by
  have h0 := h 0 (by omega); have h1 := h 1 (by omega); have h2 := h 2 (by omega); have h3 := h 3 (by omega); have h4 := h 4 (by omega); have h5 := h 5 (by omega)
  have h6 := h 6 (by omega); have h7 := h 7 (by omega); have h8 := h 8 (by omega); have h9 := h 9 (by omega); have h10 := h 10 (by omega); have h11 := h 11 (by omega)
  simp [sgnAt] at h0 h1 h2 h3 h4 h5 h6 h7 h8 h9 h10 h11
  rw [sgnB_list]
  simp
  omega
theorem sgn_some {r k : Nat} (hk : k < 12) (h : sgnAt k = r) : sgnB r = true := by
  subst h
  have : ∀ j, j < 12 → sgnB (sgnAt j) = true := by decide
  exact this k hk
theorem sgn_byte (k : Nat) (hk : k < 12) : ((⟨#[43, 45, 42, 47, 37, 40, 41, 38, 124, 33, 61, 60]⟩ : ByteArray)[k]'hk).toNat = sgnAt k := by
  have : ∀ j (hj : j < 12), ((⟨#[43, 45, 42, 47, 37, 40, 41, 38, 124, 33, 61, 60]⟩ : ByteArray)[j]'hj).toNat = sgnAt j := by decide
  exact this k hk

theorem sgn_wrap (k : Nat) (hk : k < 12) : wrap32 (sgnAt k : Int) = sgnAt k := by
  have : ∀ j, j < 12 → wrap32 (sgnAt j : Int) = sgnAt j := by decide +kernel
  exact this k hk
theorem enc_small (r : Nat) (hr : okR r) : (Utf8.encode (r : Int)).size ≤ 1000000 := by rw [textOf_one r hr]; have := textOf_bound [r] 1 (by simp); omega
set_option maxHeartbeats 400000 in
set_option maxRecDepth 1000000 in
theorem what_any (r : Nat) (hr : okR r) (w : World) : Calls Tryd.prog 46 #[.int .i32 r] w fun e w' => e = .returned (.int .i64 (cls r)) ∧ Below w.heap.size w w' := by
  cases hd : digB r with
  | true =>
    have h := dig_range hd
    have h1 : (48 : Int) ≤ r := by omega
    have h2 : (r : Int) ≤ 57 := by omega
    have HC := Lib.hid (cls_dig hd)
    clear hd h
    go_enter Tryd.func46, Tryd.ntmps46
    go_wp2_with fail
    go_ret
    exact ⟨by rw [HC.out]; rfl, Below.refl _ _⟩
  | false =>
    have h12 : ¬ (48 ≤ r ∧ r ≤ 57) := by unfold digB at hd; simpa using hd
    cases hb : blkB r with
    | true =>
      have HC : Hid (cls r = 4) := Lib.hid (by unfold cls; rw [hd, hb]; rfl)
      have h := hb
      unfold blkB at h
      simp at h
      clear hd hb h12
      rcases h with rfl | rfl
      all_goals
        go_enter Tryd.func46, Tryd.ntmps46
        go_wp2_with fail
        go_ret
        exact ⟨by rw [HC.out]; rfl, Below.refl _ _⟩
    | false =>
      have hnb : ((r : Int) == 32) = false ∧ ((r : Int) == 9) = false := by
        unfold blkB at hb
        simp at hb ⊢
        omega
      obtain ⟨b1, b2⟩ := hnb
      have HD := Lib.hid hd; have HB := Lib.hid hb
      clear hd hb
      have hside : (r : Int) < 48 ∨ (48 ≤ (r : Int) ∧ ¬ (r : Int) ≤ 57) := by omega
      clear h12
      rcases hside with h48 | ⟨h48, h57⟩
      all_goals
        go_enter Tryd.func46, Tryd.ntmps46
        go_wp2_with fail
        go_loop [4] (fun i => ∃ k : Nat, k ≤ 12 ∧ i = .int .i64 k ∧ Hid (∀ j, j < k → sgnAt j ≠ r)) (fun i => 12 - (intOf i).toNat)
        case atStart => exact ⟨0, by omega, rfl, Lib.hid (fun j hj => by omega)⟩
        case round =>
          obtain ⟨k, hk, rfl, HJ⟩ := hrel
          by_cases hlt : k < 12
          · have hix := sgn_byte k hlt
            have hlt' : (k : Int) < 12 := by omega
            by_cases he : sgnAt k = r
            · have HC : Hid (cls r = 3) := Lib.hid (by unfold cls; rw [HD.out, HB.out, sgn_some hlt he]; rfl)
              have hbq : (wrap32 (sgnAt k : Int) == (r : Int)) = true := by rw [sgn_wrap k hlt]; simp [he]
              clear he
              go_wp2_with fail
              go_ret
              exact ⟨by rw [HC.out]; rfl, Below.refl _ _⟩
            · have hbq : (wrap32 (sgnAt k : Int) == (r : Int)) = false := by rw [sgn_wrap k hlt]; simp; omega
              have HE := Lib.hid he
              clear he
              go_wp2_with fail
              go_round
              case rel => exact ⟨k + 1, by omega, by go_num, Lib.hid (fun j hj => by
                rcases Nat.lt_or_ge j k with h | h
                · exact HJ.out j h
                · obtain rfl : j = k := by omega
                  exact HE.out)⟩
              case measure => simp [intOf]; omega
          · obtain rfl : k = 12 := by omega
            have HS := Lib.hid (sgn_none HJ.out)
            cases hl : letB r with
            | true =>
              have HC : Hid (cls r = 1) := Lib.hid (by rw [cls_no HD.out HB.out HS.out, hl]; rfl)
              have HL := Lib.hid hl
              clear hl
              go_wp2_with fail
              refine (refName_any _ _ (enc_small r hr)).mono ?_
              rintro e w1 ⟨rfl, hb1⟩
              rw [textOf_one r hr, nameB_one r hr, HL.out]
              have HB1 := Lib.hid hb1; clear hb1
              go_wp2_with fail
              go_ret
              exact ⟨by rw [HC.out]; rfl, HB1.out⟩
            | false =>
              have HC : Hid (cls r = 0) := Lib.hid (by rw [cls_no HD.out HB.out HS.out, hl]; rfl)
              have HL := Lib.hid hl
              clear hl
              go_wp2_with fail
              refine (refName_any _ _ (enc_small r hr)).mono ?_
              rintro e w1 ⟨rfl, hb1⟩
              rw [textOf_one r hr, nameB_one r hr, HL.out]
              have HB1 := Lib.hid hb1; clear hb1
              go_wp2_with fail
              go_ret
              exact ⟨by rw [HC.out]; rfl, HB1.out⟩
end Go.Proofs.YtffhmbiamkbchaaDoor.lex
