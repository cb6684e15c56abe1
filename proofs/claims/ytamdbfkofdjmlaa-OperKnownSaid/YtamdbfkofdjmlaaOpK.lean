/- The stable sort of a row: the walk. -/
import Derived.Test.YtamdbfkofdjmlaaOpJ
namespace Go.Proofs.Ytamdbfkofdjmlaa.opr
set_option linter.unusedSimpArgs false
set_option linter.unusedVariables false
open Go.RowKit
attribute [local go_sem ↓] Go.wp_at_zero Go.wp_at_succ
open Go.Proofs.Ytamdbfkofdjmlaa.tbl (Only lt_of_get)
set_option maxHeartbeats 12800000 in
set_option maxRecDepth 1000000 in
theorem stable_any {w : World} {g o S : Nat} {l : List Rc} (h : Blk w g o S l) {N cap : Nat} (hN : l.length = N) (hl : N ≤ 1000000) :
    Calls Try.prog 44 #[.slice (some ⟨g, o, none⟩) N cap, .int .i64 N, cmpF] w fun e w' => e = .returned (.tuple #[]) ∧ Blk w' g o S (srt l) ∧ Only (· = g) w w' := by
  have HLN := Lib.hid hN
  have hl' : (N : Int) ≤ 1000000 := by omega
  have hN0 : (0 : Int) ≤ (N : Int) := by omega
  have H0 : Hid (St1 w g o S l 20 0 l w) := Lib.hid ⟨Seg.refl _ _ _, fun q hq => by omega, h, Only.refl _ _⟩
  clear h hN hl
  go_enter Try.func44, Try.ntmps44
  go_wp2
  go_loopg [7, 8] N (fun k v7 v8 wr => ∃ q A B c, A = q * 20 ∧ A + 20 = B ∧ v7 = .int .i64 (A : Nat) ∧ v8 = .int .i64 (B : Nat) ∧ A ≤ N ∧ N - A ≤ k ∧ Hid (St1 w g o S l 20 A c wr))
  case atStart => exact ⟨0, 0, 20, l, rfl, rfl, rfl, rfl, by omega, by omega, H0⟩
  case round =>
    clear H0
    obtain ⟨q, A, B, c, hA, hAB, rfl, rfl, hAN, hk, HS⟩ := hrel
    have HA := Lib.hid hA
    have HAB := Lib.hid hAB
    have hB0 : (0 : Int) ≤ (B : Int) := by omega
    have hB1 : (B : Int) ≤ 1000020 := by omega
    have hA0 : (0 : Int) ≤ (A : Int) := by omega
    have hA1 : (A : Int) ≤ 1000000 := by omega
    by_cases hlt : A + 20 ≤ N
    · have hlt' : (B : Int) ≤ (N : Int) := by omega
      have HI := Lib.hid (insertion_any (a := A) (b := B) (cap := cap) HS.out.blk (HS.out.seg.len.trans HLN.out) (by omega) (by omega) (by omega))
      have HK := Lib.hid (And.intro hlt (And.intro hk hAN))
      clear hA hlt hk hAN hAB
      go_wp2_with fail
      (with_reducible refine HI.out.mono ?_)
      rintro e w1 ⟨rfl, r, hr1, hr2, hr3, hr4⟩
      have HS1 : Hid (St1 w g o S l 20 B r w1) := Lib.hid (by
        have h1 := HS.out
        have h2 := HA.out
        rw [← HAB.out] at hr1 hr2 ⊢
        rw [h2] at h1 hr1 hr2
        have := h1.next (by omega) (by rw [HLN.out, ← h2]; exact HK.out.1) hr1 hr2 hr3 hr4
        rw [h2]; exact this)
      clear hr1 hr2 hr3 hr4 HI
      go_wp2
      go_roundg (N - B)
      case measure => have := HK.out; have := HAB.out; omega
      case rel => exact ⟨q + 1, B, B + 20, r, by have := HA.out; have := HAB.out; omega, rfl, rfl, rfl, by have := HK.out; have := HAB.out; omega, Nat.le_refl _, HS1⟩
    · have hlt' : ¬ ((B : Int) ≤ (N : Int)) := by omega
      have HI := Lib.hid (insertion_any (a := A) (b := N) (cap := cap) HS.out.blk (HS.out.seg.len.trans HLN.out) (by omega) (Nat.le_refl _) (by omega))
      have HK := Lib.hid (And.intro hlt (And.intro hk hAN))
      clear hA hlt hk hAN hAB
      go_wp2_with fail
      (with_reducible refine HI.out.mono ?_)
      rintro e w1 ⟨rfl, r, hr1, hr2, hr3, hr4⟩
      have HS1 : Hid (St2 w g o S l 20 r w1) := Lib.hid (by
        have h1 := HS.out
        have h2 := HA.out
        have h3 := HK.out
        rw [h2] at h1 hr1 hr2 h3
        rw [← HLN.out] at hr1 hr2 h3
        exact h1.last (by omega) h3.2.2 (by omega) hr1 hr2 hr3 hr4)
      clear hr1 hr2 hr3 hr4 HI HS
      go_wp2
      go_loopg [6] N (fun k v6 wr => ∃ s c, v6 = .int .i64 (s : Nat) ∧ 0 < s ∧ s ≤ 20 + 2 * N ∧ N - s ≤ k ∧ Hid (St2 w g o S l s c wr))
      case atStart => exact ⟨20, r, rfl, by omega, by omega, by omega, HS1⟩
      case round =>
        clear HS1 HA
        obtain ⟨s, c, rfl, hs0, hs1, hk, HS⟩ := hrel
        have hs0' : (0 : Int) < (s : Int) := by omega
        have hs1' : (s : Int) ≤ 2000020 := by omega
        by_cases hsl : s < N
        · have hsl' : (s : Int) < (N : Int) := by omega
          obtain ⟨S2, hS2⟩ : ∃ t, 2 * s = t := ⟨_, rfl⟩
          have hm1 : (2 : Int) * (s : Int) = (S2 : Int) := by omega
          have hm2 : (s : Int) * 2 = (S2 : Int) := by omega
          have hm3 : (S2 : Int) ≤ 4000040 := by omega
          have hm0 : (0 : Int) ≤ (S2 : Int) := by omega
          have HSS := Lib.hid hS2
          have HK2 := Lib.hid (And.intro hs0 (And.intro hs1 (And.intro hk hsl)))
          have HS3 := Lib.hid HS.out.three
          clear hS2 hs0 hs1 hk hsl HS
          go_wp2
          go_loopg [7, 8] N (fun k v7 v8 wr => ∃ q A B c, A = q * S2 ∧ A + S2 = B ∧ v7 = .int .i64 (A : Nat) ∧ v8 = .int .i64 (B : Nat) ∧ A ≤ N ∧ N - A ≤ k ∧ Hid (St3 w g o S l s q c wr))
          case atStart => exact ⟨0, 0, S2, c, by omega, by omega, rfl, rfl, by omega, by omega, HS3⟩
          case round =>
            clear HS3
            obtain ⟨q, A, B, c, hA, hAB, rfl, rfl, hAN, hk, HS⟩ := hrel
            have HA := Lib.hid hA
            have HAB := Lib.hid hAB
            obtain ⟨A1, hA1s⟩ : ∃ t, A + s = t := ⟨_, rfl⟩
            have HA1 := Lib.hid hA1s
            have hAs : (A : Int) + (s : Int) = (A1 : Int) := by omega
            have hAs0 : (0 : Int) ≤ (A1 : Int) := by omega
            have hAs1 : (A1 : Int) ≤ 4000040 := by omega
            have hBS : (B : Int) ≤ 5000040 := by omega
            have hB0 : (0 : Int) ≤ (B : Int) := by omega
            have hA0 : (0 : Int) ≤ (A : Int) := by omega
            have hA1 : (A : Int) ≤ 1000000 := by omega
            have HLC : Hid (c.length = N) := Lib.hid (HS.out.seg.len.trans HLN.out)
            by_cases hlt : A + S2 ≤ N
            · have hlt' : (B : Int) ≤ (N : Int) := by omega
              have hSS := HSS.out
              have hk2 := HK2.out
              have HI := Lib.hid (sym_any (a := A) (m := A1) (b := B) (cap := cap) HS.out.blk HLC.out (by omega) (by omega) (by omega) (by omega)
                (by have := HS.out.fst (by rw [HLN.out, hSS, ← hA]; omega); rwa [hSS, ← hA, hA1s] at this)
                (by have := HS.out.snd (b := B) (by rw [HLN.out, hSS, ← hA]; omega); rwa [hSS, ← hA, hA1s] at this))
              have HK := Lib.hid (And.intro hlt (And.intro hk hAN))
              clear hA hlt hk hAN hSS hk2 hAB hA1s
              go_wp2_with fail
              (with_reducible refine HI.out.mono ?_)
              rintro e w1 ⟨rfl, r, hr1, hr2, hr3, hr4⟩
              have HS1 : Hid (St3 w g o S l s (q + 1) r w1) := Lib.hid (by
                have h1 := HS.out
                have h2 := HA.out
                have h3 := HK.out
                rw [← HAB.out] at hr1 hr2
                rw [← HSS.out] at h2 hr1 hr2 h3
                rw [h2] at hr1 hr2 h3
                exact h1.next (by rw [HLN.out]; exact h3.1) hr1 hr2 hr3 hr4)
              clear hr1 hr2 hr3 hr4 HI
              go_wp2
              go_roundg (N - B)
              case measure => have := HK.out; have := HK2.out; have := HSS.out; have := HAB.out; omega
              case rel => exact ⟨q + 1, B, B + S2, r, by rw [← HAB.out, HA.out, Nat.add_mul, Nat.one_mul], rfl, rfl, rfl, by have := HK.out; have := HAB.out; omega, Nat.le_refl _, HS1⟩
            · have hlt' : ¬ ((B : Int) ≤ (N : Int)) := by omega
              have hSS := HSS.out
              have hk2 := HK2.out
              by_cases hms : A + s < N
              · have hms' : (A1 : Int) < (N : Int) := by omega
                have HI := Lib.hid (sym_any (a := A) (m := A1) (b := N) (cap := cap) HS.out.blk HLC.out (by omega) (by omega) (Nat.le_refl _) (by omega)
                  (by have := HS.out.fst (by rw [HLN.out, hSS, ← hA]; omega); rwa [hSS, ← hA, hA1s] at this)
                  (by have := HS.out.snd (b := N) (by rw [HLN.out, hSS, ← hA]; omega); rwa [hSS, ← hA, hA1s] at this))
                have HK := Lib.hid (And.intro hlt (And.intro hms hAN))
                clear hA hlt hk hAN hSS hk2 hms hAB hA1s
                go_wp2_with fail
                (with_reducible refine HI.out.mono ?_)
                rintro e w1 ⟨rfl, r, hr1, hr2, hr3, hr4⟩
                have HS1 : Hid (St2 w g o S l S2 r w1) := Lib.hid (by
                  have h1 := HS.out
                  have h2 := HA.out
                  have h3 := HK.out
                  rw [← HSS.out] at h2 h3 ⊢
                  rw [h2] at hr1 hr2 h3
                  rw [← HLN.out] at hr1 hr2 h3
                  exact h1.done h3.2.2 (by omega) hr1 hr2 hr3 hr4)
                clear hr1 hr2 hr3 hr4 HI
                go_wp2
                go_roundg (N - S2)
                case measure => have := HK2.out; have := HSS.out; omega
                case rel => exact ⟨S2, r, rfl, by have := HK2.out; have := HSS.out; omega, by have := HK2.out; have := HSS.out; omega, Nat.le_refl _, HS1⟩
              · have hms' : ¬ ((A1 : Int) < (N : Int)) := by omega
                have HS1 : Hid (St2 w g o S l S2 c wr) := Lib.hid (by
                  have h1 := HS.out
                  rw [← hSS]
                  rw [← hSS] at hA
                  rw [hA] at hAN hms
                  rw [← HLN.out] at hAN hms
                  exact h1.rest hAN (by omega) hk2.1)
                clear hA hlt hk hAN hSS hk2 hms hAB hA1s
                go_wp2
                go_roundg (N - S2)
                case measure => have := HK2.out; have := HSS.out; omega
                case rel => exact ⟨S2, c, rfl, by have := HK2.out; have := HSS.out; omega, by have := HK2.out; have := HSS.out; omega, Nat.le_refl _, HS1⟩
        · have hsl' : ¬ ((s : Int) < (N : Int)) := by omega
          have HE : Hid (Blk wr g o S (srt l) ∧ Only (· = g) w wr) := Lib.hid (by
            have e := HS.out.end (by rw [HLN.out]; omega)
            have h1 := HS.out.blk
            rw [e] at h1
            exact ⟨h1, HS.out.only⟩)
          clear hsl hs0 hs1 hk
          go_wp2
          go_end0
          exact ⟨rfl, HE.out⟩
theorem insertion_nil (ad : Option Addr) (cc : Nat) (w : World) : Calls Try.prog 64 #[.slice ad 0 cc, .int .i64 0, .int .i64 0, cmpF] w fun e w' => e = .returned (.tuple #[]) ∧ w' = w := by
  go_enter Try.func64, Try.ntmps64
  go_wp2
  refine wp_loop_rounds 1 ?_
  rw [rounds_succ]
  go_wp2
  go_end0
  exact ⟨rfl, rfl⟩
theorem stable_nil (ad : Option Addr) (cc : Nat) (w : World) : Calls Try.prog 44 #[.slice ad 0 cc, .int .i64 0, cmpF] w fun e w' => e = .returned (.tuple #[]) ∧ w' = w := by
  have HI := Lib.hid (fun w => insertion_nil ad cc w)
  go_enter Try.func44, Try.ntmps44
  go_wp2
  refine wp_loop_rounds 1 ?_
  rw [rounds_succ]
  go_wp2_with fail
  refine (HI.out _).mono ?_
  rintro e w1 ⟨rfl, rfl⟩
  go_wp2
  refine wp_loop_rounds 1 ?_
  rw [rounds_succ]
  go_wp2
  go_end0
  exact ⟨rfl, rfl⟩
theorem sortStable_any {w : World} {g o S : Nat} {l : List Rc} (h : Blk w g o S l) {N cap : Nat} (hN : l.length = N) (hl : N ≤ 1000000) :
    Calls Try.prog 24 #[.slice (some ⟨g, o, none⟩) N cap, cmpF] w fun e w' => e = .returned (.tuple #[]) ∧ Blk w' g o S (srt l) ∧ Only (· = g) w w' := by
  have H := Lib.hid (stable_any (cap := cap) h hN hl)
  clear h hN hl
  go_enter Try.func24, Try.ntmps24
  go_wp2_with fail
  (with_reducible refine H.out.mono ?_)
  rintro e w1 ⟨rfl, h1, h2⟩
  have HF := Lib.hid (And.intro h1 h2)
  clear h1 h2
  go_wp2
  go_end0
  exact ⟨rfl, HF.out⟩
theorem sortStable_nil (ad : Option Addr) (cc : Nat) (w : World) : Calls Try.prog 24 #[.slice ad 0 cc, cmpF] w fun e w' => e = .returned (.tuple #[]) ∧ w' = w := by
  have HI := Lib.hid (fun w => stable_nil ad cc w)
  go_enter Try.func24, Try.ntmps24
  go_wp2_with fail
  refine (HI.out _).mono ?_
  rintro e w1 ⟨rfl, rfl⟩
  go_wp2
  go_end0
  exact ⟨rfl, rfl⟩
end Go.Proofs.Ytamdbfkofdjmlaa.opr
