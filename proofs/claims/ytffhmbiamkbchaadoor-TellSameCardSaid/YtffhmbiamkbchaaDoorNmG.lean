/- What changelingref01.Name answers: of every text. -/
import Derived.Test.YtffhmbiamkbchaaDoorMNm
namespace Go.Proofs.YtffhmbiamkbchaaDoor.nam
open Go.RowKit

theorem rn_get {s : ByteArray} {k : Nat} {x : Nat × Nat} (h : (runesAt s 0)[k]? = some x) : (rn s 0)[k]? = some x.2 := by
  unfold rn; rw [List.getElem?_map, h]; rfl
theorem rn_len (s : ByteArray) : (rn s 0).length = (runesAt s 0).length := by unfold rn; rw [List.length_map]
theorem nameB_no {s : ByteArray} {k r : Nat} (h : (rn s 0)[k]? = some r) (hr : nruneB r = false) : nameB s = false := by
  rw [nameB_eq]
  unfold nameL
  have : (rn s 0).all nruneB = false := by
    rw [List.all_eq_false]
    exact ⟨r, List.mem_of_getElem? h, by simp [hr]⟩
  rw [this]; simp
theorem nameB_head {s : ByteArray} {r : Nat} (h : (rn s 0)[0]? = some r) (hr : letB r = false) : nameB s = false := by
  rw [nameB_eq]
  unfold nameL
  have : (rn s 0).headD 0 = r := by rw [List.headD_eq_head?_getD, List.head?_eq_getElem?, h]; rfl
  rw [this, hr]; simp
theorem nameB_size {s : ByteArray} (h : (rn s 0).length < 1 ∨ 24 < (rn s 0).length) : nameB s = false := by
  rw [nameB_eq]
  unfold nameL
  rw [decide_eq_false (by omega)]; rfl
theorem nameB_yes {s : ByteArray} {r : Nat} (h : (rn s 0)[0]? = some r) (hr : letB r = true) (h1 : 1 ≤ (rn s 0).length) (h2 : (rn s 0).length ≤ 24) (ha : ∀ j x, j < (rn s 0).length → (rn s 0)[j]? = some x → nruneB x = true) : nameB s = true := by
  rw [nameB_eq]
  unfold nameL
  have : (rn s 0).headD 0 = r := by rw [List.headD_eq_head?_getD, List.head?_eq_getElem?, h]; rfl
  rw [this, hr, decide_eq_true ⟨h1, h2⟩]
  simp only [Bool.true_and, List.all_eq_true]
  intro x hx
  obtain ⟨j, hj, rfl⟩ := List.mem_iff_getElem.1 hx
  exact ha j _ hj (List.getElem?_eq_getElem hj)
theorem letter_true {r : Nat} (h : letB r = true) (w : World) : Calls Tryd.prog 76 #[.int .i32 r] w fun e w' => e = .returned (.bool true) ∧ w = w' := by
  have := refLetter_any r w; rwa [h] at this
theorem letter_false {r : Nat} (h : letB r = false) (w : World) : Calls Tryd.prog 76 #[.int .i32 r] w fun e w' => e = .returned (.bool false) ∧ w = w' := by
  have := refLetter_any r w; rwa [h] at this

theorem nrune_let {r : Nat} (h : letB r = true) : nruneB r = true := by unfold nruneB; rw [h]; rfl
theorem nrune_45 {r : Nat} (h : r = 45) : nruneB r = true := by unfold nruneB; simp [h]
theorem nrune_dig {r : Nat} (h : 48 ≤ r) (h' : r ≤ 57) : nruneB r = true := by unfold nruneB digB; simp [h, h']
theorem nrune_no {r : Nat} (hl : letB r = false) (h : ¬ r = 45) (h' : r < 48 ∨ 57 < r) : nruneB r = false := by
  unfold nruneB digB; rw [hl]; simp [h]; omega
theorem all_more {l : List Nat} {k x : Nat} (h : ∀ j y, j < k → l[j]? = some y → nruneB y = true) (hx : l[k]? = some x) (hn : nruneB x = true) : ∀ j y, j < k + 1 → l[j]? = some y → nruneB y = true := by
  intro j y hj hy
  rcases Nat.lt_or_ge j k with h1 | h1
  · exact h j y h1 hy
  · obtain rfl : j = k := by omega
    rw [hx] at hy
    cases hy
    exact hn

set_option maxHeartbeats 1600000 in
set_option maxRecDepth 1000000 in
theorem refName_any (s : ByteArray) (w : World) (hs : s.size ≤ 1000000) : Calls Tryd.prog 60 #[.string s] w fun e w' => e = .returned (.bool (nameB s)) ∧ Below w.heap.size w w' := by
  have hrl := runesAt_length s 0
  have hrn := rn_len s
  by_cases h1 : (runesAt s 0).length < 1
  · have HN := Lib.hid (nameB_size (s := s) (by omega))
    have h1' : ((runesAt s 0).length : Int) < 1 := by omega
    clear hrn h1
    go_enter Tryd.func60, Tryd.ntmps60
    go_wp2_with fail
    refine (runes_read s _ hs).mono ?_
    rintro e w1 ⟨a1, c1, a2, c2, rfl, hb, _⟩
    have HB := Lib.hid hb; clear hb
    go_wp2_with fail
    go_ret
    exact ⟨by rw [HN.out]; rfl, HB.out⟩
  by_cases h2 : 24 < (runesAt s 0).length
  · have HN := Lib.hid (nameB_size (s := s) (by omega))
    have h2' : 24 < ((runesAt s 0).length : Int) := by omega
    clear hrn h1
    go_enter Tryd.func60, Tryd.ntmps60
    go_wp2_with fail
    refine (runes_read s _ hs).mono ?_
    rintro e w1 ⟨a1, c1, a2, c2, rfl, hb, _⟩
    have HB := Lib.hid hb; clear hb
    go_wp2_with fail
    go_ret
    exact ⟨by rw [HN.out]; rfl, HB.out⟩
  have h1' : ¬ ((runesAt s 0).length : Int) < 1 := by omega
  have h2' : ¬ 24 < ((runesAt s 0).length : Int) := by omega
  obtain ⟨x0, hx0⟩ : ∃ x, (runesAt s 0)[0]? = some x := ⟨_, List.getElem?_eq_getElem (by omega)⟩
  have HR := Lib.hid (rn_get hx0)
  have HRN := Lib.hid hrn
  have hpos : 0 < (runesAt s 0).length := by omega
  clear hrn
  cases hl : letB x0.2 with
  | false =>
    have HN := Lib.hid (nameB_head HR.out hl)
    have HL := Lib.hid hl
    have HX := Lib.hid hx0
    clear hl hx0
    go_enter Tryd.func60, Tryd.ntmps60
    go_wp2_with fail
    refine (runes_read s _ hs).mono ?_
    rintro e w1 ⟨a1, c1, a2, c2, rfl, hb, hc⟩
    obtain ⟨g1, g2, rfl, rfl, _, _, hc⟩ := hc hpos
    have HB := Lib.hid hb
    have hc0 := (hc 0 x0 HX.out).1
    clear hc hb
    go_wp2_with fail
    refine (letter_false HL.out _).mono ?_
    rintro e w2 ⟨rfl, rfl⟩
    go_wp2_with fail
    go_ret
    exact ⟨by rw [HN.out]; rfl, HB.out⟩
  | true =>
    have HL := Lib.hid hl
    have HX := Lib.hid hx0
    clear hl hx0
    go_enter Tryd.func60, Tryd.ntmps60
    go_wp2_with fail
    refine (runes_read s _ hs).mono ?_
    rintro e w1 ⟨a1, c1, a2, c2, rfl, hb, hc⟩
    obtain ⟨g1, g2, rfl, rfl, _, _, hc⟩ := hc hpos
    have HB := Lib.hid hb
    have hc0 := (hc 0 x0 HX.out).1
    have HC := Lib.hid hc
    clear hc hb
    go_wp2_with fail
    refine (letter_true HL.out _).mono ?_
    rintro e w2 ⟨rfl, rfl⟩
    clear hc0
    go_wp2_with fail
    go_loop [5] (fun i => ∃ k : Nat, k ≤ (runesAt s 0).length ∧ i = .int .i64 k ∧ Hid (∀ j x, j < k → (rn s 0)[j]? = some x → nruneB x = true)) (fun i => (runesAt s 0).length - (intOf i).toNat)
    case atStart => exact ⟨0, Nat.zero_le _, rfl, Lib.hid (fun j x hj => by omega)⟩
    case round =>
      obtain ⟨k, hk, rfl, HA⟩ := hrel
      by_cases hlt : k < (runesAt s 0).length
      · obtain ⟨x, hx⟩ : ∃ x, (runesAt s 0)[k]? = some x := ⟨_, List.getElem?_eq_getElem hlt⟩
        have hc := (HC.out k x hx).1
        have HK := Lib.hid (rn_get hx)
        clear hx
        cases hl : letB x.2 with
        | true =>
          have HL2 := Lib.hid hl
          go_wp2_with (go_at_call 76; refine (letter_true HL2.out _).mono ?_; rintro e w' ⟨rfl, rfl⟩)
          go_round
          case rel => exact ⟨k + 1, by omega, by go_num, Lib.hid (all_more HA.out HK.out (nrune_let HL2.out))⟩
          case measure => simp [intOf]; omega
        | false =>
          have HL2 := Lib.hid hl
          by_cases h45 : x.2 = 45
          · have hb : ((x.2 : Int) != 45) = false := by simp [h45]
            have h48 : (x.2 : Int) < 48 := by omega
            have HN := Lib.hid (nrune_45 h45); clear h45
            go_wp2_with (go_at_call 76; refine (letter_false HL2.out _).mono ?_; rintro e w' ⟨rfl, rfl⟩)
            go_round
            case rel => exact ⟨k + 1, by omega, by go_num, Lib.hid (all_more HA.out HK.out HN.out)⟩
            case measure => simp [intOf]; omega
          · have hb : ((x.2 : Int) != 45) = true := by simp; omega
            by_cases h48 : x.2 < 48
            · have h48' : (x.2 : Int) < 48 := by omega
              have HN := Lib.hid (nameB_no HK.out (nrune_no HL2.out h45 (Or.inl h48))); clear h45 h48
              go_wp2_with (go_at_call 76; refine (letter_false HL2.out _).mono ?_; rintro e w' ⟨rfl, rfl⟩)
              go_ret
              exact ⟨by rw [HN.out]; rfl, HB.out⟩
            · by_cases h57 : 57 < x.2
              · have h48' : ¬ (x.2 : Int) < 48 := by omega
                have h57' : 57 < (x.2 : Int) := by omega
                have HN := Lib.hid (nameB_no HK.out (nrune_no HL2.out h45 (Or.inr h57))); clear h45 h48 h57
                go_wp2_with (go_at_call 76; refine (letter_false HL2.out _).mono ?_; rintro e w' ⟨rfl, rfl⟩)
                go_ret
                exact ⟨by rw [HN.out]; rfl, HB.out⟩
              · have h48' : ¬ (x.2 : Int) < 48 := by omega
                have h57' : ¬ 57 < (x.2 : Int) := by omega
                have HN := Lib.hid (nrune_dig (r := x.2) (by omega) (by omega)); clear h45 h48 h57
                go_wp2_with (go_at_call 76; refine (letter_false HL2.out _).mono ?_; rintro e w' ⟨rfl, rfl⟩)
                go_round
                case rel => exact ⟨k + 1, by omega, by go_num, Lib.hid (all_more HA.out HK.out HN.out)⟩
                case measure => simp [intOf]; omega
      · obtain rfl : k = (runesAt s 0).length := by omega
        have HY := Lib.hid (nameB_yes HR.out HL.out (by have := HRN.out; omega) (by have := HRN.out; omega) (fun j x hj hx => HA.out j x (by have := HRN.out; omega) hx))
        go_wp2_with fail
        go_ret
        exact ⟨by rw [HY.out]; rfl, HB.out⟩
end Go.Proofs.YtffhmbiamkbchaaDoor.nam
