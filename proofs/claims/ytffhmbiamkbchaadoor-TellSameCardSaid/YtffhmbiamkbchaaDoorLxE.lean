/- What lex.begun makes of a rune that begins a token, and what it answers of another one. -/
import Derived.Test.YtffhmbiamkbchaaDoorLxD
namespace Go.Proofs.YtffhmbiamkbchaaDoor.lex
set_option linter.unusedSimpArgs false
set_option linter.unusedVariables false
open Go.RowKit nam

/-- The closure that keeps a token of a kind. -/
def kf (k : Nat) : Nat := if k = 1 then 79 else if k = 2 then 81 else 83

theorem contains_any {r : Nat} (hr : okR r) (hl : letB r = false) (w : World) : Calls Tryd.prog 67 #[.string ⟨#[43, 45, 42, 47, 37, 40, 41, 38, 124, 33, 61, 60]⟩, .int .i32 r] w fun e w' => e = .returned (.bool (sgnB r)) ∧ Below w.heap.size w w' := by
  by_cases h1 : r < 128
  · refine (Tryd.strings_ContainsRune_ascii _ _ _ (by omega) (by omega)).mono ?_
    rintro e w' ⟨rfl, rfl⟩
    exact ⟨ret_bool (signs_at h1), Below.refl _ _⟩
  · have h2 : r < 192 ∨ r = 65533 := by
      unfold letB at hl
      simp at hl
      omega
    have hi : Calls Tryd.prog 82 #[.string ⟨#[43, 45, 42, 47, 37, 40, 41, 38, 124, 33, 61, 60]⟩, .int .i32 r] w fun e w' => e = .returned (.int .i64 (-1)) ∧ Below w.heap.size w w' := by
      rcases h2 with h2 | h2
      · exact index_two (s := signs) (by omega) h2 signs_ascii (by decide) (by decide) w
      · subst h2; exact index_err (s := signs) signs_ascii (by decide) w
    have HI := Lib.hid hi
    have HS := Lib.hid (sgnB_far (r := r) (by omega))
    clear hi h2 hl
    go_enter Tryd.func67, Tryd.ntmps67
    go_wp2_with fail
    refine HI.out.mono ?_
    rintro e w1 ⟨rfl, hb1⟩
    have HB1 := Lib.hid hb1; clear hb1
    go_wp2_with fail
    go_ret
    exact ⟨by rw [HS.out]; rfl, HB1.out⟩
theorem contains_yes {r : Nat} (hr : okR r) (hl : letB r = false) (hs : sgnB r = true) (w : World) : Calls Tryd.prog 67 #[.string ⟨#[43, 45, 42, 47, 37, 40, 41, 38, 124, 33, 61, 60]⟩, .int .i32 r] w fun e w' => e = .returned (.bool true) ∧ Below w.heap.size w w' := by
  have := contains_any hr hl w; rwa [hs] at this
theorem contains_no {r : Nat} (hr : okR r) (hl : letB r = false) (hs : sgnB r = false) (w : World) : Calls Tryd.prog 67 #[.string ⟨#[43, 45, 42, 47, 37, 40, 41, 38, 124, 33, 61, 60]⟩, .int .i32 r] w fun e w' => e = .returned (.bool false) ∧ Below w.heap.size w w' := by
  have := contains_any hr hl w; rwa [hs] at this

/-- What begun leaves where a token begins. -/
def BegunPost (w : World) (B g cap : Nat) (done : List Tok) (t : Tok) (e : Ending) (w' : World) : Prop :=
  ∃ b, w.heap.size ≤ b ∧ e = .returned (.tuple #[.func (.func (kf t.kind)) #[] #[.pointer (some ⟨b, 0, none⟩)], .int .i64 0]) ∧ Box w' b g (4 * done.length) ∧ Toks w' B (.slice (some ⟨g, 0, none⟩) (done.length + 1) cap) (done ++ [t]) ∧ w.grownBy w' (some g)
theorem begun_of {w w1 w' : World} {B g cap b : Nat} {done : List Tok} {t : Tok} (hb : Below w.heap.size w w1) (hle : w1.heap.size ≤ b) (hx : Box w' b g (4 * done.length)) (ht : Toks w' B (.slice (some ⟨g, 0, none⟩) (done.length + 1) cap) (done ++ [t])) (hg : w1.grownBy w' (some g)) :
    BegunPost w B g cap done t (.returned (.tuple #[.func (.func (kf t.kind)) #[] #[.pointer (some ⟨b, 0, none⟩)], .int .i64 0])) w' :=
  ⟨b, Nat.le_trans hb.size hle, rfl, hx, ht, Lib.grownBy_trans (grown_of_below hb _) hg⟩

set_option maxHeartbeats 800000 in
set_option maxRecDepth 1000000 in
theorem begun_yes {w : World} {B g cap r p : Nat} {done : List Tok} {t : Tok} (hr : okR r) (hg : beg r p = some t) (h : Toks w B (.slice (some ⟨g, 0, none⟩) (done.length + 1) cap) (done ++ [⟨0, [], 0, p⟩])) :
    Calls Tryd.prog 52 #[.pointer (some ⟨g, 4 * done.length, none⟩), .int .i32 r] w (BegunPost w B g cap done t) := by
  have HH := Lib.hid h; clear h
  unfold beg at hg
  cases hl : letB r with
  | true =>
    rw [hl, if_pos rfl] at hg
    cases hg
    go_enter Tryd.func52, Tryd.ntmps52
    go_wp2_with fail
    refine (letter_yes hl hr _).mono ?_
    rintro e w1 ⟨rfl, hb1⟩
    have HB1 := Lib.hid hb1; clear hb1
    go_wp2_with fail
    refine (name_lx hr (toks_below HH.out HB1.out)).mono ?_
    rintro e w2 ⟨b, hle, rfl, hx, ht, hgr⟩
    have HP := Lib.hid (begun_of HB1.out hle hx ht hgr)
    clear hle hx ht hgr
    go_wp2_with fail
    go_ret2
    exact HP.out
  | false =>
    have HL := Lib.hid hl
    rw [hl, if_neg (by simp)] at hg
    cases hd : digB r with
    | true =>
      rw [hd, if_pos rfl] at hg
      cases hg
      go_enter Tryd.func52, Tryd.ntmps52
      go_wp2_with fail
      refine (letter_no HL.out hr _).mono ?_
      rintro e w1 ⟨rfl, hb1⟩
      have HB1 := Lib.hid hb1; clear hb1
      go_wp2_with fail
      refine (digit_yes hd _).mono ?_
      rintro e w2 ⟨rfl, rfl⟩
      go_wp2_with fail
      refine (number_lx hd (toks_below HH.out HB1.out)).mono ?_
      rintro e w2 ⟨b, hle, rfl, hx, ht, hgr⟩
      have HP := Lib.hid (begun_of HB1.out hle hx ht hgr)
      clear hle hx ht hgr
      go_wp2_with fail
      go_ret2
      exact HP.out
    | false =>
      have HD := Lib.hid hd
      rw [hd, if_neg (by simp)] at hg
      have hs : sgnB r = true := by
        cases hs : sgnB r with
        | true => rfl
        | false => rw [hs, if_neg (by simp)] at hg; cases hg
      rw [hs, if_pos rfl] at hg
      cases hg
      have HS := Lib.hid hs
      clear hs hl hd
      go_enter Tryd.func52, Tryd.ntmps52
      go_wp2_with fail
      refine (letter_no HL.out hr _).mono ?_
      rintro e w1 ⟨rfl, hb1⟩
      have HB1 := Lib.hid hb1; clear hb1
      go_wp2_with fail
      refine (digit_no HD.out _).mono ?_
      rintro e w2 ⟨rfl, rfl⟩
      go_wp2_with fail
      refine (contains_yes hr HL.out HS.out _).mono ?_
      rintro e w2 ⟨rfl, hb2⟩
      have HB2 := Lib.hid (below_on' HB1.out hb2); clear hb2
      go_wp2_with fail
      refine (sign_lx hr (toks_below HH.out HB2.out)).mono ?_
      rintro e w3 ⟨b, hle, rfl, hx, ht, hgr⟩
      have HP := Lib.hid (begun_of HB2.out hle hx ht hgr)
      clear hle hx ht hgr
      go_wp2_with fail
      go_ret2
      exact HP.out
set_option maxRecDepth 1000000 in
theorem begun_no {w : World} {r p : Nat} {a : Value} (hr : okR r) (hg : beg r p = none) :
    Calls Tryd.prog 52 #[a, .int .i32 r] w fun e w' => e = .returned (.tuple #[.nilFunc, .int .i64 70]) ∧ Below w.heap.size w w' := by
  unfold beg at hg
  have hl : letB r = false := by
    cases hl : letB r with
    | false => rfl
    | true => rw [hl, if_pos rfl] at hg; cases hg
  rw [hl, if_neg (by simp)] at hg
  have hd : digB r = false := by
    cases hd : digB r with
    | false => rfl
    | true => rw [hd, if_pos rfl] at hg; cases hg
  rw [hd, if_neg (by simp)] at hg
  have hs : sgnB r = false := by
    cases hs : sgnB r with
    | false => rfl
    | true => rw [hs, if_pos rfl] at hg; cases hg
  have HL := Lib.hid hl; have HD := Lib.hid hd; have HS := Lib.hid hs
  clear hl hd hs hg
  go_enter Tryd.func52, Tryd.ntmps52
  go_wp2_with fail
  refine (letter_no HL.out hr _).mono ?_
  rintro e w1 ⟨rfl, hb1⟩
  have HB1 := Lib.hid hb1; clear hb1
  go_wp2_with fail
  refine (digit_no HD.out _).mono ?_
  rintro e w2 ⟨rfl, rfl⟩
  go_wp2_with fail
  refine (contains_no hr HL.out HS.out _).mono ?_
  rintro e w2 ⟨rfl, hb2⟩
  have HB2 := Lib.hid (below_on' HB1.out hb2); clear hb2
  go_wp2_with fail
  go_ret2
  exact ⟨rfl, HB2.out⟩
end Go.Proofs.YtffhmbiamkbchaaDoor.lex
