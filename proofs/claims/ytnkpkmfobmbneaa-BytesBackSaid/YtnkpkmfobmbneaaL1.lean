/- BytesKnown and BytesTexts return true, in whatever world, and turn nothing that was there. -/
import Derived.Test.YtnkpkmfobmbneaaW
namespace Go.Proofs.Ytnkpkmfobmbneaa
open Go.RowKit

theorem putText_at {s t : ByteArray} {c : Int} (h : putO s = (t, c)) (w : World) (hs : s.size ≤ 9223372036854775807) : Calls Try.prog 11 #[.string s] w fun e w' => e = .returned (.tuple #[.string t, .int .i64 c]) ∧ Below w.heap.size w w' := by
  have := putText_any s w hs
  unfold PutTextPost at this
  rwa [h] at this
theorem refPutText_at {s t : ByteArray} {c : Int} (h : putO s = (t, c)) (w : World) (hs : s.size ≤ 9223372036854775807) : Calls Try.prog 21 #[.string s] w fun e w' => e = .returned (.tuple #[.string t, .int .i64 c]) ∧ Below w.heap.size w w' := by
  have := refPutText_any s w hs
  unfold PutTextPost at this
  rwa [h] at this
theorem takeText_at {s t : ByteArray} {n : Nat} {c : Int} (h : textO s = (t, n, c)) (w : World) (hs : s.size ≤ 9223372036854775807) : Calls Try.prog 12 #[.string s] w fun e w' => e = .returned (.tuple #[.string t, .int .i64 n, .int .i64 c]) ∧ w = w' := by
  have := takeText_any s w hs; rwa [textE_of h] at this
theorem refTakeText_at {s t : ByteArray} {n : Nat} {c : Int} (h : textO s = (t, n, c)) (w : World) (hs : s.size ≤ 9223372036854775807) : Calls Try.prog 20 #[.string s] w fun e w' => e = .returned (.tuple #[.string t, .int .i64 n, .int .i64 c]) ∧ w = w' := by
  have := refTakeText_any s w hs; rwa [textE_of h] at this

theorem known_form (w : World) : Calls Try.prog 10 #[.string ⟨#[128, 0]⟩] w fun e w' => e = .returned (.tuple #[.int .i64 0, .int .i64 0, .int .i64 21]) ∧ w = w' :=
  take_of (k := 0) (show take (bl ⟨#[128, 0]⟩) = (0, 0, 21) by kernel_rfl) w (by decide)
theorem known_short (w : World) : Calls Try.prog 10 #[.string ⟨#[128]⟩] w fun e w' => e = .returned (.tuple #[.int .i64 0, .int .i64 0, .int .i64 20]) ∧ w = w' :=
  take_of (k := 0) (show take (bl ⟨#[128]⟩) = (0, 0, 20) by kernel_rfl) w (by decide)
theorem known_put (w : World) : Calls Try.prog 11 #[.string ⟨#[97, 98]⟩] w fun e w' => e = .returned (.tuple #[.string ⟨#[4, 97, 98]⟩, .int .i64 0]) ∧ Below w.heap.size w w' := by
  refine putText_at ?_ w (by decide)
  unfold putO
  rw [if_neg (by decide), show tf ((⟨#[97, 98]⟩ : ByteArray).size : Int) = 4 from rfl, sev_small (by omega)]
  rfl
theorem known_take (w : World) : Calls Try.prog 12 #[.string ⟨#[4, 97, 98, 99]⟩] w fun e w' => e = .returned (.tuple #[.string ⟨#[97, 98]⟩, .int .i64 3, .int .i64 0]) ∧ w = w' :=
  takeText_at (n := 3) (show textO ⟨#[4, 97, 98, 99]⟩ = (⟨#[97, 98]⟩, 3, 0) by kernel_rfl) w (by decide)
theorem known_zero (w : World) : Calls Try.prog 14 #[.slice (some ⟨w.heap.size, 0, none⟩) 1 1] (w.alloc (.cells #[.int .i64 0] 2)) fun e w' => e = .returned (.string ⟨#[0]⟩) ∧ Below w.heap.size w w' := by
  refine (put_one 0 w ⟨by omega, by omega⟩).mono ?_
  rintro e w' ⟨rfl, hb⟩
  exact ⟨by rw [show tf 0 = 0 from rfl, sev_small (by omega)]; rfl, hb⟩

set_option maxHeartbeats 1600000 in
set_option maxRecDepth 1000000 in
theorem law_known (w : World) : Calls Try.prog 3 #[] w fun e w' => e = .returned (.bool true) ∧ Below w.heap.size w w' := by
  go_enter Try.func3, Try.ntmps3
  go_wp2_with fail
  refine (known_form w).mono ?_
  rintro e w1 ⟨rfl, rfl⟩
  go_wp2_with fail
  refine (known_short w).mono ?_
  rintro e w1 ⟨rfl, rfl⟩
  go_wp2_with fail
  refine (known_put w).mono ?_
  rintro e w1 ⟨rfl, hb⟩
  have HB := Lib.hid hb; clear hb
  go_wp2_with fail
  refine (known_take w1).mono ?_
  rintro e w2 ⟨rfl, rfl⟩
  go_wp2_with fail
  refine (works_any _).mono ?_
  rintro e w2 ⟨rfl, hb⟩
  have HB := Lib.hid (below_on' HB.out hb); clear hb
  go_wp2_with fail
  refine (known_zero _).mono ?_
  rintro e w3 ⟨rfl, hb⟩
  have HB := Lib.hid (below_on' HB.out hb); clear hb
  go_wp2_with fail
  go_ret
  exact ⟨rfl, HB.out⟩

set_option maxHeartbeats 800000 in
set_option maxRecDepth 1000000 in
theorem law_texts (s : ByteArray) (hs : s.size ≤ maxLen) (w : World) : Calls Try.prog 6 #[.string s] w fun e w' => e = .returned (.bool true) ∧ Below w.heap.size w w' := by
  unfold maxLen at hs
  by_cases hl : 70000 < s.size
  · go_enter Try.func6, Try.ntmps6
    go_wp2_with fail
    refine (works_any _).mono ?_
    rintro e w1 ⟨rfl, hb⟩
    have HB := Lib.hid hb; clear hb
    go_wp2_with fail
    go_ret
    exact ⟨rfl, HB.out⟩
  · obtain ⟨t, c, ht⟩ : ∃ t c, putO s = (t, c) := ⟨_, _, rfl⟩
    have HT := Lib.hid ht; clear ht
    go_enter Try.func6, Try.ntmps6
    go_wp2_with fail
    refine (putText_at HT.out _ (by omega)).mono ?_
    rintro e w1 ⟨rfl, hb⟩
    have HB := Lib.hid hb; clear hb
    go_wp2_with fail
    refine (refPutText_at HT.out _ (by omega)).mono ?_
    rintro e w2 ⟨rfl, hb⟩
    have HB := Lib.hid (below_on' HB.out hb); clear hb
    go_wp2_with fail
    refine (works_any _).mono ?_
    rintro e w3 ⟨rfl, hb⟩
    have HB := Lib.hid (below_on' HB.out hb); clear hb
    go_wp2_with fail
    go_ret
    exact ⟨rfl, HB.out⟩
end Go.Proofs.Ytnkpkmfobmbneaa
