/- What changelingref02.TakeText answers: as bytes.TakeText, of every text. -/
import Derived.Test.YtcaeigjeoeahpaaByG
namespace Go.Proofs.Ytcaeigjeoeahpaa.byt
open Go.RowKit

theorem refTake_of {s : ByteArray} {n : Int} {k : Nat} {c : Int} (h : take (bl s) = (n, k, c)) (w : World) (hs : s.size ≤ 9223372036854775807) :
    Calls Try.prog 29 #[.string s] w fun e w' => e = .returned (.tuple #[.int .i64 n, .int .i64 k, .int .i64 c]) ∧ w = w' := by
  have := refTake_any s w hs; rwa [takeE_of h] at this

set_option maxHeartbeats 800000 in
set_option maxRecDepth 1000000 in
theorem refTakeText_any (s : ByteArray) (w : World) (hs : s.size ≤ 9223372036854775807) : Calls Try.prog 23 #[.string s] w fun e w' => e = textE s ∧ w = w' := by
  by_cases h0 : (take (bl s)).2.2 = 0
  · have hsz := take_size h0
    obtain ⟨n, k, ht⟩ : ∃ n k, take (bl s) = (n, k, 0) := ⟨_, _, by rw [← h0]⟩
    rw [ht] at hsz
    simp only [bl_length] at hsz
    obtain ⟨z1, z2, z3, z4, z5⟩ := hsz
    have HT := Lib.hid ht
    clear ht h0
    by_cases hn : n < 0
    · go_enter Try.func23, Try.ntmps23
      go_wp2_with (go_at_call 29; ((with_reducible refine (refTake_of HT.out _ hs).mono ?_); rintro e w' ⟨rfl, rfl⟩))
      go_ret3
      exact ⟨(text_neg HT.out hn).symm, rfl⟩
    · by_cases hm : 65536 < n
      · go_enter Try.func23, Try.ntmps23
        go_wp2_with (go_at_call 29; ((with_reducible refine (refTake_of HT.out _ hs).mono ?_); rintro e w' ⟨rfl, rfl⟩))
        go_ret3
        exact ⟨(text_long HT.out hm).symm, rfl⟩
      · obtain ⟨m, rfl⟩ : ∃ m : Nat, n = m := ⟨n.toNat, by omega⟩
        by_cases hl : s.size < k + m
        · have hl' : (s.size : Int) < (k : Int) + (m : Int) := by omega
          go_enter Try.func23, Try.ntmps23
          go_wp2_with (go_at_call 29; ((with_reducible refine (refTake_of HT.out _ hs).mono ?_); rintro e w' ⟨rfl, rfl⟩))
          go_ret3
          exact ⟨(text_short HT.out (by omega) hl).symm, rfl⟩
        · have hl2 : (k : Int) + (m : Int) ≤ (s.size : Int) := by omega
          have hl3 : (k : Int) ≤ (k : Int) + (m : Int) := by omega
          go_enter Try.func23, Try.ntmps23
          go_wp2_with (go_at_call 29; ((with_reducible refine (refTake_of HT.out _ hs).mono ?_); rintro e w' ⟨rfl, rfl⟩))
          go_ret3
          exact ⟨(text_fine HT.out (by omega) hl).symm, rfl⟩
  · rcases take_bad h0 with ht | ht
    · have HT := Lib.hid ht
      clear ht h0
      go_enter Try.func23, Try.ntmps23
      go_wp2_with (go_at_call 29; ((with_reducible refine (refTake_of HT.out _ hs).mono ?_); rintro e w' ⟨rfl, rfl⟩))
      go_ret3
      exact ⟨(text_bad HT.out (by decide)).symm, rfl⟩
    · have HT := Lib.hid ht
      clear ht h0
      go_enter Try.func23, Try.ntmps23
      go_wp2_with (go_at_call 29; ((with_reducible refine (refTake_of HT.out _ hs).mono ?_); rintro e w' ⟨rfl, rfl⟩))
      go_ret3
      exact ⟨(text_bad HT.out (by decide)).symm, rfl⟩

theorem refTakeText_at {s t : ByteArray} {n : Nat} {c : Int} (h : textO s = (t, n, c)) (w : World) (hs : s.size ≤ 9223372036854775807) : Calls Try.prog 23 #[.string s] w fun e w' => e = .returned (.tuple #[.string t, .int .i64 n, .int .i64 c]) ∧ w = w' := by
  have := refTakeText_any s w hs; rwa [textE_of h] at this
end Go.Proofs.Ytcaeigjeoeahpaa.byt
