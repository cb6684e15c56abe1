/- What changelingref04.Take answers: as frame.Take, of every text. -/
import Derived.Test.YtcaeigjeoeahpaaC
import Derived.Test.YtcaeigjeoeahpaaByH
namespace Go.Proofs.Ytcaeigjeoeahpaa
open Go.RowKit byt

set_option maxHeartbeats 1600000 in
set_option maxRecDepth 1000000 in
theorem refTake_any (s : ByteArray) (w : World) (hs : s.size ≤ 140737488355328) : Calls Try.prog 13 #[.string s] w fun e w' => e = takeE s ∧ Below w.heap.size w w' := by
  by_cases h0 : s.size = 0
  · have HE := Lib.hid (takeE_of (takeF_none h0))
    have hse : ((s.size : Int) == 0) = true := beq_iff_eq.2 (by omega)
    go_enter Try.func13, Try.ntmps13
    go_wp2_with fail
    refine bodyPost_ret (results_tmp4 rfl _ _ _) rfl ?_
    exact ⟨HE.out.symm, Below.refl _ _⟩
  · have hse : ((s.size : Int) == 0) = false := beq_eq_false_iff_ne.2 (by omega)
    have hp : 0 < s.size := by omega
    have hp' : (0 : Int) < (s.size : Int) := by omega
    have hh := head_byte hp
    by_cases h1 : s[0].toNat = 0
    · have hb : ((s[0].toNat : Int) == 0) = true := by simp; omega
      have HE := Lib.hid (takeE_of (takeF_form h0 (by rw [hh]; exact h1)))
      clear hh
      go_enter Try.func13, Try.ntmps13
      go_wp2_with fail
      refine bodyPost_ret (results_tmp4 rfl _ _ _) rfl ?_
      exact ⟨HE.out.symm, Below.refl _ _⟩
    · have hb : ((s[0].toNat : Int) == 0) = false := by simp; omega
      obtain ⟨t, m, c, hx⟩ : ∃ t m c, textO (s.extract 1 s.size) = (t, m, c) := ⟨_, _, _, rfl⟩
      have HX := Lib.hid hx
      have hes : (s.extract 1 s.size).size = s.size - 1 := by rw [size_bl, bl_extract, List.length_drop]; rfl
      by_cases hc : c = 0
      · subst hc
        have hm := (text_ok hx).2.1
        rw [hes] at hm
        have hm1 : (m : Int) + 1 ≤ (s.size : Int) := by omega
        have hm0 : (0 : Int) ≤ (m : Int) + 1 := by omega
        have hes' : (s.extract 1 s.size).size ≤ 9223372036854775807 := by omega
        have hl2 : (s.extract 0 (m + 1)).size ≤ 9223372036854775807 := by rw [ByteArray.size_extract]; omega
        by_cases h5 : s.size < m + 5
        · have HE := Lib.hid (takeE_of (takeF_short h0 (by rw [hh]; exact h1) hx h5))
          have hlt : (s.size : Int) < (m : Int) + 5 := by omega
          clear hx hh hes
          go_enter Try.func13, Try.ntmps13
          go_wp2_with fail
          with_reducible refine (refTakeText_at HX.out _ hes').mono ?_
          rintro e w1 ⟨rfl, rfl⟩
          go_wp2_with fail
          refine bodyPost_ret (results_tmp4 rfl _ _ _) rfl ?_
          exact ⟨HE.out.symm, Below.refl _ _⟩
        · have hlt : (m : Int) + 5 ≤ (s.size : Int) := by omega
          have hle : (m : Int) + 1 ≤ (m : Int) + 5 := by omega
          have hw1 : IntKind.i64.wrap ((m : Int) + 1) = (m : Int) + 1 := by rw [IntKind.wrap_i64]; omega
          have hw5 : IntKind.i64.wrap ((m : Int) + 5) = (m : Int) + 5 := by rw [IntKind.wrap_i64]; omega
          obtain ⟨n, en⟩ : ∃ n, sum.sm (bl (s.extract 0 (m + 1))) = n := ⟨_, rfl⟩
          have hn : n < 4294967296 := by rw [← en]; exact sum.sm_lt _
          obtain ⟨z, hz⟩ : ∃ z, txt (tailL n) = z := ⟨_, rfl⟩
          have hz2 : tl (s.extract 0 (m + 1)) = z := by rw [← hz, ← en]; rfl
          have HZ := Lib.hid hz; have HN := Lib.hid en
          by_cases he : s.extract (m + 1) (m + 5) = z
          · have HE := Lib.hid (takeE_of (takeF_fine h1 (by rw [hh]) hx (by omega) (by rw [hz2, he])))
            have hbz : ((s.extract (m + 1) (m + 5)).toList == z.toList) = true := by rw [he]; exact beq_self_eq_true _
            have hbz' : ((s.extract (m + 1) ((m : Int) + 5).toNat).toList == z.toList) = true := by rw [show ((m : Int) + 5).toNat = m + 5 by omega]; exact hbz
            clear hx hh hes he hz hz2 en
            go_enter Try.func13, Try.ntmps13
            go_wp2_with fail
            with_reducible refine (refTakeText_at HX.out _ hes').mono ?_
            rintro e w1 ⟨rfl, rfl⟩
            go_wp2_with fail
            go_region_with (first | (go_at_call 22; ((with_reducible refine (refOf_at HN.out _ hl2).mono ?_); rintro e w2 ⟨rfl, rfl⟩)) | (go_at_call 21; ((with_reducible refine (tail_at HZ.out _ hn).mono ?_); rintro e w2 ⟨rfl, hb2⟩)))
            all_goals go_wp2_with fail
            all_goals (refine bodyPost_ret (results_tmp4 rfl _ _ _) rfl ?_; exact ⟨take_end HE.out (Int.natCast_add m 5).symm, below_drawn hb2 rfl rfl rfl rfl⟩)
          · have HE := Lib.hid (takeE_of (takeF_sum h0 (by rw [hh]; exact h1) hx h5 (by rw [hz2]; exact he)))
            have hbz := str_ne he
            have hbz' : ((s.extract (m + 1) ((m : Int) + 5).toNat).toList == z.toList) = false := by rw [show ((m : Int) + 5).toNat = m + 5 by omega]; exact hbz
            clear hx hh hes he hz hz2 en
            go_enter Try.func13, Try.ntmps13
            go_wp2_with fail
            with_reducible refine (refTakeText_at HX.out _ hes').mono ?_
            rintro e w1 ⟨rfl, rfl⟩
            go_wp2_with fail
            go_region_with (first | (go_at_call 22; ((with_reducible refine (refOf_at HN.out _ hl2).mono ?_); rintro e w2 ⟨rfl, rfl⟩)) | (go_at_call 21; ((with_reducible refine (tail_at HZ.out _ hn).mono ?_); rintro e w2 ⟨rfl, hb2⟩)))
            all_goals go_wp2_with fail
            all_goals (refine bodyPost_ret (results_tmp4 rfl _ _ _) rfl ?_; exact ⟨HE.out.symm, below_drawn hb2 rfl rfl rfl rfl⟩)
      · have hc' : (c == 0) = false := by simp [hc]
        have hc2 : (c != 0) = true := by simp [hc]
        have HE := Lib.hid (takeE_of (takeF_text h0 (by rw [hh]; exact h1) hx hc))
        have hes' : (s.extract 1 s.size).size ≤ 9223372036854775807 := by omega
        clear hx hh hc hes
        go_enter Try.func13, Try.ntmps13
        go_wp2_with fail
        with_reducible refine (refTakeText_at HX.out _ hes').mono ?_
        rintro e w1 ⟨rfl, rfl⟩
        go_wp2_with fail
        refine bodyPost_ret (results_tmp4 rfl _ _ _) rfl ?_
        exact ⟨HE.out.symm, Below.refl _ _⟩
theorem refTake_at {s t : ByteArray} {k n : Nat} {c : Int} (h : takeF s = (k, t, n, c)) (w : World) (hs : s.size ≤ 140737488355328) :
    Calls Try.prog 13 #[.string s] w fun e w' => e = .returned (.tuple #[.int .u8 k, .string t, .int .i64 n, .int .i64 c]) ∧ Below w.heap.size w w' := by
  have := refTake_any s w hs
  rwa [takeE_of h] at this
end Go.Proofs.Ytcaeigjeoeahpaa
