/- What frame.Take answers. -/
import Derived.Test.YtbnnbaoimidfnaaFrB
import Derived.RegionTactic
import Derived.Deep.QuietTactic
import Derived.BigQuiet
import Derived.Deep.RegionWith
namespace Go.Proofs.Ytbnnbaoimidfnaa.frm
open Go.RowKit byt

def takeE (s : ByteArray) : Ending := .returned (.tuple #[.int .u8 (takeF s).1, .string (takeF s).2.1, .int .i64 (takeF s).2.2.1, .int .i64 (takeF s).2.2.2])
theorem takeE_of {s t : ByteArray} {k n : Nat} {c : Int} (h : takeF s = (k, t, n, c)) : takeE s = .returned (.tuple #[.int .u8 k, .string t, .int .i64 n, .int .i64 c]) := by unfold takeE; rw [h]
theorem takeF_none {s : ByteArray} (h : s.size = 0) : takeF s = (0, txt [], 0, 20) := by unfold takeF; rw [if_pos h]
theorem takeF_form {s : ByteArray} (h : s.size ≠ 0) (h1 : ((bl s).headD 0).toNat = 0) : takeF s = (0, txt [], 0, 21) := by unfold takeF; rw [if_neg h, if_pos h1]
theorem takeF_text {s t : ByteArray} {m : Nat} {c : Int} (h : s.size ≠ 0) (h1 : ((bl s).headD 0).toNat ≠ 0) (hx : textO (s.extract 1 s.size) = (t, m, c)) (hc : c ≠ 0) : takeF s = (0, txt [], 0, c) := by
  unfold takeF; rw [if_neg h, if_neg h1, hx, if_pos (by simpa using hc)]
theorem takeF_short {s t : ByteArray} {m : Nat} (h : s.size ≠ 0) (h1 : ((bl s).headD 0).toNat ≠ 0) (hx : textO (s.extract 1 s.size) = (t, m, 0)) (hs : s.size < m + 5) : takeF s = (0, txt [], 0, 20) := by
  unfold takeF; rw [if_neg h, if_neg h1, hx]; simp only; rw [if_neg (by simp), if_pos hs]
theorem takeF_sum {s t : ByteArray} {m : Nat} (h : s.size ≠ 0) (h1 : ((bl s).headD 0).toNat ≠ 0) (hx : textO (s.extract 1 s.size) = (t, m, 0)) (hs : ¬ s.size < m + 5)
    (he : s.extract (m + 1) (m + 5) ≠ tl (s.extract 0 (m + 1))) : takeF s = (0, txt [], 0, 40) := by
  unfold takeF; rw [if_neg h, if_neg h1, hx]; simp only; rw [if_neg (by simp), if_neg hs, if_pos he]
theorem head_byte {s : ByteArray} (h : 0 < s.size) : (bl s).headD 0 = s[0] := by
  have := drop_byte s 0 h
  rw [List.drop_zero] at this
  rw [this]; rfl

theorem empty_yes {s : ByteArray} (h : s.size = 0) : s.toList.isEmpty = true := by
  rw [ByteArray.toList_eq]
  exact List.isEmpty_iff.2 (List.eq_nil_of_length_eq_zero h)
theorem empty_no {s : ByteArray} (h : s.size ≠ 0) : s.toList.isEmpty = false := by
  rw [ByteArray.toList_eq, Bool.eq_false_iff]
  intro e
  exact h (congrArg List.length (List.isEmpty_iff.1 e))

theorem take_end {s t : ByteArray} {k n : Nat} {m : Int} (h : takeE s = .returned (.tuple #[.int .u8 k, .string t, .int .i64 (n : Nat), .int .i64 0])) (hm : m = n) :
    Ending.returned (.tuple #[.int .u8 k, .string t, .int .i64 m, .int .i64 0]) = takeE s := by rw [h, hm]
/-- Behind a world that was drawn on alone. -/
theorem below_drawn {B : Nat} {w w1 w2 : World} (h : Below B w1 w2) (h1 : w1.heap = w.heap) (h2 : w1.os = w.os) (h3 : w1.tape = w.tape) (h4 : w1.output = w.output) : Below B w w2 :=
  ⟨h.os.trans h2, h.tape.trans h3, h.output.trans h4, by rw [← h1]; exact h.size, fun k hk => by rw [← h1]; exact h.block k hk⟩
/-- Four results. -/
theorem results_tmp4 {fn : Func} {t u v x : Tmp} (h : fn.results = #[.tmp t, .tmp u, .tmp v, .tmp x]) (tmps : Array Value) (P : Program) (w : World) :
    (results fn tmps).run P w = .ok (.tuple #[tmps.getD t undef, tmps.getD u undef, tmps.getD v undef, tmps.getD x undef]) w := by
  simp [results, h]

set_option maxHeartbeats 1600000 in
set_option maxRecDepth 1000000 in
theorem take_any (s : ByteArray) (w : World) (hs : s.size ≤ 9223372036854775807) : Calls Try.prog 30 #[.string s] w fun e w' => e = takeE s ∧ Below w.heap.size w w' := by
  by_cases h0 : s.size = 0
  · have HE := Lib.hid (takeE_of (takeF_none h0))
    have hse := empty_yes h0
    go_enter Try.func30, Try.ntmps30
    go_wp2_with fail
    refine bodyPost_ret (results_tmp4 rfl _ _ _) rfl ?_
    exact ⟨HE.out.symm, Below.refl _ _⟩
  · have hse := empty_no h0
    have hp : 0 < s.size := by omega
    have hp' : (0 : Int) < (s.size : Int) := by omega
    have hh := head_byte hp
    by_cases h1 : s[0].toNat = 0
    · have hb : ((s[0].toNat : Int) == 0) = true := by simp; omega
      have HE := Lib.hid (takeE_of (takeF_form h0 (by rw [hh]; exact h1)))
      clear hh
      go_enter Try.func30, Try.ntmps30
      go_wp2_with fail
      refine bodyPost_ret (results_tmp4 rfl _ _ _) rfl ?_
      exact ⟨HE.out.symm, Below.refl _ _⟩
    · have hb : ((s[0].toNat : Int) == 0) = false := by simp; omega
      obtain ⟨t, m, c, hx⟩ : ∃ t m c, textO (s.extract 1 s.size) = (t, m, c) := ⟨_, _, _, rfl⟩
      have HX := Lib.hid hx
      have hes : (s.extract 1 s.size).size = s.size - 1 := by rw [size_bl, bl_extract, List.length_drop]; rfl
      by_cases hc : c = 0
      · subst hc
        have hm := (text_ok hx).2.1
        rw [hes] at hm
        have hm1 : 1 + (m : Int) ≤ (s.size : Int) := by omega
        have hm0 : (0 : Int) ≤ 1 + (m : Int) := by omega
        have hes' : (s.extract 1 s.size).size ≤ 9223372036854775807 := by omega
        have hcut : (s.extract (1 + m) s.size).extract 0 4 = s.extract (m + 1) (m + 5) := by
          apply ba_ext
          rw [bl_sub, bl_extract, bl_cut, show m + 5 - (m + 1) = 4 by omega, Nat.add_comm 1 m]
        have hb1 : s.extract 0 (1 + m) = s.extract 0 (m + 1) := by rw [Nat.add_comm 1 m]
        have hl2 : (s.extract 0 (1 + m)).size ≤ 9223372036854775807 := by rw [ByteArray.size_extract]; omega
        by_cases h5 : s.size < m + 5
        · have HE := Lib.hid (takeE_of (takeF_short h0 (by rw [hh]; exact h1) hx h5))
          have hlt : ((s.size - (1 + m) : Nat) : Int) < 4 := by omega
          clear hx hh hes hcut hb1
          go_enter Try.func30, Try.ntmps30
          go_wp2_with fail
          with_reducible refine (takeText_at HX.out _ hes').mono ?_
          rintro e w1 ⟨rfl, rfl⟩
          go_wp2_with fail
          go_quiet (fail)
          go_wp2_with fail
          refine bodyPost_ret (results_tmp4 rfl _ _ _) rfl ?_
          exact ⟨HE.out.symm, below_drewN _ _⟩
        · have hlt : (4 : Int) ≤ ((s.size - (1 + m) : Nat) : Int) := by omega
          obtain ⟨z, hz⟩ : ∃ z, tl (s.extract 0 (1 + m)) = z := ⟨_, rfl⟩
          have HZ := Lib.hid hz
          by_cases he : (s.extract (1 + m) s.size).extract 0 4 = z
          · have HE := Lib.hid (takeE_of (takeF_fine h1 (by rw [hh]) hx (by omega) (by rw [← hcut, ← hb1, hz, he])))
            have hbz : (((s.extract (1 + m) s.size).extract 0 4).toList == z.toList) = true := by rw [he]; exact beq_self_eq_true _
            clear hx hh hes hcut hb1 he hz
            go_enter Try.func30, Try.ntmps30
            go_wp2_with fail
            with_reducible refine (takeText_at HX.out _ hes').mono ?_
            rintro e w1 ⟨rfl, rfl⟩
            go_wp2_with fail
            go_quiet (fail)
            go_wp2_with fail
            go_region_with (go_at_call 32; ((with_reducible refine (sumOf_at HZ.out _ hl2).mono ?_); rintro e w2 ⟨rfl, hb2⟩))
            all_goals go_wp2_with fail
            refine bodyPost_ret (results_tmp4 rfl _ _ _) rfl ?_
            exact ⟨take_end HE.out (by omega), below_drawn hb2 rfl rfl rfl rfl⟩
          · have HE := Lib.hid (takeE_of (takeF_sum h0 (by rw [hh]; exact h1) hx h5 (by rw [← hcut, ← hb1, hz]; exact he)))
            have hbz := str_ne he
            clear hx hh hes hcut hb1 he hz
            go_enter Try.func30, Try.ntmps30
            go_wp2_with fail
            with_reducible refine (takeText_at HX.out _ hes').mono ?_
            rintro e w1 ⟨rfl, rfl⟩
            go_wp2_with fail
            go_quiet (fail)
            go_wp2_with fail
            go_region_with (go_at_call 32; ((with_reducible refine (sumOf_at HZ.out _ hl2).mono ?_); rintro e w2 ⟨rfl, hb2⟩))
            all_goals go_wp2_with fail
            refine bodyPost_ret (results_tmp4 rfl _ _ _) rfl ?_
            exact ⟨HE.out.symm, below_drawn hb2 rfl rfl rfl rfl⟩
      · have hc' : (c == 0) = false := by simp [hc]
        have hc2 : (c != 0) = true := by simp [hc]
        have HE := Lib.hid (takeE_of (takeF_text h0 (by rw [hh]; exact h1) hx hc))
        have hes' : (s.extract 1 s.size).size ≤ 9223372036854775807 := by omega
        clear hx hh hc hes
        go_enter Try.func30, Try.ntmps30
        go_wp2_with fail
        with_reducible refine (takeText_at HX.out _ hes').mono ?_
        rintro e w1 ⟨rfl, rfl⟩
        go_wp2_with fail
        refine bodyPost_ret (results_tmp4 rfl _ _ _) rfl ?_
        exact ⟨HE.out.symm, Below.refl _ _⟩
theorem take_at {s t : ByteArray} {k n : Nat} {c : Int} (h : takeF s = (k, t, n, c)) (w : World) (hs : s.size ≤ 9223372036854775807) :
    Calls Try.prog 30 #[.string s] w fun e w' => e = .returned (.tuple #[.int .u8 k, .string t, .int .i64 n, .int .i64 c]) ∧ Below w.heap.size w w' := by
  have := take_any s w hs
  rwa [takeE_of h] at this
end Go.Proofs.Ytbnnbaoimidfnaa.frm
