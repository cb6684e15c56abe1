/- FrameBack returns true of every kind, payload and text, in whatever world, and turns nothing that was there. -/
import Derived.Test.YtcaeigjeoeahpaaE
namespace Go.Proofs.Ytcaeigjeoeahpaa
open Go.RowKit byt

theorem size_append_le {a b : ByteArray} {n m : Nat} (h : a.size ≤ n) (k : b.size ≤ m) : (a ++ b).size ≤ n + m := by rw [ByteArray.size_append]; omega
theorem putF_ok {k : Nat} {p t : ByteArray} (hk : k < 256) (h : putF k p = (t, 0)) (b : ByteArray) : takeF (t ++ b) = (k, p, t.size, 0) ∧ t.size ≤ 65551 := by
  by_cases h0 : k = 0
  · subst h0; rw [putF_zero] at h; simp at h
  · by_cases hl : 65536 < p.size
    · rw [putF_long h0 hl] at h; simp at h
    · rw [putF_fine h0 (by omega)] at h
      simp only [Prod.mk.injEq, and_true] at h
      have h2 := sev_ten (tf_lt (fits_size (s := p) hl).1 (fits_size (s := p) hl).2)
      subst h
      refine ⟨put_take b (by omega) hk (by omega), ?_⟩
      rw [shut_size, body_size, ByteArray.size_append, txt_size]
      omega
theorem takeF_ok {s p : ByteArray} {k n : Nat} (h : takeF s = (k, p, n, 0)) : putF k p = (s.extract 0 n, 0) ∧ k < 256 ∧ p.size ≤ 65536 ∧ n ≤ s.size ∧ 6 ≤ n := by
  obtain ⟨h0, h1, h2, h3, h4, h5⟩ := take_put h
  have := sev_pos (tf p.size)
  refine ⟨?_, h1, h2, h3, by omega⟩
  rw [h5, putF_fine (by omega) h2]

set_option maxHeartbeats 1600000 in
set_option maxRecDepth 1000000 in
theorem law_back (a : Int) (p s : ByteArray) (hwf : (Lit.int .u8 a).wf = true) (hp : p.size ≤ maxLen) (hs : s.size ≤ maxLen) (w : World) :
    Calls Try.prog 7 #[.int .u8 a, .string p, .string s] w fun e w' => e = .returned (.bool true) ∧ Below w.heap.size w w' := by
  obtain ⟨k, rfl, hk⟩ := u8_nat hwf
  unfold maxLen at hp hs
  by_cases hl : 70000 < p.size
  · go_enter Try.func7, Try.ntmps7
    go_wp2_with fail
    refine (works_any _).mono ?_
    rintro e w1 ⟨rfl, hb⟩
    have HB := Lib.hid hb; clear hb
    go_wp2_with fail
    go_ret
    exact ⟨rfl, HB.out⟩
  by_cases hl2 : 20000 < s.size
  · have hl' : (p.size : Int) ≤ 70000 := by omega
    go_enter Try.func7, Try.ntmps7
    go_wp2_with fail
    refine (works_any _).mono ?_
    rintro e w1 ⟨rfl, hb⟩
    have HB := Lib.hid hb; clear hb
    go_wp2_with fail
    go_ret
    exact ⟨rfl, HB.out⟩
  have hl' : (p.size : Int) ≤ 70000 := by omega
  have hl2' : (s.size : Int) ≤ 20000 := by omega
  obtain ⟨t, c, h1⟩ : ∃ t c, putF k p = (t, c) := ⟨_, _, rfl⟩
  obtain ⟨k2, p2, n2, c2, h3⟩ : ∃ k2 p2 n2 c2, takeF s = (k2, p2, n2, c2) := ⟨_, _, _, _, rfl⟩
  by_cases hc : c = 0
  · subst hc
    obtain ⟨h2, ht⟩ := putF_ok hk h1 s
    have H1 := Lib.hid h1; have H2 := Lib.hid h2
    have hts : (t ++ s).size ≤ 9223372036854775807 := by rw [ByteArray.size_append]; omega
    clear h1 h2
    by_cases hc2 : c2 = 0
    · subst hc2
      obtain ⟨h4, hk2, hp2, hn2, hn6⟩ := takeF_ok h3
      have H3 := Lib.hid h3; have H4 := Lib.hid h4
      clear h3 h4
      have hn2' : (n2 : Int) ≤ (s.size : Int) := by omega
      have hn6' : (6 : Int) ≤ (n2 : Int) := by omega
      go_enter Try.func7, Try.ntmps7
      go_wp2_with fail
      with_reducible refine (putF_at H1.out w hk (by omega)).mono ?_
      rintro e w1 ⟨rfl, hb⟩
      have HB := Lib.hid hb; clear hb
      go_wp2_with fail
      with_reducible refine (take_at H2.out _ hts).mono ?_
      rintro e w2 ⟨rfl, hb⟩
      have HB := Lib.hid (below_on HB.out hb); clear hb
      go_wp2_with fail
      with_reducible refine (take_at H3.out _ (by omega)).mono ?_
      rintro e w3 ⟨rfl, hb⟩
      have HB := Lib.hid (below_on HB.out hb); clear hb
      go_wp2_with fail
      with_reducible refine (putF_at H4.out _ hk2 (by omega)).mono ?_
      rintro e w4 ⟨rfl, hb⟩
      have HB := Lib.hid (below_on HB.out hb); clear hb
      go_wp2_with fail
      refine (works_any _).mono ?_
      rintro e w5 ⟨rfl, hb⟩
      have HB := Lib.hid (below_on HB.out hb); clear hb
      go_wp2_with fail
      go_ret
      exact ⟨rfl, HB.out⟩
    · obtain ⟨rfl, rfl, rfl⟩ := take_bad h3 hc2
      have H3 := Lib.hid h3
      have hc2a : (c2 == 0) = false := by simp [hc2]
      have hc2b : (c2 != 0) = true := by simp [hc2]
      have hem : (txt []).toList.isEmpty = true := empty_yes rfl
      clear h3 hc2
      go_enter Try.func7, Try.ntmps7
      go_wp2_with fail
      with_reducible refine (putF_at H1.out w hk (by omega)).mono ?_
      rintro e w1 ⟨rfl, hb⟩
      have HB := Lib.hid hb; clear hb
      go_wp2_with fail
      with_reducible refine (take_at H2.out _ hts).mono ?_
      rintro e w2 ⟨rfl, hb⟩
      have HB := Lib.hid (below_on HB.out hb); clear hb
      go_wp2_with fail
      with_reducible refine (take_at H3.out _ (by omega)).mono ?_
      rintro e w3 ⟨rfl, hb⟩
      have HB := Lib.hid (below_on HB.out hb); clear hb
      go_wp2_with fail
      refine (works_any _).mono ?_
      rintro e w5 ⟨rfl, hb⟩
      have HB := Lib.hid (below_on HB.out hb); clear hb
      go_wp2_with fail
      go_ret
      exact ⟨rfl, HB.out⟩
  · have H1 := Lib.hid h1
    have hca : (c == 0) = false := by simp [hc]
    have hcb : (c != 0) = true := by simp [hc]
    clear h1 hc
    by_cases hc2 : c2 = 0
    · subst hc2
      obtain ⟨h4, hk2, hp2, hn2, hn6⟩ := takeF_ok h3
      have H3 := Lib.hid h3; have H4 := Lib.hid h4
      clear h3 h4
      have hn2' : (n2 : Int) ≤ (s.size : Int) := by omega
      have hn6' : (6 : Int) ≤ (n2 : Int) := by omega
      go_enter Try.func7, Try.ntmps7
      go_wp2_with fail
      with_reducible refine (putF_at H1.out w hk (by omega)).mono ?_
      rintro e w1 ⟨rfl, hb⟩
      have HB := Lib.hid hb; clear hb
      go_wp2_with fail
      with_reducible refine (take_at H3.out _ (by omega)).mono ?_
      rintro e w3 ⟨rfl, hb⟩
      have HB := Lib.hid (below_on HB.out hb); clear hb
      go_wp2_with fail
      with_reducible refine (putF_at H4.out _ hk2 (by omega)).mono ?_
      rintro e w4 ⟨rfl, hb⟩
      have HB := Lib.hid (below_on HB.out hb); clear hb
      go_wp2_with fail
      refine (works_any _).mono ?_
      rintro e w5 ⟨rfl, hb⟩
      have HB := Lib.hid (below_on HB.out hb); clear hb
      go_wp2_with fail
      go_ret
      exact ⟨rfl, HB.out⟩
    · obtain ⟨rfl, rfl, rfl⟩ := take_bad h3 hc2
      have H3 := Lib.hid h3
      have hc2a : (c2 == 0) = false := by simp [hc2]
      have hc2b : (c2 != 0) = true := by simp [hc2]
      have hem : (txt []).toList.isEmpty = true := empty_yes rfl
      clear h3 hc2
      go_enter Try.func7, Try.ntmps7
      go_wp2_with fail
      with_reducible refine (putF_at H1.out w hk (by omega)).mono ?_
      rintro e w1 ⟨rfl, hb⟩
      have HB := Lib.hid hb; clear hb
      go_wp2_with fail
      with_reducible refine (take_at H3.out _ (by omega)).mono ?_
      rintro e w3 ⟨rfl, hb⟩
      have HB := Lib.hid (below_on HB.out hb); clear hb
      go_wp2_with fail
      refine (works_any _).mono ?_
      rintro e w5 ⟨rfl, hb⟩
      have HB := Lib.hid (below_on HB.out hb); clear hb
      go_wp2_with fail
      go_ret
      exact ⟨rfl, HB.out⟩
end Go.Proofs.Ytcaeigjeoeahpaa
