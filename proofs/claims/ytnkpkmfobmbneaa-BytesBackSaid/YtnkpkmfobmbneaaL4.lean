/- BytesBack returns true of every row and every two texts, in whatever world, and turns nothing that was there. -/
import Derived.Test.YtnkpkmfobmbneaaL3
namespace Go.Proofs.Ytnkpkmfobmbneaa
open Go.RowKit

theorem numsO_flat {l : List Int} (h : ∀ n ∈ l, fits n) : numsO (txt (flat l)) = (l, 0) := by
  unfold numsO
  rw [txt_bl, txt_size, nums_flat l _ _ h (Nat.le_refl _), List.nil_append]
theorem numsO_back {s : ByteArray} {l : List Int} (h : numsO s = (l, 0)) : txt (flat l) = s ∧ (∀ n ∈ l, fits n) ∧ l.length ≤ s.size := by
  unfold numsO at h
  obtain ⟨m, h1, h2, h3, h4⟩ := nums_ok s.size [] (bl s) (Nat.le_refl _) (by rw [h])
  rw [h] at h1
  simp only [List.nil_append] at h1
  subst h1
  exact ⟨by rw [h2, bl_txt], h3, h4⟩
theorem text_back {s b : ByteArray} (h : ¬ 65536 < s.size) : ∃ t, putO s = (t, 0) ∧ textO (t ++ b) = (s, t.size, 0) ∧ t.size ≤ s.size + 10 := by
  have hlt := tf_lt (fits_size h).1 (fits_size h).2
  obtain ⟨p, hp⟩ : ∃ p, sev (tf (s.size : Int)) = p := ⟨_, rfl⟩
  have hput : putO s = (txt p ++ s, 0) := by unfold putO; rw [if_neg h, hp]
  have e1 : bl ((txt p ++ s) ++ b) = p ++ (bl s ++ bl b) := by
    unfold bl
    rw [ByteArray.data_append, ByteArray.data_append, Array.toList_append, Array.toList_append, List.append_assoc]
    rfl
  have e2 : (txt p ++ s).size = p.length + s.size := by rw [ByteArray.size_append, txt_size]
  have e3 : ((txt p ++ s) ++ b).size = p.length + s.size + b.size := by rw [ByteArray.size_append, e2]
  have ht : take (bl ((txt p ++ s) ++ b)) = ((s.size : Int), p.length, 0) := by
    rw [e1, ← hp, take_sev _ hlt, fo_tf]
  have hp10 : p.length ≤ 10 := by rw [← hp]; exact sev_ten hlt
  refine ⟨_, hput, ?_, by rw [e2]; omega⟩
  have hx : ((txt p ++ s) ++ b).extract p.length (p.length + s.size) = s := by
    apply WideShapes.bytes_inj
    have := bl_cut ((txt p ++ s) ++ b) p.length (p.length + s.size)
    rw [e1, List.drop_left, Nat.add_sub_cancel_left] at this
    have h2 : (bl s ++ bl b).take s.size = bl s := by rw [← bl_length s, List.take_left]
    rw [h2] at this
    exact this
  unfold textO
  rw [ht]
  simp only [Int.toNat_natCast]
  rw [if_neg (by simp), if_neg (by omega), if_neg (by omega), if_neg (by omega), hx, e2]

set_option maxHeartbeats 3200000 in
set_option maxRecDepth 1000000 in
theorem law_back {l : List Int} {a : Option Addr} (cap : Nat) (s b : ByteArray) (w : World) (hs : s.size ≤ maxLen) (hb : b.size ≤ maxLen) (hr : Rd w w.heap.size a l) (hf : ∀ n ∈ l, fits n) :
    Calls Try.prog 7 #[.slice a l.length cap, .string s, .string b] w fun e w' => e = .returned (.bool true) ∧ Below w.heap.size w w' := by
  unfold maxLen at hs hb
  have HR := Lib.hid hr; have HF := Lib.hid hf
  clear hr hf
  by_cases h1 : 1000 < l.length
  · have h1' : (1000 : Int) < (l.length : Int) := by omega
    go_enter Try.func7, Try.ntmps7
    go_wp2_with fail
    refine (works_any _).mono ?_
    rintro e w1 ⟨rfl, hb⟩
    have HB := Lib.hid hb; clear hb
    go_wp2_with fail
    go_ret
    exact ⟨rfl, HB.out⟩
  · have h1' : (l.length : Int) ≤ 1000 := by omega
    by_cases h2 : 10000 < s.size
    · have h2' : (10000 : Int) < (s.size : Int) := by omega
      go_enter Try.func7, Try.ntmps7
      go_wp2_with fail
      refine (works_any _).mono ?_
      rintro e w1 ⟨rfl, hb⟩
      have HB := Lib.hid hb; clear hb
      go_wp2_with fail
      go_ret
      exact ⟨rfl, HB.out⟩
    · have h2' : (s.size : Int) ≤ 10000 := by omega
      by_cases h3 : 1000 < b.size
      · have h3' : (1000 : Int) < (b.size : Int) := by omega
        go_enter Try.func7, Try.ntmps7
        go_wp2_with fail
        refine (works_any _).mono ?_
        rintro e w1 ⟨rfl, hb⟩
        have HB := Lib.hid hb; clear hb
        go_wp2_with fail
        go_ret
        exact ⟨rfl, HB.out⟩
      · have h3' : (b.size : Int) ≤ 1000 := by omega
        have HN := Lib.hid (numsO_flat HF.out)
        have hz := flat_size l HF.out
        rw [← txt_size] at hz
        obtain ⟨P, eP⟩ : ∃ P, txt (flat l) = P := ⟨_, rfl⟩
        rw [eP] at HN hz
        have EP := Lib.hid eP
        clear eP
        obtain ⟨m, d, hm⟩ : ∃ m d, numsO s = (m, d) := ⟨_, _, rfl⟩
        have HM := Lib.hid hm
        clear hm
        obtain ⟨t, ht1, ht2, ht3⟩ := text_back (s := s) (b := b) (by omega)
        have HT1 := Lib.hid ht1; have HT2 := Lib.hid ht2
        clear ht1 ht2
        by_cases hd : d = 0
        · subst hd
          obtain ⟨m1, m2, m3⟩ := numsO_back HM.out
          have M1 := Lib.hid m1; have M2 := Lib.hid m2
          clear m1 m2
          go_enter Try.func7, Try.ntmps7
          go_wp2_with fail
          refine (put_at cap EP.out HR.out HF.out (by omega)).mono ?_
          rintro e w1 ⟨rfl, hb⟩
          have HR := Lib.hid (HR.out.on hb)
          have HB := Lib.hid hb; clear hb
          go_wp2_with fail
          refine (numbers_at HN.out _ (by omega)).mono ?_
          rintro e w2 ⟨a2, c2, rfl, hr2, hb⟩
          have HR := Lib.hid (HR.out.on hb)
          have HR2 := Lib.hid hr2
          have HB := Lib.hid (below_on' HB.out hb); clear hb hr2
          go_wp2_with fail
          refine (equal_same c2 cap HR2.out HR.out (by omega)).mono ?_
          rintro e w3 ⟨rfl, hb⟩
          have HB := Lib.hid (below_on' HB.out hb); clear hb
          go_wp2_with fail
          refine (numbers_at HM.out _ (by omega)).mono ?_
          rintro e w4 ⟨a4, c4, rfl, hr4, hb⟩
          have HR4 := Lib.hid hr4
          have HB := Lib.hid (below_on' HB.out hb); clear hb hr4
          go_wp2_with fail
          refine (put_at c4 M1.out HR4.out M2.out (by omega)).mono ?_
          rintro e w5 ⟨rfl, hb⟩
          have HB := Lib.hid (below_on' HB.out hb); clear hb
          go_wp2_with fail
          refine (putText_at HT1.out _ (by omega)).mono ?_
          rintro e w6 ⟨rfl, hb⟩
          have HB := Lib.hid (below_on' HB.out hb); clear hb
          go_wp2_with fail
          refine (takeText_at HT2.out _ (by rw [ByteArray.size_append]; omega)).mono ?_
          rintro e w7 ⟨rfl, rfl⟩
          go_wp2_with fail
          refine (works_any _).mono ?_
          rintro e w8 ⟨rfl, hb⟩
          have HB := Lib.hid (below_on' HB.out hb); clear hb
          go_wp2_with fail
          go_ret
          exact ⟨rfl, HB.out⟩
        · have hmn : m.length ≤ 1000000 := by have := numsO_many s; rw [HM.out] at this; simp only at this; omega
          have hd1 : (d == 0) = false := by simp [hd]
          have hd2 : (d != 0) = true := by simp [hd]
          clear hd
          go_enter Try.func7, Try.ntmps7
          go_wp2_with fail
          refine (put_at cap EP.out HR.out HF.out (by omega)).mono ?_
          rintro e w1 ⟨rfl, hb⟩
          have HR := Lib.hid (HR.out.on hb)
          have HB := Lib.hid hb; clear hb
          go_wp2_with fail
          refine (numbers_at HN.out _ (by omega)).mono ?_
          rintro e w2 ⟨a2, c2, rfl, hr2, hb⟩
          have HR := Lib.hid (HR.out.on hb)
          have HR2 := Lib.hid hr2
          have HB := Lib.hid (below_on' HB.out hb); clear hb hr2
          go_wp2_with fail
          refine (equal_same c2 cap HR2.out HR.out (by omega)).mono ?_
          rintro e w3 ⟨rfl, hb⟩
          have HB := Lib.hid (below_on' HB.out hb); clear hb
          go_wp2_with fail
          refine (numbers_at HM.out _ (by omega)).mono ?_
          rintro e w4 ⟨a4, c4, rfl, hr4, hb⟩
          have HB := Lib.hid (below_on' HB.out hb); clear hb hr4
          go_wp2_with fail
          refine (putText_at HT1.out _ (by omega)).mono ?_
          rintro e w6 ⟨rfl, hb⟩
          have HB := Lib.hid (below_on' HB.out hb); clear hb
          go_wp2_with fail
          refine (takeText_at HT2.out _ (by rw [ByteArray.size_append]; omega)).mono ?_
          rintro e w7 ⟨rfl, rfl⟩
          go_wp2_with fail
          refine (works_any _).mono ?_
          rintro e w8 ⟨rfl, hb⟩
          have HB := Lib.hid (below_on' HB.out hb); clear hb
          go_wp2_with fail
          go_ret
          exact ⟨rfl, HB.out⟩
end Go.Proofs.Ytnkpkmfobmbneaa
