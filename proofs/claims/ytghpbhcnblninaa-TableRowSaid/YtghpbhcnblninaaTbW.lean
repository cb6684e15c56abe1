/- A table is taken as it was put; bytes are put as they were taken. -/
import Derived.Test.YtghpbhcnblninaaTbV
namespace Go.Proofs.Ytghpbhcnblninaa.tbl
set_option linter.unusedSimpArgs false
set_option linter.unusedVariables false
open Go.RowKit
attribute [local go_sem ↓] Go.wp_at_zero Go.wp_at_succ
open Go.Proofs.Ytghpbhcnblninaa.grp (gof gof_in fits fits_wf IRow intV below_on' below_made ret_bool own_below irow_new below_drewN EqPost eq_yes eq_no)
open Go.Proofs.Ytghpbhcnblninaa.byt (txt bl)
theorem tab_size {L : Rows} (h : Good L) : (tabB L).size ≤ 100000 := by
  unfold tabB
  rw [byt.txt_size]
  have h1 := byt.flat_size (numsL L) (numsL_fits h)
  have h2 := numsK_len h L.length
  rw [numsK_all] at h2
  have := h.len
  omega
theorem tab_take {L : Rows} (h : Good L) : takeT (bl (tabB L)) = (0, L) := take_back h
theorem take_code {l : List UInt8} (h : (takeT l).1 = 0) : Good (takeT l).2 ∧ tabB (takeT l).2 = txt l := by
  have := take_forth (l := l) (L := (takeT l).2) (by rw [← h])
  refine ⟨this.1, ?_⟩
  unfold tabB
  rw [this.2]
/-- Take of a table's bytes. -/
theorem take_at {w : World} {L : Rows} {s : ByteArray} (hs : tabB L = s) (h : Good L) : Calls Try.prog 11 #[.string s] w fun e w' => ∃ t b, e = .returned (.tuple #[.pointer (some ⟨t, 0, none⟩), .int .i64 0]) ∧ MadeT w.heap.size w w' t b L := by
  rw [← hs]
  refine (take_any _ w (by have := tab_size h; omega)).mono ?_
  intro e w' hp
  unfold TakePost at hp
  rw [tab_take h, if_pos rfl] at hp
  exact hp
theorem heavy_at {w w1 : World} {a : Option Addr} {l : List Opn} {cap : Nat} (hr : Ops w w.heap.size a l) (hb : Below w.heap.size w w1) : Ops w1 w1.heap.size a l := by
  have h := hr.below hb
  refine ⟨fun hl => ?_, fun p hp => ⟨⟨(h.2 p hp).1.1, fun h0 => ?_⟩, (h.2 p hp).2⟩⟩
  · obtain ⟨b, o, e, h1, h2⟩ := h.1 hl
    exact ⟨b, o, e, Nat.lt_of_lt_of_le h1 hb.size, h2⟩
  · obtain ⟨g, o, e, h1, h2⟩ := (h.2 p hp).1.2 h0
    exact ⟨g, o, e, Nat.lt_of_lt_of_le h1 hb.size, h2⟩
set_option maxHeartbeats 1600000 in
set_option maxRecDepth 100000 in
theorem law_back (l : List Opn) (a : Option Addr) (cap : Nat) (s : ByteArray) (w : World) (hr : Ops w w.heap.size a l) (hl : l.length ≤ cap) (hc : cap ≤ maxLen) (hs : s.size ≤ maxLen) :
    Calls Try.prog 6 #[.slice a l.length cap, .string s] w fun e w' => e = .returned (.bool true) ∧ Below w.heap.size w w' := by
  have HH := Lib.hid (heavy_any l a cap w hr hl (by unfold maxLen at hc; omega))
  have HR := Lib.hid hr
  clear hr
  go_enter Try.func6, Try.ntmps6
  go_wp2_with fail
  refine HH.out.mono ?_
  rintro e w1 ⟨⟨hv, rfl, hn⟩, hb⟩
  have HB := Lib.hid hb
  have HN := Lib.hid hn
  have HR1 := Lib.hid (heavy_at (cap := cap) HR.out hb)
  clear hb hn
  cases hv with
  | true =>
    go_wp2_with fail
    refine (works_any _).mono ?_
    rintro e w2 ⟨rfl, hb⟩
    have HB := Lib.hid (below_on' HB.out hb)
    clear hb
    go_wp2_with fail
    go_ret
    exact ⟨rfl, HB.out⟩
  | false =>
    have HNV := Lib.hid (HN.out rfl)
    clear HN
    by_cases h2 : 20000 < s.size
    · have h2' : (20000 : Int) < (s.size : Int) := by omega
      have H2 := Lib.hid h2
      clear h2
      go_wp2_with fail
      refine (works_any _).mono ?_
      rintro e w2 ⟨rfl, hb⟩
      have HB := Lib.hid (below_on' HB.out hb)
      clear hb
      go_wp2_with fail
      go_ret
      exact ⟨rfl, HB.out⟩
    · have h2' : (s.size : Int) ≤ (20000 : Int) := by omega
      have H2 := Lib.hid h2
      clear h2
      go_wp2_with fail
      refine (made_any l a cap w1 HR1.out hl HNV.out).mono ?_
      obtain ⟨L, hL⟩ : ∃ L, madeO [] l = L := ⟨_, rfl⟩
      rw [hL]
      rintro e w2 ⟨t, b, rfl, ht, hwt, hwb, hb⟩
      have HT := Lib.hid ht
      have HB := Lib.hid (below_on' HB.out hb)
      obtain ⟨T, hT⟩ : ∃ T, tabB L = T := ⟨_, rfl⟩
      have HTS := Lib.hid hT
      clear hb ht hT
      go_wp2_with fail
      refine (bytes_at HTS.out HT.out).mono ?_
      rintro e w3 ⟨rfl, hb⟩
      have HT := Lib.hid (HT.out.below hb)
      have HB := Lib.hid (below_on' HB.out hb)
      clear hb
      go_wp2_with fail
      refine (take_at HTS.out HT.out.good).mono ?_
      rintro e w4 ⟨t2, b2, rfl, ht2, -, -, hb⟩
      have HT2 := Lib.hid ht2
      have HT := Lib.hid (HT.out.below hb)
      have HB := Lib.hid (below_on' HB.out hb)
      clear hb ht2
      go_wp2_with fail
      refine (bytes_at HTS.out HT2.out).mono ?_
      rintro e w5 ⟨rfl, hb⟩
      have HT := Lib.hid (HT.out.below hb)
      have HB := Lib.hid (below_on' HB.out hb)
      clear hb
      go_wp2_with fail
      refine (bytes_at HTS.out HT.out).mono ?_
      rintro e w6 ⟨rfl, hb⟩
      have HB := Lib.hid (below_on' HB.out hb)
      clear hb
      go_wp2_with fail
      refine (take_any s w6 (by have := H2.out; omega)).mono ?_
      intro e w7 hp
      unfold TakePost at hp
      by_cases h0 : (takeT (bl s)).1 = 0
      · rw [if_pos h0] at hp
        have HC := Lib.hid (take_code h0)
        obtain ⟨t3, b3, rfl, ht3, -, -, hb⟩ := hp
        have HT3 := Lib.hid ht3
        have HB := Lib.hid (below_on' HB.out hb)
        clear hb ht3 h0
        have HS : Hid (tabB (takeT (bl s)).2 = s) := Lib.hid HC.out.2
        go_wp2_with fail
        refine (bytes_at HS.out HT3.out).mono ?_
        rintro e w8 ⟨rfl, hb⟩
        have HB := Lib.hid (below_on' HB.out hb)
        clear hb
        go_wp2_with fail
        refine (works_any _).mono ?_
        rintro e w9 ⟨rfl, hb⟩
        have HB := Lib.hid (below_on' HB.out hb)
        clear hb
        go_wp2_with fail
        go_ret
        exact ⟨rfl, HB.out⟩
      · rw [if_neg h0] at hp
        obtain ⟨c, hc⟩ : ∃ c, (takeT (bl s)).1 = c := ⟨_, rfl⟩
        rw [hc] at h0 hp
        obtain ⟨rfl, hb⟩ := hp
        have HB := Lib.hid (below_on' HB.out hb)
        have hne : (c != 0) = true := by simp [h0]
        clear hb hc
        go_wp2_with fail
        refine (works_any _).mono ?_
        rintro e w9 ⟨rfl, hb⟩
        have HB := Lib.hid (below_on' HB.out hb)
        clear hb
        go_wp2_with fail
        go_ret
        exact ⟨rfl, HB.out⟩
end Go.Proofs.Ytghpbhcnblninaa.tbl
