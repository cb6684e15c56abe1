/- Any bytes: the table whose they are, or why they are none's. -/
import Derived.Test.YtghpbhcnblninaaTcG
namespace Go.Proofs.Ytghpbhcnblninaa.tbl
set_option linter.unusedSimpArgs false
set_option linter.unusedVariables false
open Go.RowKit
attribute [local go_sem ↓] Go.wp_at_zero Go.wp_at_succ
open Go.Proofs.Ytghpbhcnblninaa.grp (gof gof_in fits fits_wf IRow intV below_on' below_made ret_bool own_below irow_new below_drewN EqPost eq_yes eq_no)
open Go.Proofs.Ytghpbhcnblninaa.byt (txt bl)
theorem rbytes_at {w : World} {r : Nat} {L : Rows} {T : ByteArray} (hT : tabB L = T) (h : IsRef w r L) :
    Calls Try.prog 30 #[.pointer (some ⟨r, 0, none⟩)] w fun e w' => e = .returned (.string T) ∧ Below w.heap.size w w' := by
  obtain ⟨hG, rs, rfl, hr⟩ := h
  rw [← hT]
  exact rbytes_any hr hG
theorem rkeys_at {w : World} {r : Nat} {L : Rows} (h : IsRef w r L) :
    Calls Try.prog 26 #[.pointer (some ⟨r, 0, none⟩)] w fun e w' => ∃ u, e = .returned u ∧ IRow w' u (L.map Prod.fst) ∧ Below w.heap.size w w' := by
  obtain ⟨hG, rs, rfl, hr⟩ := h
  have := rkeys_any hr hG
  rw [show (rs.map Rw.p).map Prod.fst = rs.map Rw.key by rw [List.map_map]; rfl]
  exact this
set_option maxHeartbeats 1600000 in
set_option maxRecDepth 1000000 in
theorem law_takes (s : ByteArray) (w : World) (hs : s.size ≤ maxLen) : Calls Try.prog 5 #[.string s] w fun e w' => e = .returned (.bool true) ∧ Below w.heap.size w w' := by
  by_cases h2 : 20000 < s.size
  · have h2' : (20000 : Int) < (s.size : Int) := by omega
    have H2 := Lib.hid h2
    clear h2
    go_enter Try.func5, Try.ntmps5
    go_wp2_with fail
    refine (works_any _).mono ?_
    rintro e w2 ⟨rfl, hb⟩
    have HB := Lib.hid hb
    clear hb
    go_wp2_with fail
    go_ret
    exact ⟨rfl, HB.out⟩
  · have h2' : ¬ ((20000 : Int) < (s.size : Int)) := by omega
    have HT := Lib.hid (take_any s w (by omega))
    have HR := Lib.hid (fun w => ref.rtake_any s w (by omega))
    unfold TakePost at HT
    unfold ref.RTPost at HR
    clear h2
    by_cases h0 : (takeT (bl s)).1 = 0
    · simp only [if_pos h0] at HT HR
      obtain ⟨L, hL⟩ : ∃ L, (takeT (bl s)).2 = L := ⟨_, rfl⟩
      rw [hL] at HT
      simp only [hL] at HR
      obtain ⟨T, hT⟩ : ∃ T, tabB L = T := ⟨_, rfl⟩
      have HTS := Lib.hid hT
      clear h0 hL hT
      go_enter Try.func5, Try.ntmps5
      go_wp2_with fail
      refine HT.out.mono ?_
      rintro e w1 ⟨t, b, rfl, ht, -, -, hb⟩
      have HT1 := Lib.hid ht
      have HB := Lib.hid hb
      clear ht hb
      go_wp2_with fail
      refine (HR.out w1).mono ?_
      rintro e w2 ⟨r, rfl, hr, -, hb⟩
      have HT1 := Lib.hid (HT1.out.below hb)
      have HR1 := Lib.hid hr
      have HB := Lib.hid (below_on' HB.out hb)
      clear hr hb
      go_wp2_with fail
      refine (bytes_at HTS.out HT1.out).mono ?_
      rintro e w3 ⟨rfl, hb⟩
      have HT1 := Lib.hid (HT1.out.below hb)
      have HR1 := Lib.hid (HR1.out.below hb)
      have HB := Lib.hid (below_on' HB.out hb)
      clear hb
      go_wp2_with fail
      refine (rbytes_at HTS.out HR1.out).mono ?_
      rintro e w4 ⟨rfl, hb⟩
      have HT1 := Lib.hid (HT1.out.below hb)
      have HR1 := Lib.hid (HR1.out.below hb)
      have HB := Lib.hid (below_on' HB.out hb)
      clear hb
      go_wp2_with fail
      refine (keys_at rfl HT1.out).mono ?_
      rintro e w5 ⟨v, rfl, hv, hb⟩
      have HV := Lib.hid hv
      have HR1 := Lib.hid (HR1.out.below hb)
      have HB := Lib.hid (below_on' HB.out hb)
      have HG := Lib.hid HT1.out.good.len
      clear hb hv
      go_wp2_with fail
      refine (rkeys_at HR1.out).mono ?_
      rintro e w6 ⟨u, rfl, hu, hb⟩
      have HV := Lib.hid (HV.out.on hb)
      have HU := Lib.hid hu
      have HB := Lib.hid (below_on' HB.out hb)
      clear hb hu
      go_wp2_with fail
      refine (equal_nums_same HV.out HU.out (by rw [List.length_map]; have := HG.out; omega)).mono ?_
      rintro e w7 ⟨rfl, hb⟩
      have HB := Lib.hid (below_on' HB.out hb)
      clear hb
      go_wp2_with fail
      refine (works_any _).mono ?_
      rintro e w8 ⟨rfl, hb⟩
      have HB := Lib.hid (below_on' HB.out hb)
      clear hb
      go_wp2_with fail
      go_ret
      exact ⟨rfl, HB.out⟩
    · simp only [if_neg h0] at HT HR
      obtain ⟨c, hc⟩ : ∃ c, (takeT (bl s)).1 = c := ⟨_, rfl⟩
      rw [hc] at HT
      simp only [hc] at HR
      clear h0 hc
      go_enter Try.func5, Try.ntmps5
      go_wp2_with fail
      refine HT.out.mono ?_
      rintro e w1 ⟨rfl, hb⟩
      have HB := Lib.hid hb
      clear hb
      go_wp2_with fail
      refine (HR.out w1).mono ?_
      rintro e w2 ⟨rfl, hb⟩
      have HB := Lib.hid (below_on' HB.out hb)
      clear hb
      go_wp2_with fail
      refine (works_any _).mono ?_
      rintro e w8 ⟨rfl, hb⟩
      have HB := Lib.hid (below_on' HB.out hb)
      clear hb
      go_wp2_with fail
      go_ret
      exact ⟨rfl, HB.out⟩
end Go.Proofs.Ytghpbhcnblninaa.tbl
