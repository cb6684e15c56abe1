/- BytesPuts, BytesOne and BytesSizes return true of every row, of every two numbers, in whatever world, and turn nothing that was there. -/
import Derived.Test.YtnkpkmfobmbneaaL2
namespace Go.Proofs.Ytnkpkmfobmbneaa
open Go.RowKit

theorem fits_wf {n : Int} (h : (Lit.int .i64 n).wf = true) : fits n := by
  simp [Lit.wf, IntKind.min, IntKind.max, IntKind.signed, IntKind.bits] at h
  exact ⟨by omega, by omega⟩
/-- A slice of numbers that came in is read as its numbers. -/
theorem rd_row {w : World} {a : Option Addr} {len cap : Nat} {zs : List Int}
    (h : (a = none ∧ len = 0 ∧ cap = 0 ∧ zs = []) ∨ ∃ x, a = some x ∧ len ≤ cap ∧ cap ≤ maxLen ∧ zs.length = cap ∧ (∀ i, i < zs.length → w.cell? (x.add i) = some (.int .i64 (zs.getD i 0))) ∧ ∀ n ∈ zs, (Lit.int .i64 n).wf = true) :
    ∃ l : List Int, l.length = len ∧ Rd w w.heap.size a l ∧ (∀ n ∈ l, fits n) := by
  rcases h with ⟨rfl, rfl, rfl, rfl⟩ | ⟨x, rfl, hl, hm, hz, hc, hw⟩
  · exact ⟨[], rfl, fun h => absurd rfl h, by simp⟩
  · refine ⟨zs.take len, by rw [List.length_take]; omega, fun hne => ?_, fun n hn => ?_⟩
    · have hlen : 0 < len := by
        rcases Nat.eq_zero_or_pos len with h0 | h0
        · rw [h0] at hne; exact absurd rfl hne
        · exact h0
      obtain ⟨b, off, spot⟩ := x
      have hc0 := hc 0 (by omega)
      have hspot : spot = none := by simpa [Addr.add] using World.cell?_spot hc0
      subst hspot
      refine ⟨b, off, rfl, ?_, fun j hj => ?_⟩
      · have := World.block_lt_of_cell? w _ hc0
        simpa [Addr.add] using this
      · rw [List.length_take] at hj
        have := hc j (by omega)
        have hadd : (⟨b, off, none⟩ : Addr).add j = ⟨b, off + j, none⟩ := by unfold Addr.add; split <;> simp_all
        rw [hadd] at this
        rw [this, List.getD_eq_getElem?_getD, List.getD_eq_getElem?_getD, List.getElem?_take, if_pos (by omega)]
    · exact fits_wf (hw n (List.mem_of_mem_take hn))
theorem put_at {l : List Int} {a : Option Addr} (cap : Nat) {w : World} {t : ByteArray} (ht : txt (flat l) = t) (hr : Rd w w.heap.size a l) (hf : ∀ n ∈ l, fits n) (hl : l.length ≤ 1000000) :
    Calls Try.prog 14 #[.slice a l.length cap] w fun e w' => e = .returned (.string t) ∧ Below w.heap.size w w' := by
  subst ht; exact put_any l a cap w hr hf hl
theorem refPut_at {l : List Int} {a : Option Addr} (cap : Nat) {w : World} {t : ByteArray} (ht : txt (flat l) = t) (hr : Rd w w.heap.size a l) (hf : ∀ n ∈ l, fits n) (hl : l.length ≤ 1000000) :
    Calls Try.prog 15 #[.slice a l.length cap] w fun e w' => e = .returned (.string t) ∧ Below w.heap.size w w' := by
  subst ht; exact refPut_any l a cap w hr hf hl
theorem put_one_at {n : Int} {t : ByteArray} (ht : txt (sev (tf n)) = t) (w : World) (hn : fits n) : Calls Try.prog 14 #[.slice (some ⟨w.heap.size, 0, none⟩) 1 1] (w.alloc (.cells #[.int .i64 n] 2)) fun e w' => e = .returned (.string t) ∧ Below w.heap.size w w' := by
  subst ht; exact put_one n w hn

set_option maxHeartbeats 800000 in
set_option maxRecDepth 1000000 in
theorem law_puts {l : List Int} {a : Option Addr} (cap : Nat) (w : World) (hr : Rd w w.heap.size a l) (hf : ∀ n ∈ l, fits n) : Calls Try.prog 4 #[.slice a l.length cap] w fun e w' => e = .returned (.bool true) ∧ Below w.heap.size w w' := by
  have HR := Lib.hid hr; have HF := Lib.hid hf
  clear hr hf
  by_cases hl : 1000 < l.length
  · have hl' : (1000 : Int) < (l.length : Int) := by omega
    go_enter Try.func4, Try.ntmps4
    go_wp2_with fail
    refine (works_any _).mono ?_
    rintro e w1 ⟨rfl, hb⟩
    have HB := Lib.hid hb; clear hb
    go_wp2_with fail
    go_ret
    exact ⟨rfl, HB.out⟩
  · have hl' : (l.length : Int) ≤ 1000 := by omega
    obtain ⟨t, et⟩ : ∃ t, txt (flat l) = t := ⟨_, rfl⟩
    have ET := Lib.hid et; clear et
    go_enter Try.func4, Try.ntmps4
    go_wp2_with fail
    refine (put_at cap ET.out HR.out HF.out (by omega)).mono ?_
    rintro e w1 ⟨rfl, hb⟩
    have HR := Lib.hid (HR.out.on hb)
    have HB := Lib.hid hb; clear hb
    go_wp2_with fail
    refine (refPut_at cap ET.out HR.out HF.out (by omega)).mono ?_
    rintro e w2 ⟨rfl, hb⟩
    have HB := Lib.hid (below_on' HB.out hb); clear hb
    go_wp2_with fail
    refine (works_any _).mono ?_
    rintro e w3 ⟨rfl, hb⟩
    have HB := Lib.hid (below_on' HB.out hb); clear hb
    go_wp2_with fail
    go_ret
    exact ⟨rfl, HB.out⟩

theorem one_apart {a b : Int} (ha : fits a) (hb : fits b) (h : a ≠ b) : txt (sev (tf a)) ≠ txt (sev (tf b)) ∧ ((txt (sev (tf a))).size ≤ (txt (sev (tf b))).size → (txt (sev (tf b))).extract 0 (txt (sev (tf a))).size ≠ txt (sev (tf a))) := by
  have key : ∀ t, sev (tf a) ++ t ≠ sev (tf b) := fun t e => by
    have := sev_one (tf_lt ha.1 ha.2) (tf_lt hb.1 hb.2) e
    apply h
    rw [← fo_tf a, ← fo_tf b, this]
  constructor
  · intro e
    refine key [] ?_
    rw [List.append_nil, ← txt_bl (sev (tf a)), e, txt_bl]
  · intro _ e
    have e2 := congrArg bl e
    rw [bl_cut, txt_bl, txt_bl, List.drop_zero, Nat.sub_zero, txt_size] at e2
    refine key ((sev (tf b)).drop (sev (tf a)).length) ?_
    have e3 := List.take_append_drop (sev (tf a)).length (sev (tf b))
    rw [e2] at e3
    exact e3

set_option maxHeartbeats 1600000 in
set_option maxRecDepth 1000000 in
theorem law_one (a b : Int) (ha : fits a) (hb : fits b) (w : World) : Calls Try.prog 8 #[.int .i64 a, .int .i64 b] w fun e w' => e = .returned (.bool true) ∧ Below w.heap.size w w' := by
  have hs := sev_room ha
  have ht := sev_room hb
  by_cases hab : a = b
  · subst hab
    obtain ⟨S, eS⟩ : ∃ S, txt (sev (tf a)) = S := ⟨_, rfl⟩
    rw [eS] at hs
    have ES := Lib.hid eS; have HA := Lib.hid ha
    clear eS ha hb ht
    go_enter Try.func8, Try.ntmps8
    go_wp2_with fail
    refine (put_one_at ES.out _ HA.out).mono ?_
    rintro e w1 ⟨rfl, hb⟩
    have HB := Lib.hid hb; clear hb
    go_wp2_with fail
    refine (put_one_at ES.out _ HA.out).mono ?_
    rintro e w2 ⟨rfl, hb⟩
    have HB := Lib.hid (below_on' HB.out hb); clear hb
    go_wp2_with fail
    refine (works_any _).mono ?_
    rintro e w3 ⟨rfl, hb⟩
    have HB := Lib.hid (below_on' HB.out hb); clear hb
    go_wp2_with fail
    go_ret
    exact ⟨rfl, HB.out⟩
  · obtain ⟨hne, hpre⟩ := one_apart ha hb hab
    obtain ⟨S, eS⟩ : ∃ S, txt (sev (tf a)) = S := ⟨_, rfl⟩
    obtain ⟨T, eT⟩ : ∃ T, txt (sev (tf b)) = T := ⟨_, rfl⟩
    rw [eS] at hs hne hpre
    rw [eT] at ht hne hpre
    have hst := str_ne hne
    have hab' : (a == b) = false := by simp [hab]
    have ES := Lib.hid eS; have ET := Lib.hid eT; have HA := Lib.hid ha; have HBB := Lib.hid hb; have HP := Lib.hid hpre
    clear eS eT ha hb hne hpre hab
    go_enter Try.func8, Try.ntmps8
    go_wp2_with fail
    refine (put_one_at ES.out _ HA.out).mono ?_
    rintro e w1 ⟨rfl, hb⟩
    have HB := Lib.hid hb; clear hb
    go_wp2_with fail
    refine (put_one_at ET.out _ HBB.out).mono ?_
    rintro e w2 ⟨rfl, hb⟩
    have HB := Lib.hid (below_on' HB.out hb); clear hb
    go_wp2_with fail
    refine (prefix_no T S _ (by omega) (by omega) HP.out).mono ?_
    rintro e w3 ⟨rfl, rfl⟩
    go_wp2_with fail
    refine (works_any _).mono ?_
    rintro e w3 ⟨rfl, hb⟩
    have HB := Lib.hid (below_on' HB.out hb); clear hb
    go_wp2_with fail
    go_ret
    exact ⟨rfl, HB.out⟩

set_option maxHeartbeats 1600000 in
set_option maxRecDepth 1000000 in
theorem law_sizes (a b : Int) (ha : fits a) (hb : fits b) (w : World) : Calls Try.prog 9 #[.int .i64 a, .int .i64 b] w fun e w' => e = .returned (.bool true) ∧ Below w.heap.size w w' := by
  have hs := sev_room ha
  have ht := sev_room hb
  have hs1 : 1 ≤ (txt (sev (tf a))).size := by rw [txt_size]; exact sev_pos _
  have ht1 : 1 ≤ (txt (sev (tf b))).size := by rw [txt_size]; exact sev_pos _
  have hm : tf a / 2 ≤ tf b / 2 → (txt (sev (tf a))).size ≤ (txt (sev (tf b))).size := fun h => by rw [txt_size, txt_size]; exact sev_mono _ _ h
  have hm2 : tf b / 2 ≤ tf a / 2 → (txt (sev (tf b))).size ≤ (txt (sev (tf a))).size := fun h => by rw [txt_size, txt_size]; exact sev_mono _ _ h
  obtain ⟨S, eS⟩ : ∃ S, txt (sev (tf a)) = S := ⟨_, rfl⟩
  obtain ⟨T, eT⟩ : ∃ T, txt (sev (tf b)) = T := ⟨_, rfl⟩
  have ES := Lib.hid eS; have ET := Lib.hid eT
  rw [eS] at hs hs1 hm hm2
  rw [eT] at ht ht1 hm hm2
  have HFA := Lib.hid (far_any a · ha); have HFB := Lib.hid (far_any b · hb)
  obtain ⟨x, ex⟩ : ∃ x, tf a / 2 = x := ⟨_, rfl⟩
  obtain ⟨y, ey⟩ : ∃ y, tf b / 2 = y := ⟨_, rfl⟩
  rw [ex] at HFA hm hm2
  rw [ey] at HFB hm hm2
  have HA := Lib.hid ha; have HBB := Lib.hid hb
  clear eS eT ha hb ex ey
  by_cases hxy : y < x
  · have hle := hm2 (by omega)
    clear hm hm2
    have hxy' : (y : Int) < (x : Int) := by omega
    go_enter Try.func9, Try.ntmps9
    go_wp2_with fail
    refine (put_one_at ES.out _ HA.out).mono ?_
    rintro e w1 ⟨rfl, hb⟩
    have HB := Lib.hid hb; clear hb
    go_wp2_with fail
    refine (put_one_at ET.out _ HBB.out).mono ?_
    rintro e w2 ⟨rfl, hb⟩
    have HB := Lib.hid (below_on' HB.out hb); clear hb
    go_wp2_with fail
    refine (HFA.out _).mono ?_
    rintro e w3 ⟨rfl, rfl⟩
    go_wp2_with fail
    refine (HFB.out _).mono ?_
    rintro e w3 ⟨rfl, rfl⟩
    go_wp2_with fail
    refine (works_any _).mono ?_
    rintro e w3 ⟨rfl, hb⟩
    have HB := Lib.hid (below_on' HB.out hb); clear hb
    go_wp2_with fail
    go_ret
    exact ⟨rfl, HB.out⟩
  · have hle := hm (by omega)
    clear hm hm2
    have hxy' : (x : Int) ≤ (y : Int) := by omega
    go_enter Try.func9, Try.ntmps9
    go_wp2_with fail
    refine (put_one_at ES.out _ HA.out).mono ?_
    rintro e w1 ⟨rfl, hb⟩
    have HB := Lib.hid hb; clear hb
    go_wp2_with fail
    refine (put_one_at ET.out _ HBB.out).mono ?_
    rintro e w2 ⟨rfl, hb⟩
    have HB := Lib.hid (below_on' HB.out hb); clear hb
    go_wp2_with fail
    refine (HFA.out _).mono ?_
    rintro e w3 ⟨rfl, rfl⟩
    go_wp2_with fail
    refine (HFB.out _).mono ?_
    rintro e w3 ⟨rfl, rfl⟩
    go_wp2_with fail
    refine (works_any _).mono ?_
    rintro e w3 ⟨rfl, hb⟩
    have HB := Lib.hid (below_on' HB.out hb); clear hb
    go_wp2_with fail
    go_ret
    exact ⟨rfl, HB.out⟩
end Go.Proofs.Ytnkpkmfobmbneaa
