/- DiskOff returns true. -/
import Derived.Test.YtdajpaigahhhcaaT
namespace Go.Proofs.Ytdajpaigahhhcaa.dsk
set_option linter.unusedSimpArgs false
set_option linter.unusedVariables false
open Go.RowKit

theorem cat_nil : cat [] = empty := rfl
theorem cat_cons (s : ByteArray) (l : List ByteArray) : cat (s :: l) = s ++ cat l := by
  apply ByteArray.ext
  apply Array.ext'
  simp [cat, fl_cons, ByteArray.data_append]
theorem upd_upd {α : Type} (f : Nat → α) (i : Nat) (x y : α) : upd (upd f i x) i y = upd f i y := by
  funext j
  by_cases e : j = i
  · subst e; rw [upd_same, upd_same]
  · rw [upd_other _ _ e, upd_other _ _ e, upd_other _ _ e]
theorem run_apps (l : List ByteArray) (f : Files) : run f (l.map (Chg.app 0)) = upd f 0 (f 0 ++ cat l) := by
  induction l generalizing f with
  | nil =>
    rw [List.map_nil, run_nil, cat_nil, append_empty']
    funext j
    by_cases e : j = 0
    · subst e; rw [upd_same]
    · rw [upd_other _ _ e]
  | cons s l ih =>
    rw [List.map_cons, run_cons, ih, cat_cons]
    show upd (upd f 0 (f 0 ++ s)) 0 (upd f 0 (f 0 ++ s) 0 ++ cat l) = _
    rw [upd_upd, upd_same, ByteArray.append_assoc]
def offD (n : Nat) (l : List ByteArray) (k : Nat) : D := ⟨4194304, decide (n < k), if k ≤ n then (n : Int) - k else 0, fun _ => empty, (l.take (min k n)).map (Chg.app 0)⟩
theorem offD_now (n : Nat) (l : List ByteArray) (k : Nat) : (offD n l k).now = upd (fun _ => empty) 0 (cat (l.take (min k n))) := by
  show run (fun _ => empty) ((l.take (min k n)).map (Chg.app 0)) = _
  rw [run_apps, empty_append']
theorem fl_take_le (l : List ByteArray) (k : Nat) : (fl (l.take k)).length ≤ (fl l).length := by
  have : fl l = fl (l.take k) ++ fl (l.drop k) := by
    unfold fl; rw [← List.flatMap_append, List.take_append_drop]
  rw [this, List.length_append]; omega
theorem offD_total (n : Nat) (l : List ByteArray) (k : Nat) : total (offD n l k).now ≤ (fl l).length := by
  rw [offD_now]
  have h := total_upd (fun _ => empty) (i := 0) (cat (l.take (min k n))) (by decide)
  rw [total_empty, cat_size] at h
  have e : ((fun _ => empty : Files) 0).size = 0 := rfl
  have := fl_take_le l (min k n)
  omega
theorem offD_zero (n : Nat) (l : List ByteArray) : (D.fresh 4194304).power n = (0, offD n l 0) := by
  unfold D.power
  rw [if_neg (by decide), if_neg (by omega)]
  unfold offD D.fresh
  simp
theorem take_snoc {l : List ByteArray} {k : Nat} (h : k < l.length) : l.take (k + 1) = l.take k ++ [l.getD k empty] := by
  rw [List.take_succ_eq_append_getElem h, List.getD_eq_getElem?_getD, List.getElem?_eq_getElem h]; rfl
theorem offD_step (n : Nat) (l : List ByteArray) (k : Nat) (hk : k < l.length) (hf : (fl l).length ≤ 1048576) : (offD n l k).append 0 (l.getD k empty) = (if k < n then 0 else 50, offD n l (k + 1)) := by
  have ht := offD_total n l k
  have hs : (l.getD k empty).size ≤ 1048576 := by
    have : l.getD k empty ∈ l := by rw [List.getD_eq_getElem?_getD, List.getElem?_eq_getElem hk]; exact List.getElem_mem hk
    have := fl_mem this; omega
  unfold D.append
  by_cases h1 : n < k
  · rw [if_pos (by unfold offD; simp [h1]), if_neg (by omega)]
    unfold offD
    have e1 : decide (n < k) = decide (n < k + 1) := by rw [decide_eq_true h1, decide_eq_true (by omega)]
    rw [e1, if_neg (by omega), if_neg (by omega), Nat.min_eq_right (by omega), Nat.min_eq_right (by omega)]
  · have hroom : ¬ (offD n l k).room' < ((l.getD k empty).size : Int) := by
      unfold D.room'
      have e : (offD n l k).room = 4194304 := rfl
      rw [e]; omega
    have hoff : ¬ (offD n l k).off = true := by unfold offD; simp; omega
    rw [if_neg hoff, if_neg (by decide), if_neg hroom]
    have hle : k ≤ n := by omega
    by_cases h2 : k < n
    · rw [if_pos h2]
      have hop : (offD n l k).op = (0, { offD n l k with left := (n : Int) - k - 1 }) := by
        unfold D.op
        have e : (offD n l k).left = (n : Int) - k := by unfold offD; simp [hle]
        rw [e, if_neg (by omega), if_neg (by omega)]
      unfold D.chg
      rw [hop, if_pos rfl]
      unfold offD
      rw [Nat.min_eq_left (by omega), Nat.min_eq_left (by omega), take_snoc hk, List.map_append]
      rw [decide_eq_false (by omega : ¬ n < k), decide_eq_false (by omega : ¬ n < k + 1), if_pos (show k + 1 ≤ n by omega)]
      have e : (n : Int) - k - 1 = (n : Int) - ((k + 1 : Nat) : Int) := by omega
      simp only [e]; rfl
    · obtain rfl : k = n := by omega
      rw [if_neg (by omega)]
      have hop : (offD k l k).op = (50, { offD k l k with off := true }) := by
        unfold D.op
        have e : (offD k l k).left = 0 := by unfold offD; simp
        rw [if_pos e]
      unfold D.chg
      rw [hop, if_neg (by simp)]
      unfold offD
      rw [Nat.min_self, Nat.min_eq_right (by omega), decide_eq_true (by omega : k < k + 1), if_pos (Nat.le_refl k), if_neg (by omega)]
      simp
theorem offD_crash (n : Nat) (l : List ByteArray) (k : Nat) (hl : l.length ≤ 200) : ((offD n l k).crash 1099511627776 0).read 0 = (cat (l.take (min k n)), 0) := by
  have hlen : (offD n l k).loose.length ≤ 200 := by
    show ((l.take (min k n)).map (Chg.app 0)).length ≤ 200
    rw [List.length_map, List.length_take]; omega
  have hw : win 1099511627776 (offD n l k).loose.length = (offD n l k).loose.length := by unfold win; omega
  have hk : (offD n l k).kept 1099511627776 0 = (offD n l k).now := by
    unfold D.kept
    rw [hw, List.getElem?_eq_none (Nat.le_refl _), List.take_length]; rfl
  unfold D.read
  rw [if_neg (by unfold D.crash; simp), if_neg (by decide), D.crash_now, hk, offD_now]
  rfl
theorem run_slice_texts (a : Option Addr) (n cap k : Nat) (hn : n ≤ cap) (hk : k ≤ n) (w : World) : (Instr.slice 48 (.slice a n cap) none (some (.int .i64 k)) none).run Try.prog w = .ok (.slice a k cap) w := by
  have h2 : (k : Int) ≤ (cap : Int) := by omega
  cases h9 : Try.prog.info? 9 with
  | none => have : (Try.prog.info? 9).map (·.size) = some 1 := by kernel_rfl
            simp [h9] at this
  | some i0 =>
    have h3 : a.map (fun x => x.add 0) = a := by cases a <;> rfl
    simp [Instr.slice, run_underlying Try.underlying48, Instr.sliceBounds, Instr.sliceBound, asIntOf, sizeOf, typeInfo, h9, Sem.run_bind, h2, h3]
    omega

/-- The disk, so far. -/
def OffRel (w : World) (n : Nat) (l : List ByteArray) (k : Nat) (wr : World) : Prop := Here w.heap.size w w.heap.size (offD n l k) wr
set_option maxHeartbeats 6400000 in
set_option maxRecDepth 100000 in
theorem law_off (n0 : Int) (l : List ByteArray) (a : Option Addr) (cap : Nat) (w : World) (h9 : n0 ≤ 9223372036854775807) (hr : Txs w w.heap.size a l) (hl : l.length ≤ cap) (hn : l.length ≤ 1048576) (hf : (fl l).length ≤ 1048576) :
    Calls Try.prog 7 #[.int .i64 n0, .slice a l.length cap] w fun e w' => e = .returned (.bool true) ∧ Below w.heap.size w w' := by
  have HN := Lib.hid (new_here 4194304 (by decide) (by decide) w)
  by_cases hneg : n0 < 0
  · go_enter Try.func7, Try.ntmps7
    go_wp2_with fail
    refine HN.out.mono ?_
    rintro e w1 ⟨rfl, h⟩
    have H := Lib.hid h; clear h
    go_wp2_with fail
    refine (works_any _).mono ?_
    rintro e w2 ⟨rfl, hb⟩
    have HB := Lib.hid (H.out.on hb); clear hb
    go_wp2_with fail
    go_ret
    exact ⟨rfl, HB.out.below⟩
  · obtain ⟨n, rfl⟩ : ∃ n : Nat, n0 = n := ⟨n0.toNat, by omega⟩
    have hd0 : decide ((n : Int) < 0) = false := by simp
    clear hneg
    by_cases h200 : 200 < l.length
    · have h200' : (200 : Int) < (l.length : Int) := by omega
      clear h200
      go_enter Try.func7, Try.ntmps7
      go_wp2_with fail
      refine HN.out.mono ?_
      rintro e w1 ⟨rfl, h⟩
      have H := Lib.hid h; clear h
      go_wp2_with fail
      refine (works_any _).mono ?_
      rintro e w2 ⟨rfl, hb⟩
      have HB := Lib.hid (H.out.on hb); clear hb
      go_wp2_with fail
      go_ret
      exact ⟨rfl, HB.out.below⟩
    · have h200' : (l.length : Int) ≤ 200 := by omega
      obtain ⟨t, et⟩ : ∃ t, cat l = t := ⟨_, rfl⟩
      have HJ := Lib.hid (fun w1 (hb : Below w.heap.size w w1) => joined_at et hr hb hl hn hf)
      have HR := Lib.hid hr
      clear et
      by_cases hbig : 262144 < t.size
      · have hbig' : (262144 : Int) < (t.size : Int) := by omega
        clear hbig hr
        go_enter Try.func7, Try.ntmps7
        go_wp2_with fail
        refine HN.out.mono ?_
        rintro e w1 ⟨rfl, h⟩
        have H := Lib.hid h; clear h
        go_wp2_with fail
        refine (HJ.out w1 H.out.below).mono ?_
        rintro e w2 ⟨rfl, hb⟩
        have H := Lib.hid (H.out.on hb); clear hb
        go_wp2_with fail
        refine (works_any _).mono ?_
        rintro e w2 ⟨rfl, hb⟩
        have HB := Lib.hid (H.out.on hb); clear hb
        go_wp2_with fail
        go_ret
        exact ⟨rfl, HB.out.below⟩
      · have hbig' : (t.size : Int) ≤ 262144 := by omega
        clear hbig
        obtain ⟨m, hm⟩ : ∃ m, min l.length n = m := ⟨_, rfl⟩
        have hml : m ≤ l.length := by omega
        obtain ⟨u, eu⟩ : ∃ u, cat (l.take m) = u := ⟨_, rfl⟩
        have htl : (l.take m).length = m := by rw [List.length_take]; omega
        have HJ2 := Lib.hid (fun w1 (hb : Below w.heap.size w w1) => joined_at eu (hr.take m) hb (by rw [htl]; omega) (by rw [htl]; omega) (by have := fl_take_le l m; omega) (cap := cap))
        rw [htl] at HJ2
        have HSL := Lib.hid (fun w0 => run_slice_texts a l.length cap m hl hml w0)
        have HCR := Lib.hid (fun (_ : Unit) => (show ((offD n l l.length).crash 1099511627776 0).read 0 = (u, 0) by rw [offD_crash n l l.length (by omega), hm, eu]))
        have HST := Lib.hid (fun k (hk : k < l.length) => offD_step n l k hk hf)
        have HLL := Lib.hid (fun k => (show (offD n l k).loose.length ≤ 1099511627776 by show ((l.take (min k n)).map (Chg.app 0)).length ≤ _; rw [List.length_map, List.length_take]; omega))
        have HRD : Hid (∀ _ : Unit, (offD n l l.length).read 0 = if n < l.length then (⟨#[]⟩, 50) else ((offD n l l.length).now 0, 0)) := Lib.hid fun _ => by
          unfold D.read
          by_cases h : n < l.length
          · rw [if_pos (by unfold offD; simp [h]), if_pos h]; rfl
          · rw [if_neg (by unfold offD; simp; omega), if_neg (by decide), if_neg h]; rfl
        have HOF : Hid (∀ _ : Unit, (offD n l l.length).off = decide (n < l.length)) := Lib.hid fun _ => rfl
        have HM := Lib.hid hm
        clear hr eu htl hm
        by_cases hoff : n < l.length
        · have hoff' : (n : Int) < (l.length : Int) := by omega
          have hmn : m = n := by have := HM.out; omega
          subst hmn
          go_enter Try.func7, Try.ntmps7
          go_wp2_with fail
          refine HN.out.mono ?_
          rintro e w1 ⟨rfl, h⟩
          have H := Lib.hid h; clear h
          go_wp2_with fail
          refine (HJ.out w1 H.out.below).mono ?_
          rintro e w2 ⟨rfl, hb⟩
          have H := Lib.hid (H.out.on hb); clear hb
          go_wp2_with fail
          refine (power_here (offD_zero m l) h9 H.out).mono ?_
          rintro e w3 ⟨rfl, h⟩
          have H := Lib.hid h; clear h
          go_wp2_with fail
          go_loopw [42] (fun i wr => ∃ k : Nat, k ≤ l.length ∧ i = .int .i64 k ∧ OffRel w m l k wr) (fun i _ => l.length - (intOf i).toNat)
          case atStart => exact ⟨0, Nat.zero_le _, rfl, H.out⟩
          case round =>
            obtain ⟨k, hk, rfl, hx⟩ := hrel
            have HX := Lib.hid hx
            by_cases hlt : k < l.length
            · obtain ⟨b, o, rfl, hbl, hc⟩ := HR.out (by rintro rfl; simp at hlt)
              obtain ⟨s, es⟩ : ∃ s, l.getD k empty = s := ⟨_, rfl⟩
              have hck : wr.cell? ⟨b, o + k, none⟩ = some (.string s) := by
                rw [Here.below hx |>.cell (p := ⟨b, o + k, none⟩) hbl, hc k hlt, es]
              have HA := Lib.hid (fun (_ : Unit) => HST.out k hlt)
              rw [es] at HA
              clear hx hc es
              by_cases hkn : k < m
              · rw [if_pos hkn] at HA
                go_wp2_with fail
                refine (append_here (HA.out ()) HX.out (HLL.out k)).mono ?_
                rintro e w4 ⟨rfl, h⟩
                have H4 := Lib.hid h; clear h
                go_wp2_with fail
                go_roundw
                case rel => exact ⟨k + 1, by omega, by go_num, H4.out⟩
                case measure => simp [intOf]; omega
              · rw [if_neg hkn] at HA
                go_wp2_with fail
                refine (append_here (HA.out ()) HX.out (HLL.out k)).mono ?_
                rintro e w4 ⟨rfl, h⟩
                have H4 := Lib.hid h; clear h
                go_wp2_with fail
                go_roundw
                case rel => exact ⟨k + 1, by omega, by go_num, H4.out⟩
                case measure => simp [intOf]; omega
            · obtain rfl : k = l.length := by omega
              clear hx hk hlt
              have HS1 := Lib.hid (fun (_ : Unit) => (show (offD m l l.length).sync = (50, offD m l l.length) by unfold D.sync; rw [if_pos (by unfold offD; simp [hoff])]))
              have HP1 := Lib.hid (fun (_ : Unit) => (show (offD m l l.length).power 5 = (50, offD m l l.length) by unfold D.power; rw [if_pos (by unfold offD; simp [hoff])]))
              rw [if_pos hoff] at HRD
              rw [decide_eq_true hoff] at HOF
              go_wp2_with fail
              refine (on_here (HOF.out ()) HX.out).mono ?_
              rintro e w4 ⟨rfl, rfl⟩
              go_wp2_with fail
              refine (read_here (HRD.out ()) HX.out).mono ?_
              rintro e w5 ⟨rfl, h⟩
              have HX := Lib.hid h; clear h
              go_wp2_with fail
              refine (sync_here (HS1.out ()) HX.out).mono ?_
              rintro e w6 ⟨rfl, h⟩
              have HX := Lib.hid h; clear h
              go_wp2_with fail
              refine (power_here (HP1.out ()) (by decide) HX.out).mono ?_
              rintro e w7 ⟨rfl, h⟩
              have HX := Lib.hid h; clear h
              go_wp2_with fail
              refine (crash_here rfl (by decide) (by decide) (by decide) (by decide) HX.out (HLL.out _)).mono ?_
              rintro e w8 ⟨rfl, h⟩
              have HX := Lib.hid h; clear h
              go_wp2_with fail
              refine (read_here (HCR.out ()) HX.out).mono ?_
              rintro e w9 ⟨rfl, h⟩
              have HX := Lib.hid h; clear h
              have hmin : min (m : Int) (l.length : Int) = (m : Int) := by omega
              have hsl := HSL.out
              clear HST HLL HSL HR HCR HRD HOF HM HN HJ hl hn hf h9 hbig' hml h200'
              go_wp2_with fail
              clear hsl hmin
              refine (HJ2.out _ HX.out.below).mono ?_
              rintro e wa ⟨rfl, hb⟩
              have HX := Lib.hid (HX.out.on hb); clear hb
              go_wp2_with fail
              refine (works_any _).mono ?_
              rintro e wb ⟨rfl, hb⟩
              have HB := Lib.hid (HX.out.on hb); clear hb
              go_wp2_with fail
              go_ret
              exact ⟨rfl, HB.out.below⟩
        · have hoff' : (l.length : Int) ≤ (n : Int) := by omega
          have hmn : m = l.length := by have := HM.out; omega
          subst hmn
          go_enter Try.func7, Try.ntmps7
          go_wp2_with fail
          refine HN.out.mono ?_
          rintro e w1 ⟨rfl, h⟩
          have H := Lib.hid h; clear h
          go_wp2_with fail
          refine (HJ.out w1 H.out.below).mono ?_
          rintro e w2 ⟨rfl, hb⟩
          have H := Lib.hid (H.out.on hb); clear hb
          go_wp2_with fail
          refine (power_here (offD_zero n l) h9 H.out).mono ?_
          rintro e w3 ⟨rfl, h⟩
          have H := Lib.hid h; clear h
          go_wp2_with fail
          go_loopw [42] (fun i wr => ∃ k : Nat, k ≤ l.length ∧ i = .int .i64 k ∧ OffRel w n l k wr) (fun i _ => l.length - (intOf i).toNat)
          case atStart => exact ⟨0, Nat.zero_le _, rfl, H.out⟩
          case round =>
            obtain ⟨k, hk, rfl, hx⟩ := hrel
            have HX := Lib.hid hx
            by_cases hlt : k < l.length
            · obtain ⟨b, o, rfl, hbl, hc⟩ := HR.out (by rintro rfl; simp at hlt)
              obtain ⟨s, es⟩ : ∃ s, l.getD k empty = s := ⟨_, rfl⟩
              have hck : wr.cell? ⟨b, o + k, none⟩ = some (.string s) := by
                rw [Here.below hx |>.cell (p := ⟨b, o + k, none⟩) hbl, hc k hlt, es]
              have HA := Lib.hid (fun (_ : Unit) => HST.out k hlt)
              rw [es] at HA
              clear hx hc es
              have hkn : k < n := by omega
              rw [if_pos hkn] at HA
              go_wp2_with fail
              refine (append_here (HA.out ()) HX.out (HLL.out k)).mono ?_
              rintro e w4 ⟨rfl, h⟩
              have H4 := Lib.hid h; clear h
              go_wp2_with fail
              go_roundw
              case rel => exact ⟨k + 1, by omega, by go_num, H4.out⟩
              case measure => simp [intOf]; omega
            · obtain rfl : k = l.length := by omega
              clear hx hk hlt
              rw [if_neg hoff] at HRD
              rw [decide_eq_false hoff] at HOF
              go_wp2_with fail
              refine (on_here (HOF.out ()) HX.out).mono ?_
              rintro e w4 ⟨rfl, rfl⟩
              go_wp2_with fail
              refine (read_here (HRD.out ()) HX.out).mono ?_
              rintro e w5 ⟨rfl, h⟩
              have HX := Lib.hid h; clear h
              go_wp2_with fail
              refine (crash_here rfl (by decide) (by decide) (by decide) (by decide) HX.out (HLL.out _)).mono ?_
              rintro e w8 ⟨rfl, h⟩
              have HX := Lib.hid h; clear h
              go_wp2_with fail
              refine (read_here (HCR.out ()) HX.out).mono ?_
              rintro e w9 ⟨rfl, h⟩
              have HX := Lib.hid h; clear h
              have hmin : min (n : Int) (l.length : Int) = (l.length : Int) := by omega
              have hsl := HSL.out
              clear HST HLL HSL HR HCR HRD HOF HM HN HJ hl hn hf h9 hbig' hml h200'
              go_wp2_with fail
              clear hsl hmin
              refine (HJ2.out _ HX.out.below).mono ?_
              rintro e wa ⟨rfl, hb⟩
              have HX := Lib.hid (HX.out.on hb); clear hb
              go_wp2_with fail
              refine (works_any _).mono ?_
              rintro e wb ⟨rfl, hb⟩
              have HB := Lib.hid (HX.out.on hb); clear hb
              go_wp2_with fail
              go_ret
              exact ⟨rfl, HB.out.below⟩
end Go.Proofs.Ytdajpaigahhhcaa.dsk
