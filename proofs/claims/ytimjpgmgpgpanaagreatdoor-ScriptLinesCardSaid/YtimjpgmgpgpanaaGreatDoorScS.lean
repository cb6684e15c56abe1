/- Lines that say nothing make no difference but to the numbers of lines. -/
import Derived.Test.YtimjpgmgpgpanaaGreatDoorScR
import Derived.Test.YtimjpgmgpgpanaaGreatDoorScT
namespace Go.Proofs.YtimjpgmgpgpanaaGreatDoor.sc
set_option linter.unusedSimpArgs false
set_option linter.unusedVariables false
open Go.RowKit nam exp jb

theorem no_byte : ∀ (l : List UInt8) (c : UInt8), ¬ 0 ≤ Lib.indexByte l c → ∀ x ∈ l, x ≠ c
  | [], c, _, x, h => by cases h
  | b :: l, c, h, x, hx => by
    rw [Lib.indexByte] at h
    by_cases h1 : (b == c) = true
    · rw [if_pos h1] at h; exact absurd (by omega) h
    · rw [if_neg h1] at h
      rcases List.mem_cons.1 hx with rfl | hx
      · intro e; exact h1 (by simp [e])
      · refine no_byte l c (fun h2 => h ?_) x hx
        by_cases h3 : (Lib.indexByte l c == -1) = true
        · have : Lib.indexByte l c = -1 := by simpa using h3
          omega
        · rw [if_neg h3]; omega
theorem repeat_flat (l : List UInt8) : ∀ n, Lib.repeatL l n = (List.replicate n l).flatten
  | 0 => rfl
  | n + 1 => by rw [Lib.repeatL, repeat_flat l n, List.replicate_succ, List.flatten_cons]
theorem ahead_eq (remark s : ByteArray) (n : Nat) : (⟨(Lib.repeatL ((⟨#[35]⟩ ++ remark) ++ ⟨#[10]⟩ : ByteArray).data.toList n).toArray⟩ : ByteArray) ++ s = ahead (⟨#[35]⟩ ++ remark) n s := by
  apply ByteArray.ext
  apply Array.ext'
  unfold ahead ba
  rw [repeat_flat]
  simp [ByteArray.data_append]
theorem lone_size (remark : ByteArray) : (⟨#[35]⟩ ++ remark : ByteArray).size = remark.size + 1 := by
  rw [ByteArray.size_append]
  show 1 + remark.size = _
  omega
theorem ahead_size (remark s : ByteArray) (n : Nat) : (ahead (⟨#[35]⟩ ++ remark) n s).size = n * (remark.size + 2) + s.size := by
  have fl : ∀ (n : Nat) (l : List UInt8), ((List.replicate n l).flatten).length = n * l.length := by
    intro n l
    induction n with
    | zero => simp
    | succ n ih => rw [List.replicate_succ, List.flatten_cons, List.length_append, ih, Nat.succ_mul]; omega
  have h1 : (⟨#[35]⟩ ++ remark : ByteArray).data.toList.length = remark.size + 1 := by
    rw [Array.length_toList]; exact lone_size remark
  have h2 : s.data.toList.length = s.size := by rw [Array.length_toList]; rfl
  unfold ahead
  rw [ba_size, List.length_append, fl, List.length_append, h1, h2]
  rfl
theorem goO_line : ∀ (L : List ByteArray) (i : Nat) (r : Rdr), (∀ x ∈ r.said, 0 ≤ x ∧ x ≤ (i : Int)) → 0 ≤ (goO L i r).2.2.1 ∧ (goO L i r).2.2.1 ≤ ((i + L.length : Nat) : Int)
  | [], i, r, h => by
    rw [goO]
    unfold wholeO
    split
    · simp
    split
    · simp
    split
    · simp
    · show 0 ≤ r.said.getD _ 0 ∧ r.said.getD _ 0 ≤ _
      rw [List.getD_eq_getElem?_getD]
      cases hx : r.said[(1 + (mayO r.par r.nodes).1).toNat]? with
      | none => simp
      | some x =>
        have := h x (List.mem_of_getElem? hx)
        simp only [Option.getD_some, List.length_nil]
        omega
  | l :: t, i, r, h => by
    rw [goO, List.length_cons]
    split
    · have := goO_line t (i + 1) r (fun x hx => by have := h x hx; omega)
      omega
    · cases takeO r l with
      | error e =>
        show 0 ≤ ((i + 1 : Nat) : Int) ∧ ((i + 1 : Nat) : Int) ≤ _
        omega
      | ok q =>
        have := goO_line t (i + 1) ⟨q.1, q.2, r.said ++ [((i + 1 : Nat) : Int)]⟩ (fun x hx => by
          rcases List.mem_append.1 hx with hx | hx
          · have := h x hx; omega
          · rw [List.mem_singleton.1 hx]; omega)
        show 0 ≤ (goO t (i + 1) ⟨q.1, q.2, _⟩).2.2.1 ∧ _
        constructor
        · exact this.1
        · have h2 := this.2
          show (goO t (i + 1) ⟨q.1, q.2, _⟩).2.2.1 ≤ _
          omega
theorem parse_line {s : ByteArray} (hs : s.size ≤ 65536) : 0 ≤ (parseJ s).2.2.1 ∧ (parseJ s).2.2.1 ≤ 65537 := by
  unfold parseJ
  rw [if_neg (by omega)]
  have h1 := goO_line (linesO s) 0 ⟨0, [], []⟩ (by simp)
  have h2 := (lines_len s).1
  omega
set_option maxHeartbeats 3200000 in
set_option maxRecDepth 1000000 in
theorem law_lines {w : World} (hT : Tabs w) (s : ByteArray) (many : Int) (remark : ByteArray) (hs : s.size ≤ 140737488351232) (hm : 0 ≤ many ∧ many ≤ 255) (hr : remark.size ≤ 140737488351232) :
    Calls Tryz.prog 6 #[.string s, .int .u8 many, .string remark] w fun e w' => e = .returned (.bool true) ∧ Below w.heap.size w w' := by
  obtain ⟨m, rfl⟩ : ∃ m : Nat, many = m := ⟨many.toNat, by omega⟩
  obtain ⟨n, hn⟩ : ∃ n, m % 5 = n := ⟨_, rfl⟩
  have hn4 : n ≤ 4 := by omega
  have hrem : ((m : Int)).tmod 5 = (n : Int) := by rw [← hn, Int.tmod_eq_emod_of_nonneg (by omega)]; omega
  have HWK : Hid (∀ w', Below w.heap.size w w' → Calls Tryz.prog 8 #[] w' fun e w'' => e = .returned (.bool true) ∧ Below w'.heap.size w' w'') := Lib.hid (fun w' hb => works_any (hT.kinds.on hb) (hT.asks.on hb) (tab_on hT.pows hb))
  have HC := Lib.hid (Tryz.strings_Contains_one remark 10 w)
  have HPS := Lib.hid (fun (t : ByteArray) (w' : World) (hb : Below w.heap.size w w') => parse_of (rfl : parseJ t = parseJ t) (hT.kinds.on hb) (hT.asks.on hb))
  obtain ⟨bC, hbC⟩ : ∃ b, decide (0 ≤ Lib.indexByte remark.data.toList 10) = b := ⟨_, rfl⟩
  rw [hbC] at HC
  have HBC := Lib.hid hbC
  clear hbC hT hn hm
  cases bC with
  | true =>
    clear HPS
    go_enter Tryz.func6, Tryz.ntmps6
    go_wp2_with fail
    refine HC.out.mono ?_
    rintro e w1 ⟨rfl, rfl⟩
    go_wp2_with fail
    refine (HWK.out _ (Below.refl _ _)).mono ?_
    rintro e w2 ⟨rfl, hb2⟩
    have HB2 := Lib.hid hb2
    clear hb2
    go_wp2_with fail
    go_ret
    exact ⟨rfl, HB2.out⟩
  | false =>
    obtain ⟨P, hP⟩ : ∃ P, n * (remark.size + 2) = P := ⟨_, rfl⟩
    have hPi : (n : Int) * ((remark.size : Int) + 2) = (P : Int) := by rw [← hP]; push_cast; rfl
    have hPb : P ≤ 4 * 140737488351234 := by rw [← hP]; exact Nat.mul_le_mul hn4 (by omega)
    have HP := Lib.hid hP
    clear hP
    by_cases hlong : 65536 < s.size + P
    · have hl' : (65536 : Int) < (s.size : Int) + (P : Int) := by omega
      clear HPS hlong
      go_enter Tryz.func6, Tryz.ntmps6
      go_wp2_with fail
      refine HC.out.mono ?_
      rintro e w1 ⟨rfl, rfl⟩
      go_wp2_with fail
      refine (HWK.out _ (Below.refl _ _)).mono ?_
      rintro e w2 ⟨rfl, hb2⟩
      have HB2 := Lib.hid hb2
      clear hb2
      go_wp2_with fail
      go_ret
      exact ⟨rfl, HB2.out⟩
    · have hl' : ¬ (65536 : Int) < (s.size : Int) + (P : Int) := by omega
      go_enter Tryz.func6, Tryz.ntmps6
      go_wp2_with fail
      refine HC.out.mono ?_
      rintro e w1 ⟨rfl, rfl⟩
      go_wp2_with fail
      have hs65 : s.size ≤ 65536 := by omega
      have HO1 := Lib.hid (HPS.out s w1 (Below.refl _ _))
      have HSM := Lib.hid (parse_small' s)
      have HLN := Lib.hid (parse_line hs65)
      have HSH : Hid (parseJ (ahead (⟨#[35]⟩ ++ remark) n s) = shiftR n (parseJ s)) := Lib.hid (by
        refine parse_ahead (fun c hc => ?_) (by simp) ?_ hs65
        · have : c ∈ (35 : UInt8) :: remark.data.toList := by simpa [ByteArray.data_append] using hc
          rcases List.mem_cons.1 this with rfl | h
          · decide
          · exact no_byte _ _ (by have := HBC.out; simpa using this) c h
        · rw [ahead_size, HP.out]; omega)
      obtain ⟨⟨p, l, ln, er⟩, ho⟩ : ∃ o, parseJ s = o := ⟨_, rfl⟩
      rw [ho] at HO1 HSM HLN HSH
      obtain ⟨nl, hnl⟩ : ∃ nl, l.length = nl := ⟨_, rfl⟩
      have HNL := Lib.hid hnl
      have hln := HLN.out
      simp only [] at hln
      simp only [hnl] at HO1
      have HRP : Hid (∀ w', Calls Tryz.prog 14 #[.string ((⟨#[35]⟩ ++ remark) ++ ⟨#[10]⟩), .int .i64 (n : Int)] w' fun e w'' => e = .returned (.string ⟨(Lib.repeatL ((⟨#[35]⟩ ++ remark) ++ ⟨#[10]⟩ : ByteArray).data.toList n).toArray⟩) ∧ Below w'.heap.size w' w'') := Lib.hid (fun w' =>
        Tryz.strings_Repeat _ n w' (by omega) (by
          rw [ByteArray.size_append, lone_size]
          show (remark.size + 1 + 1) * n ≤ _
          rw [show remark.size + 1 + 1 = remark.size + 2 from rfl, Nat.mul_comm, HP.out]
          omega))
      obtain ⟨R, hR⟩ : ∃ R, (⟨(Lib.repeatL ((⟨#[35]⟩ ++ remark) ++ ⟨#[10]⟩ : ByteArray).data.toList n).toArray⟩ : ByteArray) = R := ⟨_, rfl⟩
      have HRE : Hid (R ++ s = ahead (⟨#[35]⟩ ++ remark) n s) := Lib.hid (by rw [← hR]; exact ahead_eq remark s n)
      have hRs : R.size ≤ 65536 := by
        have h1 := congrArg ByteArray.size HRE.out
        rw [ByteArray.size_append, ahead_size, HP.out] at h1
        omega
      rw [hR] at HRP
      have HO2 : Hid (∀ w', Below w1.heap.size w1 w' → Calls Tryz.prog 7 #[.string (R ++ s)] w' fun e w'' => ∃ a c, e = .returned (.tuple #[.agg #[.int .i64 p, .slice a nl c], .int .i64 (if 0 < ln then ln + n else ln), .int .i64 er]) ∧ Nodes w'' (.slice a nl c) l ∧ Below w'.heap.size w' w'') := Lib.hid (fun w' hb => by
        have := HPS.out (R ++ s) w' hb
        rw [HRE.out, HSH.out] at this
        unfold shiftR at this
        simp only [hnl] at this
        rw [HRE.out]
        exact this)
      clear ho hR HPS hlong hnl HBC HLN HSH
      refine HO1.out.mono ?_
      rintro e w2 ⟨a, c, rfl, hn1, hb1⟩
      obtain ⟨W1, hW1⟩ : ∃ W, w2.alloc (.cells #[.int .i64 p, .slice a nl c] 24) = W := ⟨_, rfl⟩
      obtain ⟨N1, hN1⟩ : ∃ N, w2.heap.size = N := ⟨_, rfl⟩
      have hbm : Below w2.heap.size w2 W1 := by rw [← hW1]; exact below_made _ _
      have HB1 : Hid (Below w1.heap.size w1 W1) := Lib.hid (hb1.trans (hbm.mono hb1.size))
      have HND := Lib.hid (hn1.on hbm)
      obtain ⟨c0, c1⟩ := box2 hW1
      rw [hN1] at c0 c1
      have HN1 := Lib.hid hN1; have HW1 := Lib.hid hW1
      clear hn1 hb1 hbm hN1 hW1 HO1
      go_upto_region 5 with fail
      rw [HN1.out, HW1.out]
      go_wp2_with fail
      refine (HRP.out _).mono ?_
      rintro e w3 ⟨rfl, hb3⟩
      have HB3 := Lib.hid hb3
      clear hb3
      go_wp2_with fail
      refine (HO2.out w3 (HB1.out.trans (HB3.out.mono HB1.out.size))).mono ?_
      rintro e w4 ⟨a', c', rfl, hn2, hb4⟩
      obtain ⟨W2, hW2⟩ : ∃ W, w4.alloc (.cells #[.int .i64 p, .slice a' nl c'] 24) = W := ⟨_, rfl⟩
      obtain ⟨N2, hN2⟩ : ∃ N, w4.heap.size = N := ⟨_, rfl⟩
      have hbm : Below w4.heap.size w4 W2 := by rw [← hW2]; exact below_made _ _
      have h34 : Below w3.heap.size w3 W2 := hb4.trans (hbm.mono hb4.size)
      have HB4 : Hid (Below W1.heap.size W1 W2) := Lib.hid (HB3.out.trans (h34.mono HB3.out.size))
      have HB5 : Hid (Below w1.heap.size w1 W2) := Lib.hid (HB1.out.trans (HB4.out.mono HB1.out.size))
      have HSA := Lib.hid (jobSame_yes (w := W2) (u := .slice a nl c) (v := .slice a' nl c') p (HND.out.on HB4.out) (hn2.on hbm) HSM.out.1 HSM.out.2)
      obtain ⟨d0, d1⟩ := box2 hW2
      rw [hN2] at d0 d1
      have e0 := cell_on c0 HB4.out
      have e1 := cell_on c1 HB4.out
      have HN2 := Lib.hid hN2; have HW2 := Lib.hid hW2
      clear hn2 hb4 hbm hN2 hW2 c0 c1 h34 HO2
      by_cases hl0 : 0 < ln
      · have hif : (if 0 < ln then ln + (n : Int) else ln) = ln + n := if_pos hl0
        rw [hif]
        clear hif
        go_upto_region 6 with fail
        rw [HN2.out, HW2.out]
        go_wp2_with fail
        refine HSA.out.mono ?_
        rintro e w5 ⟨rfl, hb5⟩
        have HB6 := Lib.hid (HB5.out.trans (hb5.mono HB5.out.size))
        clear hb5 e0 e1 d0 d1
        go_wp2_with fail
        refine (HWK.out _ HB6.out).mono ?_
        rintro e w6 ⟨rfl, hb6⟩
        have HB7 := Lib.hid (HB6.out.trans (hb6.mono HB6.out.size))
        clear hb6
        go_wp2_with fail
        go_ret
        exact ⟨rfl, HB7.out⟩
      · have hif : (if 0 < ln then ln + (n : Int) else ln) = ln := if_neg hl0
        rw [hif]
        clear hif
        go_upto_region 6 with fail
        rw [HN2.out, HW2.out]
        go_wp2_with fail
        refine HSA.out.mono ?_
        rintro e w5 ⟨rfl, hb5⟩
        have HB6 := Lib.hid (HB5.out.trans (hb5.mono HB5.out.size))
        clear hb5 e0 e1 d0 d1
        go_wp2_with fail
        refine (HWK.out _ HB6.out).mono ?_
        rintro e w6 ⟨rfl, hb6⟩
        have HB7 := Lib.hid (HB6.out.trans (hb6.mono HB6.out.size))
        clear hb6
        go_wp2_with fail
        go_ret
        exact ⟨rfl, HB7.out⟩
end Go.Proofs.YtimjpgmgpgpanaaGreatDoor.sc
