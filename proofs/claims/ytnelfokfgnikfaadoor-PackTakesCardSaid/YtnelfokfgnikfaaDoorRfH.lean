/- What changelingref12.may answers. -/
import Derived.Test.YtnelfokfgnikfaaDoorMRf
import Derived.Test.YtnelfokfgnikfaaDoorJbR
namespace Go.Proofs.YtnelfokfgnikfaaDoor.rf
set_option linter.unusedSimpArgs false
set_option linter.unusedVariables false
open Go.RowKit nam exp jb

/-- A node's box. -/
def BoxN (w : World) (N : Nat) (nd : Nd) (ai aa : Option Addr) (ci ca : Nat) : Prop := w.cell? ⟨N, 0, none⟩ = some (.string nd.uid) ∧ w.cell? ⟨N, 1, none⟩ = some (.int .u8 (nd.kind : Int)) ∧ w.cell? ⟨N, 2, none⟩ = some (.slice ai nd.ins.length ci) ∧
  w.cell? ⟨N, 3, none⟩ = some (.int .u8 (nd.x.op : Int)) ∧ w.cell? ⟨N, 4, none⟩ = some (.int .i64 nd.x.n) ∧ w.cell? ⟨N, 5, none⟩ = some (.slice aa nd.x.args.length ca) ∧ w.cell? ⟨N, 6, none⟩ = some (.int .i64 nd.n)
theorem BoxN.on {w w' : World} {N : Nat} {nd : Nd} {ai aa : Option Addr} {ci ca : Nat} (h : BoxN w N nd ai aa ci ca) (hb : Below w.heap.size w w') : BoxN w' N nd ai aa ci ca :=
  ⟨cell_on h.1 hb, cell_on h.2.1 hb, cell_on h.2.2.1 hb, cell_on h.2.2.2.1 hb, cell_on h.2.2.2.2.1 hb, cell_on h.2.2.2.2.2.1 hb, cell_on h.2.2.2.2.2.2 hb⟩
theorem below_drewN' (w : World) (q : Nat) : Below w.heap.size w (w.drewN q) := ⟨rfl, rfl, rfl, Nat.le_refl _, fun _ _ => rfl⟩
set_option maxHeartbeats 6400000 in
set_option maxRecDepth 1000000 in
theorem may_any {w : World} {v : Value} {nd : Nd} {p : Nat} (h : NodeIs w v nd) (hu : nd.uid.size ≤ 1000000) (hi : nd.ins.length ≤ 1000) (hx : nd.x.size ≤ 1000000) (hp : p ≤ 1000) :
    Calls Tryd.prog 51 #[v, .int .i64 (p : Int)] w fun e w' => e = .returned (.bool (mayB nd p)) ∧ Below w.heap.size w w' := by
  obtain ⟨vi, va, rfl, hvi, hva⟩ := h
  obtain ⟨ai, ci, hvie, hcells⟩ := id hvi
  subst hvie
  obtain ⟨aa, ca, rfl, -⟩ := hva.form
  obtain ⟨N, hN⟩ : ∃ N, w.heap.size = N := ⟨_, rfl⟩
  obtain ⟨W, hW⟩ : ∃ W, w.alloc (.cells #[.string nd.uid, .int .u8 (nd.kind : Int), .slice ai nd.ins.length ci, .int .u8 (nd.x.op : Int), .int .i64 nd.x.n, .slice aa nd.x.args.length ca, .int .i64 nd.n] 52) = W := ⟨_, rfl⟩
  have hwb : Below w.heap.size w W := by rw [← hW]; exact below_made _ _
  have hbox : BoxN W N nd ai aa ci ca := by
    have h7 := box7 hW
    rw [hN] at h7
    exact h7
  have HBX := Lib.hid hbox
  have HB := Lib.hid hwb
  have HVA := Lib.hid hva; have HCE := Lib.hid hcells
  have HNM := Lib.hid (refName_any nd.uid W hu)
  have HSAME : Hid (∀ w1, Below W.heap.size W w1 → Calls Tryd.prog 32 #[exV nd.x (.slice aa nd.x.args.length ca), .agg #[.int .u8 0, .int .i64 0, .slice none 0 0]] w1 fun e w' => e = .returned (.bool (isZ nd.x)) ∧ Below w1.heap.size w1 w') := Lib.hid (fun w1 hb => by
    have h1 := hva.under (hwb.trans (hb.mono hwb.size))
    refine (rsame_any nd.x.size hx nd.x (Nat.le_refl _) Ex.zero _ (.slice none 0 0) Any Any w1 h1 .nil).mono fun e w' h2 => ?_
    obtain ⟨r, h3, h4, h5⟩ := h2
    have : r = isZ nd.x := by rw [Bool.eq_iff_iff, h4, isZ_iff]
    exact ⟨by rw [h3, this], h5⟩)
  have HTYP : Hid (∀ acc t, t ≤ 2 → ∀ w1, Below W.heap.size W w1 → Calls Tryd.prog 70 #[exV nd.x (.slice aa nd.x.args.length ca), .bool acc, .int .u8 ((t : Nat) : Int)] w1 fun e w' => e = .returned (.bool (typedB nd.x acc t)) ∧ Below w1.heap.size w1 w') := Lib.hid (fun acc t ht w1 hb => typed_any acc t ht (hva.under (hwb.trans (hb.mono hwb.size))) hx)
  obtain ⟨R, hR⟩ : ∃ b, mayB nd p = b := ⟨_, rfl⟩
  have HR := Lib.hid hR
  obtain ⟨nb, hnb⟩ : ∃ b, nameB nd.uid = b := ⟨_, rfl⟩
  have HNB := Lib.hid hnb
  rw [hnb] at HNM
  rw [hR]
  have hni1 : (nd.ins.length : Int) ≤ 1000 := by omega
  have hp1 : (p : Int) ≤ 1000 := by omega
  obtain ⟨c0, c1, c2, c3, c4, c5, c6⟩ := hbox
  unfold nodeV exV at *
  clear hvi hva hcells hwb hR hnb hu hi hx hp
  cases nb with
  | false =>
    obtain rfl : R = false := by rw [← HR.out]; exact may_no_name HNB.out
    go_enter Tryd.func51, Tryd.ntmps51
    go_wp2_with fail
    refine HNM.out.mono ?_
    rintro e w1 ⟨rfl, hb1⟩
    have HB1 := Lib.hid (HB.out.trans (hb1.mono HB.out.size)); clear hb1
    go_wp2_with fail
    go_ret
    exact ⟨rfl, by first | exact HB1.out | (rw [← hN]; exact HB1.out)⟩
  | true =>
    go_enter Tryd.func51, Tryd.ntmps51
    go_wp2_with fail
    refine HNM.out.mono ?_
    rintro e w1 ⟨rfl, hb1⟩
    have HB1 := Lib.hid hb1
    clear hb1
    go_wp2_with fail
    go_loopg [5] nd.ins.length (fun g v5 wr => ∃ k : Nat, k + g = nd.ins.length ∧ v5 = .int .i64 (k : Int) ∧ (∀ (j : Nat) (h : j < nd.ins.length), j < k → (0 ≤ nd.ins[j] ∧ nd.ins[j] < (p : Int)) ∧ ∀ (i : Nat) (hi : i < j), nd.ins[j] ≠ nd.ins[i]) ∧ Below W.heap.size W wr)
    case atStart => exact ⟨0, by omega, rfl, fun j h h2 => by omega, HB1.out⟩
    case round =>
      rename World => wr
      rename Nat => G
      obtain ⟨k, hk, rfl, hall, hb⟩ := hrel
      have HAL := Lib.hid hall
      have HBR := Lib.hid hb
      obtain ⟨c0, c1, c2, c3, c4, c5, c6⟩ := HBX.out.on hb
      by_cases hk' : k < nd.ins.length
      · have hkn : (k : Int) < (nd.ins.length : Int) := by omega
        obtain ⟨b1, o1, rfl, hlt, hcs⟩ := HCE.out (by omega)
        have hcell : ∀ j (hj : j < nd.ins.length) (w' : World), Below W.heap.size W w' → w'.cell? ⟨b1, o1 + j, none⟩ = some (.int .i64 nd.ins[j]) := fun j hj w' hb' => ((HB.out.trans (hb'.mono HB.out.size)).cell (p := ⟨b1, o1 + j, none⟩) hlt).trans (hcs j hj)
        have HCL := Lib.hid hcell
        have hc := hcell k hk' wr hb
        obtain ⟨x, hx⟩ : ∃ x, nd.ins[k] = x := ⟨_, rfl⟩
        have HXX := Lib.hid hx
        rw [hx] at hc
        clear hcell hcs hlt hx hall
        by_cases h0 : x < 0
        · obtain rfl : R = false := by
            rw [← HR.out]; exact may_no_ins (fun h => by have := (h k hk').1.1; rw [HXX.out] at this; omega)
          have hd : decide (x < 0) = true := by simp [h0]
          clear hb
          go_wp2_with fail
          try rw [Exit.noGoto_ret]
          go_ret
          exact ⟨rfl, by first | exact HB.out.trans (HBR.out.mono HB.out.size) | (rw [← hN]; exact HB.out.trans (HBR.out.mono HB.out.size))⟩
        · have hd : decide (x < 0) = false := by simp; omega
          by_cases h1 : (p : Int) ≤ x
          · obtain rfl : R = false := by
              rw [← HR.out]; exact may_no_ins (fun h => by have := (h k hk').1.2; rw [HXX.out] at this; omega)
            have hd1 : decide (x ≥ (p : Int)) = true := by simp; omega
            clear hb
            go_wp2_with fail
            try rw [Exit.noGoto_ret]
            go_ret
            exact ⟨rfl, by first | exact HB.out.trans (HBR.out.mono HB.out.size) | (rw [← hN]; exact HB.out.trans (HBR.out.mono HB.out.size))⟩
          · have hd1 : decide (x ≥ (p : Int)) = false := by simp; omega
            have HPX := Lib.hid (And.intro h0 h1)
            have hkb : (k : Int) ≤ 1000 := by omega
            clear hb h0 h1
            go_wp2_with fail
            go_loopg [6] k (fun g v6 w2 => ∃ i : Nat, i + g = k ∧ v6 = .int .i64 (i : Int) ∧ (∀ (j : Nat) (h : j < nd.ins.length), j < i → x ≠ nd.ins[j]) ∧ Below W.heap.size W w2)
            case atStart => exact ⟨0, by omega, rfl, fun j h h2 => by omega, HBR.out⟩
            case round =>
              rename World => w2
              obtain ⟨i, hi, rfl, hall2, hb2⟩ := hrel
              have HAL2 := Lib.hid hall2
              have HBR2 := Lib.hid hb2
              obtain ⟨c0, c1, c2, c3, c4, c5, c6⟩ := HBX.out.on hb2
              by_cases hi' : i < k
              · have hin : (i : Int) < (k : Int) := by omega
                have hin2 : (i : Int) < (nd.ins.length : Int) := by omega
                have hc := HCL.out k hk' w2 hb2
                rw [HXX.out] at hc
                have hci := HCL.out i (by omega) w2 hb2
                obtain ⟨y, hy⟩ : ∃ y, nd.ins[i] = y := ⟨_, rfl⟩
                have HYY : Hid (∀ h : i < nd.ins.length, nd.ins[i] = y) := Lib.hid (fun _ => hy)
                rw [hy] at hci
                clear hall2 hb2 hy
                by_cases hxy : x = y
                · obtain rfl : R = false := by
                    rw [← HR.out]; exact may_no_ins (fun h => (h k hk').2 i hi' (by rw [HXX.out, HYY.out (by omega)]; exact hxy))
                  have hd2 : (x == y) = true := by simp [hxy]
                  clear hxy
                  go_wp2_with fail
                  go_quiet (fail)
                  go_wp2_with fail
                  try rw [Exit.noGoto_ret]
                  go_ret
                  exact ⟨rfl, by first | exact HB.out.trans ((HBR2.out.trans ((below_drewN' _ _).mono HBR2.out.size)).mono HB.out.size) | (rw [← hN]; exact HB.out.trans ((HBR2.out.trans ((below_drewN' _ _).mono HBR2.out.size)).mono HB.out.size))⟩
                · have hd2 : (x == y) = false := by simp [hxy]
                  have HAL3 : Hid (∀ (j : Nat) (h : j < nd.ins.length), j < i + 1 → x ≠ nd.ins[j]) := Lib.hid (fun j h h2 => by
                    by_cases hji : j = i
                    · subst hji; rw [HYY.out h]; exact hxy
                    · exact HAL2.out j h (by omega))
                  clear hxy
                  go_wp2_with fail
                  go_quiet (fail)
                  go_wp2_with fail
                  go_roundg (gk - 1)
                  case measure => omega
                  case rel => exact ⟨i + 1, by omega, by go_num, HAL3.out, HBR2.out.trans ((below_drewN' _ _).mono HBR2.out.size)⟩
              · have hin : ¬ (i : Int) < (k : Int) := by omega
                have HAL4 : Hid (∀ (j : Nat) (h : j < nd.ins.length), j < k + 1 → (0 ≤ nd.ins[j] ∧ nd.ins[j] < (p : Int)) ∧ ∀ (i : Nat) (hi : i < j), nd.ins[j] ≠ nd.ins[i]) := Lib.hid (fun j h h2 => by
                  by_cases hjk : j = k
                  · subst hjk
                    refine ⟨by rw [HXX.out]; have := HPX.out; omega, fun i' hi2 => ?_⟩
                    rw [HXX.out]
                    exact hall2 i' (by omega) (by omega)
                  · exact HAL.out j h (by omega))
                clear hall2 hb2
                go_wp2_with fail
                go_roundg (G - 1)
                case measure => omega
                case rel => exact ⟨k + 1, by omega, by go_num, HAL4.out, HBR2.out⟩
      · have hkn : ¬ (k : Int) < (nd.ins.length : Int) := by omega
        have HIN : Hid (InsOk nd.ins p) := Lib.hid (fun j h => hall j h (by omega))
        have HKD : Hid (R = kindB nd) := Lib.hid (by rw [← HR.out]; exact may_kind HNB.out HIN.out)
        have HS1 := Lib.hid (HSAME.out wr hb)
        clear hall hb
        go_wp2_with fail
        refine HS1.out.mono ?_
        rintro e w2 ⟨rfl, hb2⟩
        have HBR2 := Lib.hid (HBR.out.trans (hb2.mono HBR.out.size))
        obtain ⟨c0, c1, c2, c3, c4, c5, c6⟩ := HBX.out.on HBR2.out
        have HFB := Lib.hid (HB.out.trans (HBR2.out.mono HB.out.size))
        obtain ⟨Z, hZ⟩ : ∃ Z, isZ nd.x = Z := ⟨_, rfl⟩
        obtain ⟨n, hn⟩ : ∃ n, nd.n = n := ⟨_, rfl⟩
        obtain ⟨ni, hni⟩ : ∃ n, nd.ins.length = n := ⟨_, rfl⟩
        obtain ⟨K, hK⟩ : ∃ K, nd.kind = K := ⟨_, rfl⟩
        have HKB : Hid (R = if K = 1 then decide (ni = 0) && Z && decide (n = 0)
          else if K = 2 ∨ K = 4 ∨ K = 5 then decide (ni = 1) && typedB nd.x false 1 && decide (n = 0)
          else if K = 3 then decide (ni = 1) && typedB nd.x false 2 && decide (n = 0)
          else if K = 6 then decide (ni = 1) && typedB nd.x true 1 && decide (n = 0)
          else if K = 7 then decide (ni = 1) && Z && decide (1 ≤ n) && decide (n ≤ 16)
          else if K = 8 then (decide (ni = 2) || decide (ni = 3)) && Z && decide (n = 0)
          else if K = 9 then decide (ni = 1) && Z && decide (n = 0)
          else false) := Lib.hid (by rw [HKD.out]; unfold kindB; rw [hZ, hn, hni, hK])
        have HT1 : Hid (∀ acc t, t ≤ 2 → Calls Tryd.prog 70 #[.agg #[.int .u8 (nd.x.op : Int), .int .i64 nd.x.n, .slice aa nd.x.args.length ca], .bool acc, .int .u8 ((t : Nat) : Int)] w2 fun e w' => e = .returned (.bool (typedB nd.x acc t)) ∧ Below w2.heap.size w2 w') := Lib.hid (fun acc t ht => HTYP.out acc t ht w2 HBR2.out)
        have HNE := Lib.hid hn
        rw [hK] at c1
        rw [hni] at c2
        rw [hn] at c6
        rw [hZ]
        have hni2 : (ni : Int) ≤ 1000 := by omega
        clear hb2 hZ hn hni hK hkn hk' hk hni1
        have hc : K = 1 ∨ K = 2 ∨ K = 3 ∨ K = 4 ∨ K = 5 ∨ K = 6 ∨ K = 7 ∨ K = 8 ∨ K = 9 ∨ ¬ (1 ≤ K ∧ K ≤ 9) := by omega
        rcases hc with rfl | rfl | rfl | rfl | rfl | rfl | rfl | rfl | rfl | hc
        · by_cases hni3 : ni = 0
          · have hd3 : ((ni : Int) == 0) = true := by simp; omega
            cases Z with
            | true =>
              by_cases hn0 : n = 0
              · have hd5 : (n == 0) = true := by simp [hn0]
                obtain rfl : R = true := by rw [HKB.out]; simp [hni3, hn0]
                push_cast at c1
                go_wp2_with fail
                try rw [Exit.noGoto_ret]
                go_ret
                exact ⟨rfl, by first | exact HFB.out | (rw [← hN]; exact HFB.out)⟩
              · have hd5 : (n == 0) = false := by simp [hn0]
                obtain rfl : R = false := by rw [HKB.out]; simp [hni3, hn0]
                push_cast at c1
                go_wp2_with fail
                try rw [Exit.noGoto_ret]
                go_ret
                exact ⟨rfl, by first | exact HFB.out | (rw [← hN]; exact HFB.out)⟩
            | false =>
              obtain rfl : R = false := by rw [HKB.out]; simp [hni3]
              push_cast at c1
              go_wp2_with fail
              try rw [Exit.noGoto_ret]
              go_ret
              exact ⟨rfl, by first | exact HFB.out | (rw [← hN]; exact HFB.out)⟩
          · have hd3 : ((ni : Int) == 0) = false := by simp; omega
            obtain rfl : R = false := by rw [HKB.out]; simp [hni3]
            push_cast at c1
            go_wp2_with fail
            try rw [Exit.noGoto_ret]
            go_ret
            exact ⟨rfl, by first | exact HFB.out | (rw [← hN]; exact HFB.out)⟩
        · by_cases hni3 : ni = 1
          · have hd3 : ((ni : Int) == 1) = true := by simp; omega
            obtain ⟨tb, htb⟩ : ∃ b, typedB nd.x false 1 = b := ⟨_, rfl⟩
            cases tb with
            | true =>
              by_cases hn0 : n = 0
              · have hd5 : (n == 0) = true := by simp [hn0]
                obtain rfl : R = true := by rw [HKB.out]; simp [hni3, htb, hn0]
                push_cast at c1
                have HTC := Lib.hid (HT1.out false 1 (by decide))
                rw [htb] at HTC
                push_cast at HTC
                clear htb
                go_wp2_with fail
                refine HTC.out.mono ?_
                rintro e w3 ⟨rfl, hb3⟩
                have HF3 := Lib.hid (HFB.out.trans (hb3.mono HFB.out.size))
                obtain ⟨c0, c1, c2, c3, c4, c5, c6⟩ := HBX.out.on (HBR2.out.trans (hb3.mono HBR2.out.size))
                rw [HNE.out] at c6
                clear hb3
                go_wp2_with fail
                try rw [Exit.noGoto_ret]
                go_ret
                exact ⟨rfl, by first | exact HF3.out | (rw [← hN]; exact HF3.out)⟩
              · have hd5 : (n == 0) = false := by simp [hn0]
                obtain rfl : R = false := by rw [HKB.out]; simp [hni3, htb, hn0]
                push_cast at c1
                have HTC := Lib.hid (HT1.out false 1 (by decide))
                rw [htb] at HTC
                push_cast at HTC
                clear htb
                go_wp2_with fail
                refine HTC.out.mono ?_
                rintro e w3 ⟨rfl, hb3⟩
                have HF3 := Lib.hid (HFB.out.trans (hb3.mono HFB.out.size))
                obtain ⟨c0, c1, c2, c3, c4, c5, c6⟩ := HBX.out.on (HBR2.out.trans (hb3.mono HBR2.out.size))
                rw [HNE.out] at c6
                clear hb3
                go_wp2_with fail
                try rw [Exit.noGoto_ret]
                go_ret
                exact ⟨rfl, by first | exact HF3.out | (rw [← hN]; exact HF3.out)⟩
            | false =>
              obtain rfl : R = false := by rw [HKB.out]; simp [hni3, htb]
              push_cast at c1
              have HTC := Lib.hid (HT1.out false 1 (by decide))
              rw [htb] at HTC
              push_cast at HTC
              clear htb
              go_wp2_with fail
              refine HTC.out.mono ?_
              rintro e w3 ⟨rfl, hb3⟩
              have HF3 := Lib.hid (HFB.out.trans (hb3.mono HFB.out.size))
              obtain ⟨c0, c1, c2, c3, c4, c5, c6⟩ := HBX.out.on (HBR2.out.trans (hb3.mono HBR2.out.size))
              rw [HNE.out] at c6
              clear hb3
              go_wp2_with fail
              try rw [Exit.noGoto_ret]
              go_ret
              exact ⟨rfl, by first | exact HF3.out | (rw [← hN]; exact HF3.out)⟩
          · have hd3 : ((ni : Int) == 1) = false := by simp; omega
            obtain rfl : R = false := by rw [HKB.out]; simp [hni3]
            push_cast at c1
            go_wp2_with fail
            try rw [Exit.noGoto_ret]
            go_ret
            exact ⟨rfl, by first | exact HFB.out | (rw [← hN]; exact HFB.out)⟩
        · by_cases hni3 : ni = 1
          · have hd3 : ((ni : Int) == 1) = true := by simp; omega
            obtain ⟨tb, htb⟩ : ∃ b, typedB nd.x false 2 = b := ⟨_, rfl⟩
            cases tb with
            | true =>
              by_cases hn0 : n = 0
              · have hd5 : (n == 0) = true := by simp [hn0]
                obtain rfl : R = true := by rw [HKB.out]; simp [hni3, htb, hn0]
                push_cast at c1
                have HTC := Lib.hid (HT1.out false 2 (by decide))
                rw [htb] at HTC
                push_cast at HTC
                clear htb
                go_wp2_with fail
                refine HTC.out.mono ?_
                rintro e w3 ⟨rfl, hb3⟩
                have HF3 := Lib.hid (HFB.out.trans (hb3.mono HFB.out.size))
                obtain ⟨c0, c1, c2, c3, c4, c5, c6⟩ := HBX.out.on (HBR2.out.trans (hb3.mono HBR2.out.size))
                rw [HNE.out] at c6
                clear hb3
                go_wp2_with fail
                try rw [Exit.noGoto_ret]
                go_ret
                exact ⟨rfl, by first | exact HF3.out | (rw [← hN]; exact HF3.out)⟩
              · have hd5 : (n == 0) = false := by simp [hn0]
                obtain rfl : R = false := by rw [HKB.out]; simp [hni3, htb, hn0]
                push_cast at c1
                have HTC := Lib.hid (HT1.out false 2 (by decide))
                rw [htb] at HTC
                push_cast at HTC
                clear htb
                go_wp2_with fail
                refine HTC.out.mono ?_
                rintro e w3 ⟨rfl, hb3⟩
                have HF3 := Lib.hid (HFB.out.trans (hb3.mono HFB.out.size))
                obtain ⟨c0, c1, c2, c3, c4, c5, c6⟩ := HBX.out.on (HBR2.out.trans (hb3.mono HBR2.out.size))
                rw [HNE.out] at c6
                clear hb3
                go_wp2_with fail
                try rw [Exit.noGoto_ret]
                go_ret
                exact ⟨rfl, by first | exact HF3.out | (rw [← hN]; exact HF3.out)⟩
            | false =>
              obtain rfl : R = false := by rw [HKB.out]; simp [hni3, htb]
              push_cast at c1
              have HTC := Lib.hid (HT1.out false 2 (by decide))
              rw [htb] at HTC
              push_cast at HTC
              clear htb
              go_wp2_with fail
              refine HTC.out.mono ?_
              rintro e w3 ⟨rfl, hb3⟩
              have HF3 := Lib.hid (HFB.out.trans (hb3.mono HFB.out.size))
              obtain ⟨c0, c1, c2, c3, c4, c5, c6⟩ := HBX.out.on (HBR2.out.trans (hb3.mono HBR2.out.size))
              rw [HNE.out] at c6
              clear hb3
              go_wp2_with fail
              try rw [Exit.noGoto_ret]
              go_ret
              exact ⟨rfl, by first | exact HF3.out | (rw [← hN]; exact HF3.out)⟩
          · have hd3 : ((ni : Int) == 1) = false := by simp; omega
            obtain rfl : R = false := by rw [HKB.out]; simp [hni3]
            push_cast at c1
            go_wp2_with fail
            try rw [Exit.noGoto_ret]
            go_ret
            exact ⟨rfl, by first | exact HFB.out | (rw [← hN]; exact HFB.out)⟩
        · by_cases hni3 : ni = 1
          · have hd3 : ((ni : Int) == 1) = true := by simp; omega
            obtain ⟨tb, htb⟩ : ∃ b, typedB nd.x false 1 = b := ⟨_, rfl⟩
            cases tb with
            | true =>
              by_cases hn0 : n = 0
              · have hd5 : (n == 0) = true := by simp [hn0]
                obtain rfl : R = true := by rw [HKB.out]; simp [hni3, htb, hn0]
                push_cast at c1
                have HTC := Lib.hid (HT1.out false 1 (by decide))
                rw [htb] at HTC
                push_cast at HTC
                clear htb
                go_wp2_with fail
                refine HTC.out.mono ?_
                rintro e w3 ⟨rfl, hb3⟩
                have HF3 := Lib.hid (HFB.out.trans (hb3.mono HFB.out.size))
                obtain ⟨c0, c1, c2, c3, c4, c5, c6⟩ := HBX.out.on (HBR2.out.trans (hb3.mono HBR2.out.size))
                rw [HNE.out] at c6
                clear hb3
                go_wp2_with fail
                try rw [Exit.noGoto_ret]
                go_ret
                exact ⟨rfl, by first | exact HF3.out | (rw [← hN]; exact HF3.out)⟩
              · have hd5 : (n == 0) = false := by simp [hn0]
                obtain rfl : R = false := by rw [HKB.out]; simp [hni3, htb, hn0]
                push_cast at c1
                have HTC := Lib.hid (HT1.out false 1 (by decide))
                rw [htb] at HTC
                push_cast at HTC
                clear htb
                go_wp2_with fail
                refine HTC.out.mono ?_
                rintro e w3 ⟨rfl, hb3⟩
                have HF3 := Lib.hid (HFB.out.trans (hb3.mono HFB.out.size))
                obtain ⟨c0, c1, c2, c3, c4, c5, c6⟩ := HBX.out.on (HBR2.out.trans (hb3.mono HBR2.out.size))
                rw [HNE.out] at c6
                clear hb3
                go_wp2_with fail
                try rw [Exit.noGoto_ret]
                go_ret
                exact ⟨rfl, by first | exact HF3.out | (rw [← hN]; exact HF3.out)⟩
            | false =>
              obtain rfl : R = false := by rw [HKB.out]; simp [hni3, htb]
              push_cast at c1
              have HTC := Lib.hid (HT1.out false 1 (by decide))
              rw [htb] at HTC
              push_cast at HTC
              clear htb
              go_wp2_with fail
              refine HTC.out.mono ?_
              rintro e w3 ⟨rfl, hb3⟩
              have HF3 := Lib.hid (HFB.out.trans (hb3.mono HFB.out.size))
              obtain ⟨c0, c1, c2, c3, c4, c5, c6⟩ := HBX.out.on (HBR2.out.trans (hb3.mono HBR2.out.size))
              rw [HNE.out] at c6
              clear hb3
              go_wp2_with fail
              try rw [Exit.noGoto_ret]
              go_ret
              exact ⟨rfl, by first | exact HF3.out | (rw [← hN]; exact HF3.out)⟩
          · have hd3 : ((ni : Int) == 1) = false := by simp; omega
            obtain rfl : R = false := by rw [HKB.out]; simp [hni3]
            push_cast at c1
            go_wp2_with fail
            try rw [Exit.noGoto_ret]
            go_ret
            exact ⟨rfl, by first | exact HFB.out | (rw [← hN]; exact HFB.out)⟩
        · by_cases hni3 : ni = 1
          · have hd3 : ((ni : Int) == 1) = true := by simp; omega
            obtain ⟨tb, htb⟩ : ∃ b, typedB nd.x false 1 = b := ⟨_, rfl⟩
            cases tb with
            | true =>
              by_cases hn0 : n = 0
              · have hd5 : (n == 0) = true := by simp [hn0]
                obtain rfl : R = true := by rw [HKB.out]; simp [hni3, htb, hn0]
                push_cast at c1
                have HTC := Lib.hid (HT1.out false 1 (by decide))
                rw [htb] at HTC
                push_cast at HTC
                clear htb
                go_wp2_with fail
                refine HTC.out.mono ?_
                rintro e w3 ⟨rfl, hb3⟩
                have HF3 := Lib.hid (HFB.out.trans (hb3.mono HFB.out.size))
                obtain ⟨c0, c1, c2, c3, c4, c5, c6⟩ := HBX.out.on (HBR2.out.trans (hb3.mono HBR2.out.size))
                rw [HNE.out] at c6
                clear hb3
                go_wp2_with fail
                try rw [Exit.noGoto_ret]
                go_ret
                exact ⟨rfl, by first | exact HF3.out | (rw [← hN]; exact HF3.out)⟩
              · have hd5 : (n == 0) = false := by simp [hn0]
                obtain rfl : R = false := by rw [HKB.out]; simp [hni3, htb, hn0]
                push_cast at c1
                have HTC := Lib.hid (HT1.out false 1 (by decide))
                rw [htb] at HTC
                push_cast at HTC
                clear htb
                go_wp2_with fail
                refine HTC.out.mono ?_
                rintro e w3 ⟨rfl, hb3⟩
                have HF3 := Lib.hid (HFB.out.trans (hb3.mono HFB.out.size))
                obtain ⟨c0, c1, c2, c3, c4, c5, c6⟩ := HBX.out.on (HBR2.out.trans (hb3.mono HBR2.out.size))
                rw [HNE.out] at c6
                clear hb3
                go_wp2_with fail
                try rw [Exit.noGoto_ret]
                go_ret
                exact ⟨rfl, by first | exact HF3.out | (rw [← hN]; exact HF3.out)⟩
            | false =>
              obtain rfl : R = false := by rw [HKB.out]; simp [hni3, htb]
              push_cast at c1
              have HTC := Lib.hid (HT1.out false 1 (by decide))
              rw [htb] at HTC
              push_cast at HTC
              clear htb
              go_wp2_with fail
              refine HTC.out.mono ?_
              rintro e w3 ⟨rfl, hb3⟩
              have HF3 := Lib.hid (HFB.out.trans (hb3.mono HFB.out.size))
              obtain ⟨c0, c1, c2, c3, c4, c5, c6⟩ := HBX.out.on (HBR2.out.trans (hb3.mono HBR2.out.size))
              rw [HNE.out] at c6
              clear hb3
              go_wp2_with fail
              try rw [Exit.noGoto_ret]
              go_ret
              exact ⟨rfl, by first | exact HF3.out | (rw [← hN]; exact HF3.out)⟩
          · have hd3 : ((ni : Int) == 1) = false := by simp; omega
            obtain rfl : R = false := by rw [HKB.out]; simp [hni3]
            push_cast at c1
            go_wp2_with fail
            try rw [Exit.noGoto_ret]
            go_ret
            exact ⟨rfl, by first | exact HFB.out | (rw [← hN]; exact HFB.out)⟩
        · by_cases hni3 : ni = 1
          · have hd3 : ((ni : Int) == 1) = true := by simp; omega
            obtain ⟨tb, htb⟩ : ∃ b, typedB nd.x true 1 = b := ⟨_, rfl⟩
            cases tb with
            | true =>
              by_cases hn0 : n = 0
              · have hd5 : (n == 0) = true := by simp [hn0]
                obtain rfl : R = true := by rw [HKB.out]; simp [hni3, htb, hn0]
                push_cast at c1
                have HTC := Lib.hid (HT1.out true 1 (by decide))
                rw [htb] at HTC
                push_cast at HTC
                clear htb
                go_wp2_with fail
                refine HTC.out.mono ?_
                rintro e w3 ⟨rfl, hb3⟩
                have HF3 := Lib.hid (HFB.out.trans (hb3.mono HFB.out.size))
                obtain ⟨c0, c1, c2, c3, c4, c5, c6⟩ := HBX.out.on (HBR2.out.trans (hb3.mono HBR2.out.size))
                rw [HNE.out] at c6
                clear hb3
                go_wp2_with fail
                try rw [Exit.noGoto_ret]
                go_ret
                exact ⟨rfl, by first | exact HF3.out | (rw [← hN]; exact HF3.out)⟩
              · have hd5 : (n == 0) = false := by simp [hn0]
                obtain rfl : R = false := by rw [HKB.out]; simp [hni3, htb, hn0]
                push_cast at c1
                have HTC := Lib.hid (HT1.out true 1 (by decide))
                rw [htb] at HTC
                push_cast at HTC
                clear htb
                go_wp2_with fail
                refine HTC.out.mono ?_
                rintro e w3 ⟨rfl, hb3⟩
                have HF3 := Lib.hid (HFB.out.trans (hb3.mono HFB.out.size))
                obtain ⟨c0, c1, c2, c3, c4, c5, c6⟩ := HBX.out.on (HBR2.out.trans (hb3.mono HBR2.out.size))
                rw [HNE.out] at c6
                clear hb3
                go_wp2_with fail
                try rw [Exit.noGoto_ret]
                go_ret
                exact ⟨rfl, by first | exact HF3.out | (rw [← hN]; exact HF3.out)⟩
            | false =>
              obtain rfl : R = false := by rw [HKB.out]; simp [hni3, htb]
              push_cast at c1
              have HTC := Lib.hid (HT1.out true 1 (by decide))
              rw [htb] at HTC
              push_cast at HTC
              clear htb
              go_wp2_with fail
              refine HTC.out.mono ?_
              rintro e w3 ⟨rfl, hb3⟩
              have HF3 := Lib.hid (HFB.out.trans (hb3.mono HFB.out.size))
              obtain ⟨c0, c1, c2, c3, c4, c5, c6⟩ := HBX.out.on (HBR2.out.trans (hb3.mono HBR2.out.size))
              rw [HNE.out] at c6
              clear hb3
              go_wp2_with fail
              try rw [Exit.noGoto_ret]
              go_ret
              exact ⟨rfl, by first | exact HF3.out | (rw [← hN]; exact HF3.out)⟩
          · have hd3 : ((ni : Int) == 1) = false := by simp; omega
            obtain rfl : R = false := by rw [HKB.out]; simp [hni3]
            push_cast at c1
            go_wp2_with fail
            try rw [Exit.noGoto_ret]
            go_ret
            exact ⟨rfl, by first | exact HFB.out | (rw [← hN]; exact HFB.out)⟩
        · by_cases hni3 : ni = 1
          · have hd3 : ((ni : Int) == 1) = true := by simp; omega
            cases Z with
            | true =>
              by_cases hn1 : 1 ≤ n
              · have hd6 : decide (n ≥ 1) = true := by simp; omega
                by_cases hn16 : n ≤ 16
                · have hd7 : decide (n ≤ 16) = true := by simp [hn16]
                  obtain rfl : R = true := by rw [HKB.out]; simp [hni3, hn1, hn16]
                  push_cast at c1
                  go_wp2_with fail
                  try rw [Exit.noGoto_ret]
                  go_ret
                  exact ⟨rfl, by first | exact HFB.out | (rw [← hN]; exact HFB.out)⟩
                · have hd7 : decide (n ≤ 16) = false := by simp [hn16]
                  obtain rfl : R = false := by rw [HKB.out]; simp [hni3, hn1, hn16]
                  push_cast at c1
                  go_wp2_with fail
                  try rw [Exit.noGoto_ret]
                  go_ret
                  exact ⟨rfl, by first | exact HFB.out | (rw [← hN]; exact HFB.out)⟩
              · have hd6 : decide (n ≥ 1) = false := by simp; omega
                obtain rfl : R = false := by rw [HKB.out]; simp [hni3, hn1]
                push_cast at c1
                go_wp2_with fail
                try rw [Exit.noGoto_ret]
                go_ret
                exact ⟨rfl, by first | exact HFB.out | (rw [← hN]; exact HFB.out)⟩
            | false =>
              obtain rfl : R = false := by rw [HKB.out]; simp [hni3]
              push_cast at c1
              go_wp2_with fail
              try rw [Exit.noGoto_ret]
              go_ret
              exact ⟨rfl, by first | exact HFB.out | (rw [← hN]; exact HFB.out)⟩
          · have hd3 : ((ni : Int) == 1) = false := by simp; omega
            obtain rfl : R = false := by rw [HKB.out]; simp [hni3]
            push_cast at c1
            go_wp2_with fail
            try rw [Exit.noGoto_ret]
            go_ret
            exact ⟨rfl, by first | exact HFB.out | (rw [← hN]; exact HFB.out)⟩
        · by_cases hni3 : ni = 2
          · have hd3 : ((ni : Int) == 2) = true := by simp; omega
            cases Z with
            | true =>
              by_cases hn0 : n = 0
              · have hd5 : (n == 0) = true := by simp [hn0]
                obtain rfl : R = true := by rw [HKB.out]; simp [hni3, hn0]
                push_cast at c1
                go_wp2_with fail
                try rw [Exit.noGoto_ret]
                go_ret
                exact ⟨rfl, by first | exact HFB.out | (rw [← hN]; exact HFB.out)⟩
              · have hd5 : (n == 0) = false := by simp [hn0]
                obtain rfl : R = false := by rw [HKB.out]; simp [hni3, hn0]
                push_cast at c1
                go_wp2_with fail
                try rw [Exit.noGoto_ret]
                go_ret
                exact ⟨rfl, by first | exact HFB.out | (rw [← hN]; exact HFB.out)⟩
            | false =>
              obtain rfl : R = false := by rw [HKB.out]; simp [hni3]
              push_cast at c1
              go_wp2_with fail
              try rw [Exit.noGoto_ret]
              go_ret
              exact ⟨rfl, by first | exact HFB.out | (rw [← hN]; exact HFB.out)⟩
          · have hd3 : ((ni : Int) == 2) = false := by simp; omega
            by_cases hni4 : ni = 3
            · have hd4 : ((ni : Int) == 3) = true := by simp; omega
              cases Z with
              | true =>
                by_cases hn0 : n = 0
                · have hd5 : (n == 0) = true := by simp [hn0]
                  obtain rfl : R = true := by rw [HKB.out]; simp [hni3, hni4, hn0]
                  push_cast at c1
                  go_wp2_with fail
                  try rw [Exit.noGoto_ret]
                  go_ret
                  exact ⟨rfl, by first | exact HFB.out | (rw [← hN]; exact HFB.out)⟩
                · have hd5 : (n == 0) = false := by simp [hn0]
                  obtain rfl : R = false := by rw [HKB.out]; simp [hni3, hni4, hn0]
                  push_cast at c1
                  go_wp2_with fail
                  try rw [Exit.noGoto_ret]
                  go_ret
                  exact ⟨rfl, by first | exact HFB.out | (rw [← hN]; exact HFB.out)⟩
              | false =>
                obtain rfl : R = false := by rw [HKB.out]; simp [hni3, hni4]
                push_cast at c1
                go_wp2_with fail
                try rw [Exit.noGoto_ret]
                go_ret
                exact ⟨rfl, by first | exact HFB.out | (rw [← hN]; exact HFB.out)⟩
            · have hd4 : ((ni : Int) == 3) = false := by simp; omega
              obtain rfl : R = false := by rw [HKB.out]; simp [hni3, hni4]
              push_cast at c1
              go_wp2_with fail
              try rw [Exit.noGoto_ret]
              go_ret
              exact ⟨rfl, by first | exact HFB.out | (rw [← hN]; exact HFB.out)⟩
        · by_cases hni3 : ni = 1
          · have hd3 : ((ni : Int) == 1) = true := by simp; omega
            cases Z with
            | true =>
              by_cases hn0 : n = 0
              · have hd5 : (n == 0) = true := by simp [hn0]
                obtain rfl : R = true := by rw [HKB.out]; simp [hni3, hn0]
                push_cast at c1
                go_wp2_with fail
                try rw [Exit.noGoto_ret]
                go_ret
                exact ⟨rfl, by first | exact HFB.out | (rw [← hN]; exact HFB.out)⟩
              · have hd5 : (n == 0) = false := by simp [hn0]
                obtain rfl : R = false := by rw [HKB.out]; simp [hni3, hn0]
                push_cast at c1
                go_wp2_with fail
                try rw [Exit.noGoto_ret]
                go_ret
                exact ⟨rfl, by first | exact HFB.out | (rw [← hN]; exact HFB.out)⟩
            | false =>
              obtain rfl : R = false := by rw [HKB.out]; simp [hni3]
              push_cast at c1
              go_wp2_with fail
              try rw [Exit.noGoto_ret]
              go_ret
              exact ⟨rfl, by first | exact HFB.out | (rw [← hN]; exact HFB.out)⟩
          · have hd3 : ((ni : Int) == 1) = false := by simp; omega
            obtain rfl : R = false := by rw [HKB.out]; simp [hni3]
            push_cast at c1
            go_wp2_with fail
            try rw [Exit.noGoto_ret]
            go_ret
            exact ⟨rfl, by first | exact HFB.out | (rw [← hN]; exact HFB.out)⟩
        · obtain rfl : R = false := by
            rw [HKB.out]
            simp [show K ≠ 1 by omega, show K ≠ 2 by omega, show K ≠ 3 by omega, show K ≠ 4 by omega, show K ≠ 5 by omega, show K ≠ 6 by omega, show K ≠ 7 by omega, show K ≠ 8 by omega, show K ≠ 9 by omega]
          have k1 : ((K : Int) == 1) = false := by simp; omega
          have k2 : ((K : Int) == 2) = false := by simp; omega
          have k3 : ((K : Int) == 3) = false := by simp; omega
          have k4 : ((K : Int) == 4) = false := by simp; omega
          have k5 : ((K : Int) == 5) = false := by simp; omega
          have k6 : ((K : Int) == 6) = false := by simp; omega
          have k7 : ((K : Int) == 7) = false := by simp; omega
          have k8 : ((K : Int) == 8) = false := by simp; omega
          have k9 : ((K : Int) == 9) = false := by simp; omega
          clear hc
          go_wp2_with fail
          try rw [Exit.noGoto_ret]
          go_ret
          exact ⟨rfl, by first | exact HFB.out | (rw [← hN]; exact HFB.out)⟩
end Go.Proofs.YtnelfokfgnikfaaDoor.rf
