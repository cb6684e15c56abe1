/- The reference's word on whether a table may be a node's. -/
import Derived.Test.YtepdecnegihhhaaGreatDoorIdJ
import Derived.Test.YtepdecnegihhhaaGreatDoorTcF
set_option linter.unusedSimpArgs false
set_option linter.unusedVariables false
namespace Go.Proofs.YtepdecnegihhhaaGreatDoor.idl
open Go.RowKit
open tbl (IsRef IsRs Rw Box2 lt_of_get)
open opr (Nv nodeV NBox)
open grp (below_on' below_made ret_bool)
open exp (cell_of heap_last)
attribute [local go_sem ↓] Go.wp_at_zero Go.wp_at_succ
theorem rstat_any (k : Nat) (w : World) : Calls Tryz.prog 42 #[.int .u8 (k : Int)] w fun e w' => e = .returned (.bool (statB k)) ∧ w' = w := by
 have HS : Hid (statB k = (k == 6 || k == 7)) := Lib.hid rfl
 by_cases h6 : k = 6
 · have h6' : ((k : Int) == 6) = true := by simp; omega
   go_enter Tryz.func42, Tryz.ntmps42
   go_wp2_with fail
   go_ret
   exact ⟨ret_bool (by rw [HS.out, h6]; rfl), rfl⟩
 · have h6' : ((k : Int) == 6) = false := by simp; omega
   have h6n : (k == 6) = false := by simpa using h6
   have h7n : ((k : Int) == 7) = (k == 7) := by rw [Bool.eq_iff_iff]; simp; omega
   have H6 := Lib.hid h6n; have H7 := Lib.hid h7n
   clear h6 h6n h7n
   go_enter Tryz.func42, Tryz.ntmps42
   go_wp2_with fail
   go_ret
   exact ⟨ret_bool (by rw [HS.out, H6.out, Bool.false_or]; exact H7.out), rfl⟩
theorem all_ok {kd : Nat} {nn : Int} {L : tbl.Rows} (h : L.all (fun p => !statB kd || fitB kd nn p.2.1 p.2.2.length) = true) : fitsB kd nn L = statB kd := by
 unfold fitsB
 cases hs : statB kd with
 | false => rfl
 | true =>
  rw [hs] at h
  rw [Bool.true_and, ← h]
  rfl
theorem one_bad {kd : Nat} {nn : Int} {L : tbl.Rows} {p : Int × tbl.Cl} (hp : p ∈ L) (hb : fitB kd nn p.2.1 p.2.2.length = false) : fitsB kd nn L = false := by
 unfold fitsB
 rw [Bool.and_eq_false_iff]
 right
 rw [Bool.eq_false_iff]
 intro h
 have := List.all_eq_true.1 h p hp
 rw [hb] at this; cases this
set_option maxHeartbeats 3200000 in
set_option maxRecDepth 1000000 in
theorem rfits_any {w : World} {r : Nat} {L : tbl.Rows} (h : IsRef w r L) (nv : Nv) : Calls Tryz.prog 17 #[nodeV nv, .pointer (some ⟨r, 0, none⟩)] w fun e w' => e = .returned (.bool (fitsB nv.kd nv.nn L)) ∧ Below w.heap.size w w' := by
 have hb0 := below_made w (.cells nv.cells 48)
 have HB0 := Lib.hid hb0
 have HNB := Lib.hid (NBox.new w nv)
 obtain ⟨rs, hrs, v, hv, hsr, hna⟩ := (h.below hb0).rows
 have HGL := h.good.len
 obtain ⟨n, hn⟩ : ∃ n, L.length = n := ⟨_, rfl⟩
 have hrl : rs.length = n := by rw [← hn, ← hrs, List.length_map]
 have HN := Lib.hid hn; have HRL := Lib.hid hrl; have HRS := Lib.hid hrs; have HV := Lib.hid hv; have HSR := Lib.hid hsr
 have hn6 : n ≤ 1000000 := by omega
 obtain ⟨N, hNN⟩ : ∃ N, w.heap.size = N := ⟨_, rfl⟩
 obtain ⟨W0, hW0⟩ : ∃ W, w.alloc (.cells nv.cells 48) = W := ⟨_, rfl⟩
 rw [hW0] at HB0 HNB HV HSR
 rw [hNN] at HNB
 have HRST := Lib.hid (fun k w => rstat_any k w)
 have HW0 := Lib.hid hW0; have HNN := Lib.hid hNN
 unfold nodeV
 obtain ⟨s, kd, ia, il, ic, op, xn, xa, xl, xc, nn⟩ := nv
 unfold Nv.cells at *
 dsimp only at *
 clear h hb0 hrs hv hsr hna HGL hn hrl hNN hW0
 go_enter Tryz.func17, Tryz.ntmps17
 go_upto_region 1 with fail
 rw [HNN.out, HW0.out]
 go_wp2_with fail
 go_loopg [5] n (fun g v5 wr => ∃ (k : Nat), k + g = n ∧ v5 = .int .i64 (k : Int) ∧ Hid ((L.take k).all (fun p => !statB kd || fitB kd nn p.2.1 p.2.2.length) = true) ∧ Hid (Below W0.heap.size W0 wr))
 case atStart => exact ⟨0, by omega, rfl, Lib.hid (by simp), Lib.hid (Below.refl _ _)⟩
 case round =>
  rename World => wr
  obtain ⟨k, hk, rfl, HALL, HBR⟩ := hrel
  have hvr : wr.heap[r]? = some (.cells #[v] 98 (0, 0)) := (HBR.out.block r (lt_of_get HV.out)).trans HV.out
  have v0 : wr.cell? ⟨r, 0, none⟩ = some v := cell_of hvr rfl
  have hsrr := HSR.out.keep (tbl.Rows3.of_below HBR.out)
  obtain ⟨va, vc, ev⟩ := hsrr.len
  rw [HRL.out] at ev
  by_cases hkn : k < n
  · have hki : (k : Int) < (n : Int) := by omega
    have hk0 : (0 : Int) ≤ (k : Int) := by omega
    have hkr : k < rs.length := by rw [HRL.out]; exact hkn
    have hkl : k < L.length := by rw [HN.out]; exact hkn
    obtain ⟨gb, o, c, ev2, e1, e2, e3⟩ := hsrr.at hkr
    rw [HRL.out] at ev2
    rw [ev2] at v0 ev
    obtain ⟨acc, hacc⟩ : ∃ y, rs[k].acc = y := ⟨_, rfl⟩
    obtain ⟨many, hmany⟩ : ∃ y, rs[k].ns.length = y := ⟨_, rfl⟩
    have HP : Hid (L[k].2.1 = acc ∧ L[k].2.2.length = many) := Lib.hid (by
     have h1 : L[k] = rs[k].p := by
      have h2 : (rs.map Rw.p)[k]? = L[k]? := by rw [HRS.out]
      rw [List.getElem?_map, List.getElem?_eq_getElem hkr, List.getElem?_eq_getElem hkl] at h2
      exact (Option.some.inj h2).symm
     rw [h1]
     exact ⟨hacc, hmany⟩)
    obtain ⟨ca, hca⟩ : ∃ y, rs[k].a = y := ⟨_, rfl⟩
    obtain ⟨cc, hcc⟩ : ∃ y, rs[k].cap = y := ⟨_, rfl⟩
    rw [hacc] at e2
    rw [hca, hmany, hcc] at e3
    have HMEM : Hid (L[k] ∈ L) := Lib.hid (List.getElem_mem hkl)
    have HTK : Hid (L.take (k + 1) = L.take k ++ [L[k]]) := Lib.hid (by rw [List.take_add_one, List.getElem?_eq_getElem hkl]; rfl)
    have hld : wr.rangeAt gb (o + k * 3 + 1) [.int .i64 acc, .slice ca many cc] := fun j u hj => by
     match j, hj with
     | 0, hj => simp at hj; subst hj; exact e2
     | 1, hj => simp at hj; subst hj; exact e3
    have HLD := Lib.hid hld
    have hbx := below_made wr (.cells #[.int .i64 acc, .slice ca many cc] 77)
    obtain ⟨WC, hWC⟩ : ∃ W, wr.alloc (.cells #[.int .i64 acc, .slice ca many cc] 77) = W := ⟨_, rfl⟩
    obtain ⟨Q, hQ⟩ : ∃ Q, wr.heap.size = Q := ⟨_, rfl⟩
    obtain ⟨x0, x1, -, -⟩ := (Box2.new wr (acc, ca, many, cc)).facts
    obtain ⟨y0, y1, y2, y3, y4, y5, y6⟩ := ((HNB.out.below HBR.out).below hbx).facts
    dsimp only at x0 x1 y0 y1 y2 y3 y4 y5 y6
    have hbc : Below W0.heap.size W0 (wr.alloc (.cells #[.int .i64 acc, .slice ca many cc] 77)) := HBR.out.trans (hbx.mono HBR.out.size)
    rw [hWC] at x0 x1 y0 y1 y2 y3 y4 y5 y6 hbc
    rw [hQ] at x0 x1
    have HBC := Lib.hid hbc
    have HWC := Lib.hid hWC; have HQ := Lib.hid hQ
    clear ev ev2 hvr hsrr hacc hmany hca hcc hld hbx hbc hWC hQ e2 e3
    have hstep : Hid (∀ q : Bool, (!statB kd || fitB kd nn acc many) = q → q = true → (L.take (k + 1)).all (fun p => !statB kd || fitB kd nn p.2.1 p.2.2.length) = true) := Lib.hid (fun q hq hq1 => by
     rw [HTK.out, List.all_append, HALL.out, Bool.true_and]
     simp only [List.all_cons, List.all_nil, Bool.and_true]
     rw [HP.out.1, HP.out.2, hq, hq1])
    have hbad : Hid (fitB kd nn acc many = false → fitsB kd nn L = false) := Lib.hid (fun hq => one_bad HMEM.out (by rw [HP.out.1, HP.out.2]; exact hq))
    go_upto_region 5 with (first | (refine wpList_load_mid rfl 77 (.tmp 22) rfl gb (o + k * 3 + 1) rfl [.int .i64 acc, .slice ca many cc] _ HLD.out Tryz.underlying77 rfl (by kernel_rfl) ?_))
    rw [HQ.out, HWC.out]
    clear v0 e1
    by_cases h6 : kd = 6
    · have h6' : ((kd : Int) == 6) = true := by simp; omega
      have h7' : ((kd : Int) == 7) = false := by simp; omega
      have HF : Hid (fitB kd nn acc many = decide (many = 0)) := Lib.hid (by unfold fitB; rw [if_pos h6])
      have HS : Hid (statB kd = true) := Lib.hid (by rw [h6]; rfl)
      clear h6
      by_cases hm : many = 0
      · have hm' : ¬ (many : Int) > 0 := by omega
        go_wp2_with fail
        go_roundg (gk - 1)
        case measure => omega
        case rel => exact ⟨k + 1, by omega, by go_num, Lib.hid (hstep.out _ (by rw [HS.out, HF.out, decide_eq_true hm]; rfl) rfl), HBC⟩
      · have hm' : (many : Int) > 0 := by omega
        go_wp2_with fail
        try simp only [Exit.noGoto_ret, inBlock_ret, then_ret]
        go_ret
        exact ⟨ret_bool (hbad.out (by rw [HF.out, decide_eq_false hm])).symm, below_on' HB0.out HBC.out⟩
    · have h6' : ((kd : Int) == 6) = false := by simp; omega
      by_cases h7 : kd = 7
      · have h7' : ((kd : Int) == 7) = true := by simp; omega
        have HF : Hid (fitB kd nn acc many = (decide (acc = 0) && decide (1 ≤ many) && decide ((many : Int) < nn))) := Lib.hid (by unfold fitB; rw [if_neg h6])
        have HS : Hid (statB kd = true) := Lib.hid (by rw [h7]; rfl)
        clear h6 h7
        by_cases ha : acc = 0
        · have ha' : (acc != 0) = false := by simp [ha]
          by_cases hm : 1 ≤ many
          · have hm' : ¬ (many : Int) < 1 := by omega
            by_cases hn2 : (many : Int) < nn
            · have hn3 : ¬ (many : Int) ≥ nn := by omega
              have HA := Lib.hid ha; clear ha
              go_wp2_with fail
              go_roundg (gk - 1)
              case measure => omega
              case rel => exact ⟨k + 1, by omega, by go_num, Lib.hid (hstep.out _ (by rw [HS.out, HF.out, decide_eq_true HA.out, decide_eq_true hm, decide_eq_true hn2]; rfl) rfl), HBC⟩
            · have hn3 : (many : Int) ≥ nn := by omega
              have HA := Lib.hid ha; clear ha
              go_wp2_with fail
              try simp only [Exit.noGoto_ret, inBlock_ret, then_ret]
              go_ret
              exact ⟨ret_bool (hbad.out (by rw [HF.out, decide_eq_false (p := (many : Int) < nn) (by omega), Bool.and_false])).symm, below_on' HB0.out HBC.out⟩
          · have hm' : (many : Int) < 1 := by omega
            have HA := Lib.hid ha; clear ha
            go_wp2_with fail
            try simp only [Exit.noGoto_ret, inBlock_ret, then_ret]
            go_ret
            exact ⟨ret_bool (hbad.out (by rw [HF.out, decide_eq_false hm, Bool.and_false, Bool.false_and])).symm, below_on' HB0.out HBC.out⟩
        · have ha' : (acc != 0) = true := by simp [ha]
          have HA := Lib.hid ha; clear ha
          go_wp2_with fail
          try simp only [Exit.noGoto_ret, inBlock_ret, then_ret]
          go_ret
          exact ⟨ret_bool (hbad.out (by rw [HF.out, decide_eq_false HA.out, Bool.false_and, Bool.false_and])).symm, below_on' HB0.out HBC.out⟩
      · have h7' : ((kd : Int) == 7) = false := by simp; omega
        have HS : Hid (statB kd = false) := Lib.hid (by unfold statB; simp [h6, h7])
        clear h6 h7
        go_wp2_with fail
        go_roundg (gk - 1)
        case measure => omega
        case rel => exact ⟨k + 1, by omega, by go_num, Lib.hid (hstep.out _ (by rw [HS.out]; rfl) rfl), HBC⟩
  · have hki : ¬ (k : Int) < (n : Int) := by omega
    obtain rfl : k = n := by omega
    have HE : Hid (fitsB kd nn L = statB kd) := Lib.hid (all_ok (by have h1 := HALL.out; rw [List.take_of_length_le (by rw [HN.out]; exact Nat.le_refl _)] at h1; exact h1))
    subst ev
    obtain ⟨y0, y1, y2, y3, y4, y5, y6⟩ := (HNB.out.below HBR.out).facts
    dsimp only at y0 y1 y2 y3 y4 y5 y6
    have HRK := Lib.hid (HRST.out kd wr)
    clear hkn hvr hsrr HRST
    go_wp2_with fail
    refine HRK.out.mono ?_
    rintro e w9 ⟨rfl, rfl⟩
    go_wp2_with fail
    try rw [Exit.noGoto_ret]
    go_ret
    exact ⟨ret_bool HE.out.symm, below_on' HB0.out HBR.out⟩
end Go.Proofs.YtepdecnegihhhaaGreatDoor.idl
