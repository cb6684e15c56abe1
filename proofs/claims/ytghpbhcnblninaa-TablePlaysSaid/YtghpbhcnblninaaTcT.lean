/- What the reference's Join answers, and what it leaves. -/
import Derived.Test.YtghpbhcnblninaaTcS
import Derived.Test.YtghpbhcnblninaaTbGb
namespace Go.Proofs.Ytghpbhcnblninaa.tbl
set_option linter.unusedSimpArgs false
set_option linter.unusedVariables false
open Go.RowKit
attribute [local go_sem ↓] Go.wp_at_zero Go.wp_at_succ
open Go.Proofs.Ytghpbhcnblninaa.grp (gof gof_in fits fits_wf IRow intV below_on' below_made ret_bool own_below ret_int rof_any below_drewN)
def RJoinPost (w : World) (r : Nat) (L U : Rows) (e : Ending) (w' : World) : Prop := e = .returned (.int .i64 (joinO L U).1) ∧ IsRef w' r (joinO L U).2 ∧ Only (· = r) w w'
theorem rjoin_same {w w' : World} {r : Nat} {rs : List Rw} {U : Rows} {x : Int} (h : IsRs w r rs) (hG : Good (rs.map Rw.p)) (hO : joinO (rs.map Rw.p) U = (x, rs.map Rw.p)) (hb : Below w.heap.size w w') : RJoinPost w r (rs.map Rw.p) U (.returned (.int .i64 x)) w' := by
  unfold RJoinPost
  rw [hO]
  exact ⟨rfl, ⟨hG, rs, rfl, h.below hb⟩, .of_below hb⟩
theorem join_snoc (L U : Rows) (p : Int × Cl) : joinL L (U ++ [p]) = putL (joinL L U) p.1 p.2 := by
  unfold joinL
  rw [List.foldl_append]; rfl
theorem room_step {L U : Rows} (hL : Good L) (hU : Good U) (ha : Apart L U) (hc : ∀ g : Nat, g < 8 → cnt L (g : Int) + cnt U (g : Int) ≤ 40) {j : Nat} (hj : j < U.length) :
    putO (joinL L (U.take j)) U[j].1 U[j].2 = (0, joinL L (U.take (j + 1))) := by
  have hm := List.getElem_mem hj
  have hsub : (U.take j).Sublist U := List.take_sublist _ _
  have h1 := cnt_join hL.ord (hU.ord.sublist hsub) (fun p hp => ha p (hsub.subset hp)) (gof U[j].1)
  have h2 : cnt (U.take (j + 1)) (gof U[j].1) ≤ cnt U (gof U[j].1) := ((List.take_sublist _ _).filter _).length_le
  rw [List.take_succ_eq_append_getElem hj, cnt_snoc, if_pos rfl] at h2
  obtain ⟨g0, g1⟩ := gof_in U[j].1
  obtain ⟨g, hg⟩ : ∃ g : Nat, gof U[j].1 = (g : Int) := ⟨(gof U[j].1).toNat, by omega⟩
  rw [hg] at h1 h2
  have h3 := hc g (by omega)
  have hf := (hU.cell _ hm).few
  unfold putO
  rw [if_neg (by omega), if_neg (fun e => by have h4 := e.2; rw [hg] at h4; omega), List.take_succ_eq_append_getElem hj, join_snoc]
set_option maxHeartbeats 3200000 in
set_option maxRecDepth 1000000 in
theorem rjoin_any {w : World} {r q : Nat} {rs us : List Rw} (h : IsRs w r rs) (hG : Good (rs.map Rw.p)) (hU : IsRs w q us) (hGU : Good (us.map Rw.p)) (hne : q ≠ r) :
    Calls Try.prog 27 #[.pointer (some ⟨r, 0, none⟩), .pointer (some ⟨q, 0, none⟩)] w (RJoinPost w r (rs.map Rw.p) (us.map Rw.p)) := by
  have HH := Lib.hid h
  have HU := Lib.hid hU
  have HG := Lib.hid hG
  have HGU := Lib.hid hGU
  have HNE := Lib.hid hne
  obtain ⟨vr, hr, -, -⟩ := h
  have HHR := Lib.hid hr
  obtain ⟨vv, hq, hs, hna⟩ := hU
  have HHQ := Lib.hid hq
  have HS := Lib.hid hs
  have HNAS := Lib.hid hna
  have c0 := cell_of_row w q 0 _ _ _ hq
  have hlen : us.length ≤ 320 := by have := hGU.len; rwa [List.length_map] at this
  have HKF : Hid (∀ j (h : j < us.length), fits us[j].key) := Lib.hid (fun j hj => hGU.key us[j].p (List.mem_map_of_mem (List.getElem_mem hj)))
  have HUL : Hid (∀ j (h : j < us.length), ∃ h' : j < (us.map Rw.p).length, (us.map Rw.p)[j] = us[j].p) := Lib.hid (fun j hj => ⟨by simpa using hj, by simp⟩)
  obtain ⟨n, hn⟩ : ∃ n, us.length = n := ⟨_, rfl⟩
  have HN := Lib.hid hn
  obtain ⟨a0, c1, hv0⟩ := hs.len
  rw [hn] at hlen hv0
  have HV := Lib.hid hv0
  rw [hv0] at c0
  change w.cell? ⟨q, 0, none⟩ = some (.slice a0 n c1) at c0
  have HC0 := Lib.hid c0
  clear hr hq hs hna hG hGU hne hn hv0
  go_enter Try.func27, Try.ntmps27
  go_wp2_with fail
  go_loopg [5] n (fun g v5 wr => ∃ j : Nat, j + g = n ∧ v5 = .int .i64 j ∧ (∀ i (h : i < us.length), i < j → look (rs.map Rw.p) us[i].key = none) ∧ Below w.heap.size w wr)
  case atStart => exact ⟨0, by omega, rfl, fun i _ hi => by omega, Below.refl _ _⟩
  case round =>
    rename World => wr
    obtain ⟨j, hjg, rfl, hap, hb⟩ := hrel
    have HAP := Lib.hid hap
    have HB := Lib.hid hb
    have HJN := Lib.hid hjg
    have hc := (hb.cell (p := ⟨q, 0, none⟩) (World.block_lt_of_cell? w _ HC0.out)).trans HC0.out
    clear hap hb
    cases gk with
    | succ g =>
      have hjn : j < us.length := by have := HN.out; omega
      have hjz : (j : Int) < (n : Int) := by omega
      have hj0 : (0 : Int) ≤ (j : Int) := by omega
      obtain ⟨gb, o, c2, hv2, e1, -, -⟩ := HS.out.at hjn
      rw [HN.out] at hv2
      rw [HV.out] at hv2
      obtain ⟨rfl, rfl⟩ : a0 = some ⟨gb, o, none⟩ ∧ c1 = c2 := by injection hv2 with h1 h2 h3; exact ⟨h1, h3⟩
      have hck := (HB.out.cell (p := ⟨gb, o + j * 3, none⟩) (World.block_lt_of_cell? w _ e1)).trans e1
      have HFI := Lib.hid (find_any (HH.out.below HB.out) HG.out (HKF.out j hjn))
      have HLK := Lib.hid (at_look (k := us[j].key) HG.out.ord)
      have HMORE : Hid (isAt rs us[j].key = false → ∀ i (h : i < us.length), i < j + 1 → look (rs.map Rw.p) us[i].key = none) := Lib.hid (fun e i hi hij => by
        rcases Nat.lt_or_ge i j with h1 | h1
        · exact HAP.out i hi h1
        · obtain rfl : i = j := by omega
          have := HLK.out
          rw [e] at this
          cases hl : look (rs.map Rw.p) us[i].key with
          | none => rfl
          | some c => rw [hl] at this; cases this)
      have HTWO : Hid (isAt rs us[j].key = true → joinO (rs.map Rw.p) (us.map Rw.p) = (2, rs.map Rw.p)) := Lib.hid (fun e => by
        have := HLK.out
        rw [e] at this
        obtain ⟨d, hd⟩ := Option.isSome_iff_exists.1 this
        exact join_two (look_mem HGU.out.ord (List.mem_map_of_mem (List.getElem_mem hjn))) hd)
      obtain ⟨key, hkey⟩ : ∃ k, us[j].key = k := ⟨_, rfl⟩
      rw [hkey] at hck HFI HMORE HTWO
      obtain ⟨m, hm⟩ : ∃ m, fnd rs key = m := ⟨_, rfl⟩
      rw [hm] at HFI
      clear hkey hm e1 hv2 hjn HLK hjg
      cases hia : isAt rs key with
      | true =>
        rw [hia] at HFI
        have HF := Lib.hid (fun w' => rjoin_same (w' := w') HH.out HG.out (HTWO.out hia))
        clear hia
        go_wp2_with fail
        refine HFI.out.mono ?_
        rintro e w1 ⟨rfl, hb1⟩
        have HB1 := Lib.hid (below_on' HB.out hb1)
        clear hb1
        go_wp2_with fail
        try rw [Exit.noGoto_ret]
        go_ret
        exact HF.out _ HB1.out
      | false =>
        rw [hia] at HFI
        have HM2 := Lib.hid (HMORE.out hia)
        clear hia
        go_wp2_with fail
        refine HFI.out.mono ?_
        rintro e w1 ⟨rfl, hb1⟩
        have HB1 := Lib.hid (below_on' HB.out hb1)
        clear hb1
        go_wp2_with fail
        go_roundg g
        case measure => omega
        case rel => exact ⟨j + 1, by have := HJN.out; omega, by go_num, HM2.out, HB1.out⟩
    | zero =>
      have hjz : ¬ ((j : Int) < (n : Int)) := by omega
      have HA : Hid (Apart (rs.map Rw.p) (us.map Rw.p)) := Lib.hid (fun p hp => by
        obtain ⟨i, hi, rfl⟩ := List.getElem_of_mem hp
        rw [List.length_map] at hi
        rw [List.getElem_map]
        exact HAP.out i hi (by have := HN.out; have := HJN.out; omega))
      clear hjg
      obtain ⟨wA, hwA⟩ : ∃ x, x = wr := ⟨_, rfl⟩
      subst hwA
      go_wp2_with fail
      go_loopg [8] 8 (fun g v8 wx => ∃ k : Nat, k + g = 8 ∧ v8 = .int .i64 k ∧ (∀ i : Nat, i < k → cnt (rs.map Rw.p) (i : Int) + cnt (us.map Rw.p) (i : Int) ≤ 40) ∧ Below w.heap.size w wx)
      case atStart => exact ⟨0, by omega, rfl, fun i hi => by omega, HB.out⟩
      case round =>
        rename World => wx
        obtain ⟨k, hkg, rfl, hall, hb⟩ := hrel
        have HALL := Lib.hid hall
        have HB := Lib.hid hb
        have HKG := Lib.hid hkg
        clear hall hb
        cases gk with
        | succ g =>
          have hkz : (k : Int) < 8 := by omega
          have HMA := Lib.hid (many_any (HH.out.below HB.out) HG.out (k : Int))
          have HMB := Lib.hid (fun (w' : World) (hb : Below w.heap.size w w') => many_any (HU.out.below hb) HGU.out (k : Int))
          have hca := HG.out.full (k : Int)
          have hcb := HGU.out.full (k : Int)
          have HFU : Hid (40 < cnt (rs.map Rw.p) (k : Int) + cnt (us.map Rw.p) (k : Int) → ∀ w', Below w.heap.size w w' → RJoinPost w r (rs.map Rw.p) (us.map Rw.p) (.returned (.int .i64 7)) w') := Lib.hid (fun e w' hb => rjoin_same HH.out HG.out (join_full HA.out (by have := HKG.out; omega) e) hb)
          have HMO : Hid (cnt (rs.map Rw.p) (k : Int) + cnt (us.map Rw.p) (k : Int) ≤ 40 → ∀ i : Nat, i < k + 1 → cnt (rs.map Rw.p) (i : Int) + cnt (us.map Rw.p) (i : Int) ≤ 40) := Lib.hid (fun e i hi => by
            rcases Nat.lt_or_ge i k with h1 | h1
            · exact HALL.out i h1
            · obtain rfl : i = k := by omega
              exact e)
          obtain ⟨ca, hca2⟩ : ∃ c, cnt (rs.map Rw.p) (k : Int) = c := ⟨_, rfl⟩
          obtain ⟨cb, hcb2⟩ : ∃ c, cnt (us.map Rw.p) (k : Int) = c := ⟨_, rfl⟩
          rw [hca2] at HMA hca HFU HMO
          rw [hcb2] at hcb HFU HMO
          simp only [hcb2] at HMB
          clear hca2 hcb2 hkg
          by_cases h40 : 40 < ca + cb
          · have h40i : (40 : Int) < (ca : Int) + (cb : Int) := by omega
            have HF := Lib.hid (HFU.out h40)
            clear h40
            go_wp2_with fail
            refine HMA.out.mono ?_
            rintro e w1 ⟨rfl, hb1⟩
            have HB1 := Lib.hid (below_on' HB.out hb1)
            clear hb1
            go_wp2_with fail
            refine (HMB.out _ HB1.out).mono ?_
            rintro e w2 ⟨rfl, hb2⟩
            have HB2 := Lib.hid (below_on' HB1.out hb2)
            clear hb2
            go_wp2_with fail
            try rw [Exit.noGoto_ret]
            go_ret
            exact HF.out _ HB2.out
          · have h40i : ¬ ((40 : Int) < (ca : Int) + (cb : Int)) := by omega
            have HM2 := Lib.hid (HMO.out (by omega))
            clear h40
            go_wp2_with fail
            refine HMA.out.mono ?_
            rintro e w1 ⟨rfl, hb1⟩
            have HB1 := Lib.hid (below_on' HB.out hb1)
            clear hb1
            go_wp2_with fail
            refine (HMB.out _ HB1.out).mono ?_
            rintro e w2 ⟨rfl, hb2⟩
            have HB2 := Lib.hid (below_on' HB1.out hb2)
            clear hb2
            go_wp2_with fail
            go_roundg g
            case measure => omega
            case rel => exact ⟨k + 1, by have := HKG.out; omega, by go_num, HM2.out, HB2.out⟩
        | zero =>
          have hkz : ¬ ((k : Int) < 8) := by omega
          have HC8 : Hid (∀ g : Nat, g < 8 → cnt (rs.map Rw.p) (g : Int) + cnt (us.map Rw.p) (g : Int) ≤ 40) := Lib.hid (fun g hg => HALL.out g (by have := HKG.out; omega))
          have HOK := Lib.hid (join_ok HA.out HC8.out)
          have HR0 : Hid (IsRef wx r (joinL (rs.map Rw.p) ((us.map Rw.p).take 0))) := Lib.hid ⟨HG.out, rs, rfl, HH.out.below HB.out⟩
          clear hkg
          obtain ⟨wB, hwB⟩ : ∃ x, x = wx := ⟨_, rfl⟩
          subst hwB
          go_wp2_with fail
          go_loopg [9] n (fun g v9 wr => ∃ j : Nat, j + g = n ∧ v9 = .int .i64 j ∧ IsRef wr r (joinL (rs.map Rw.p) ((us.map Rw.p).take j)) ∧ Only (· = r) w wr)
          case atStart => exact ⟨0, by omega, rfl, HR0.out, .of_below HB.out⟩
          case round =>
            rename World => wr
            obtain ⟨j, hjg, rfl, hrf, hon⟩ := hrel
            have HRF := Lib.hid hrf
            have HON := Lib.hid hon
            have HJN := Lib.hid hjg
            have hqe := hon.block q HU.out.lt HNE.out
            have hc : wr.cell? ⟨q, 0, none⟩ = some (.slice a0 n c1) := by rw [World.cell?_of_block (w := w) (a := ⟨q, 0, none⟩) hqe]; exact HC0.out
            have HS2 := Lib.hid (HS.out.keep (.of_only hon (fun g cur fr hg he => by rw [hg, HHR.out] at he; cases he)))
            have HR22 : Hid (Rows2 w wr) := Lib.hid (.of_only hon (fun g cur fr hg he => by rw [hg, HHR.out] at he; cases he))
            clear hrf hon hqe
            cases gk with
            | zero =>
              have hjz : ¬ ((j : Int) < (n : Int)) := by omega
              have HF : Hid (RJoinPost w r (rs.map Rw.p) (us.map Rw.p) (.returned (.int .i64 0)) wr) := Lib.hid (by
                unfold RJoinPost
                rw [HOK.out]
                refine ⟨rfl, ?_, HON.out⟩
                have := HRF.out
                rwa [List.take_of_length_le (by rw [List.length_map]; have := HN.out; have := HJN.out; omega)] at this)
              clear hjg
              go_wp2_with fail
              go_ret
              exact HF.out
            | succ g =>
              have hjn : j < us.length := by have := HN.out; omega
              have hjz : (j : Int) < (n : Int) := by omega
              have hj0 : (0 : Int) ≤ (j : Int) := by omega
              obtain ⟨gb, o, c2, hv2, e1, e2, e3⟩ := HS2.out.at hjn
              rw [HN.out] at hv2
              rw [HV.out] at hv2
              obtain ⟨rfl, rfl⟩ : a0 = some ⟨gb, o, none⟩ ∧ c1 = c2 := by injection hv2 with h1 h2 h3; exact ⟨h1, h3⟩
              obtain ⟨hjU, hUj⟩ := HUL.out j hjn
              have hrm := room_step HG.out HGU.out HA.out HC8.out hjU
              have hfi := HGU.out.cell _ (List.getElem_mem hjU)
              rw [hUj] at hrm hfi
              have HKJ := Lib.hid (HKF.out j hjn)
              have HNA := Lib.hid ((HNAS.out _ (List.getElem_mem hjn)).keep HR22.out)
              obtain ⟨y, hy⟩ : ∃ y, us[j] = y := ⟨_, rfl⟩
              rw [hy] at e1 e2 e3 hrm hfi HKJ HNA
              obtain ⟨key, x, va, ns, vc⟩ := y
              simp only [Rw.p] at hrm hfi
              dsimp only at e1 e2 e3 HKJ HNA
              have hck := e1
              have hld : wr.rangeAt gb (o + j * 3 + 1) [.int .i64 x, .slice va ns.length vc] := fun j u hj => by
                match j, hj with
                | 0, hj => simp at hj; subst hj; exact e2
                | 1, hj => simp at hj; subst hj; exact e3
              obtain ⟨vn, hvn⟩ : ∃ l, ns.length = l := ⟨_, rfl⟩
              have HPUT : Hid (Calls Try.prog 23 #[.pointer (some ⟨r, 0, none⟩), .int .i64 key, .agg #[.int .i64 x, .slice va vn vc]] wr.drew (RPutPost wr.drew r (joinL (rs.map Rw.p) ((us.map Rw.p).take j)) key (x, ns))) := Lib.hid (by
                obtain ⟨hgr, rs2, hrs2, hr2⟩ := (show IsRef wr.drew r (joinL (rs.map Rw.p) ((us.map Rw.p).take j)) from HRF.out.below ((below_drewN wr 1)))
                rw [← hrs2] at hgr ⊢
                exact rput_any hr2 hgr HKJ.out hfi.acc hfi.all hvn (show Sl wr.drew va vc ns from HNA.out.sl.below (below_drewN wr 1)))
              have HRM : Hid ((putO (joinL (rs.map Rw.p) ((us.map Rw.p).take j)) key (x, ns)).2 = joinL (rs.map Rw.p) ((us.map Rw.p).take (j + 1))) := Lib.hid (by rw [hrm])
              rw [hvn] at hld
              have HLD := Lib.hid hld
              clear hld hvn hrm hfi hy e1 e2 e3 hv2 hjU hUj hjn hjg
              go_wp2_with fail
              refine dsk.wp_region_peel2 (by kernel_rfl) (by simp only [List.dropLast_cons_cons, List.dropLast_singleton]; exact rfl) rfl (by kernel_rfl) ?_
              refine wpAny_of_held (S := fun w' => w'.cell? ⟨q, 0, none⟩ = some (.slice (some ⟨gb, o, none⟩) n c1) ∧ w'.cell? ⟨gb, o + j * 3, none⟩ = some (.int .i64 key) ∧ w'.rangeAt gb (o + j * 3 + 1) [.int .i64 x, .slice va vn vc]) _ _ _ _ ?_
              have hHeld := (show wr.drew.cell? ⟨q, 0, none⟩ = some (.slice (some ⟨gb, o, none⟩) n c1) ∧ wr.drew.cell? ⟨gb, o + j * 3, none⟩ = some (.int .i64 key) ∧ wr.drew.rangeAt gb (o + j * 3 + 1) [.int .i64 x, .slice va vn vc] from ⟨hc, hck, HLD.out⟩)
              refine wpAnyH_take (i := 0) (v := ?v1) rfl (by kernel_rfl) (by kernel_rfl) (by kernel_rfl) (fun _ _ _ h => h) (Or.inl ⟨by rfl, ?hy1⟩) (by assumption) ?rest1
              case hy1 => (intro w0 hSw; (try dsimp only at hSw); go_simp; try with_reducible rfl)
              try simp only [Act.put, List.getElem_toArray, List.getElem_cons_zero, List.getElem_cons_succ, List.setIfInBounds_toArray, List.set_cons_zero, List.set_cons_succ]
              refine wpAnyH_take (i := 1) (v := ?v2) rfl (by kernel_rfl) (by kernel_rfl) (by kernel_rfl) (fun _ _ _ h => h) (Or.inl ⟨by rfl, ?hy2⟩) (by assumption) ?rest2
              case hy2 => (intro w0 hSw; (try dsimp only at hSw); go_simp; try with_reducible rfl)
              try simp only [Act.put, List.getElem_toArray, List.getElem_cons_zero, List.getElem_cons_succ, List.setIfInBounds_toArray, List.set_cons_zero, List.set_cons_succ]
              refine wpAnyH_take (i := 2) (v := ?v3) rfl (by kernel_rfl) (by kernel_rfl) (by kernel_rfl) (fun _ _ _ h => h) (Or.inl ⟨by rfl, ?hy3⟩) (by assumption) ?rest3
              case hy3 => (intro w0 hSw; (try dsimp only at hSw); go_simp; try with_reducible rfl)
              try simp only [Act.put, List.getElem_toArray, List.getElem_cons_zero, List.getElem_cons_succ, List.setIfInBounds_toArray, List.set_cons_zero, List.set_cons_succ]
              refine wpAnyH_take (i := 3) (v := ?v4) rfl (by kernel_rfl) (by kernel_rfl) (by kernel_rfl) (fun _ _ _ h => h) (Or.inl ⟨by rfl, ?hy4⟩) (by assumption) ?rest4
              case hy4 => (intro w0 hSw; (try dsimp only at hSw); go_simp; try with_reducible rfl)
              try simp only [Act.put, List.getElem_toArray, List.getElem_cons_zero, List.getElem_cons_succ, List.setIfInBounds_toArray, List.set_cons_zero, List.set_cons_succ]
              refine wpAnyH_take (i := 4) (v := ?v5) rfl (by kernel_rfl) (by kernel_rfl) (by kernel_rfl) (fun _ _ _ h => h) (Or.inl ⟨by rfl, ?hy5⟩) (by assumption) ?rest5
              case hy5 => (intro w0 hSw; (try dsimp only at hSw); go_simp; try with_reducible rfl)
              try simp only [Act.put, List.getElem_toArray, List.getElem_cons_zero, List.getElem_cons_succ, List.setIfInBounds_toArray, List.set_cons_zero, List.set_cons_succ]
              refine wpAnyH_take (i := 5) (v := ?v6) rfl (by kernel_rfl) (by kernel_rfl) (by kernel_rfl) (fun _ _ _ h => h) (Or.inl ⟨by rfl, ?hy6⟩) (by assumption) ?rest6
              case hy6 => (intro w0 hSw; (try dsimp only at hSw); go_simp; try with_reducible rfl)
              try simp only [Act.put, List.getElem_toArray, List.getElem_cons_zero, List.getElem_cons_succ, List.setIfInBounds_toArray, List.set_cons_zero, List.set_cons_succ]
              refine wpAnyH_take (i := 6) (v := ?v7) rfl (by kernel_rfl) (by kernel_rfl) (by kernel_rfl) (fun _ _ _ h => h) (Or.inl ⟨by rfl, ?hy7⟩) (by assumption) ?rest7
              case hy7 => (intro w0 hSw; (try dsimp only at hSw); go_simp; try with_reducible rfl)
              try simp only [Act.put, List.getElem_toArray, List.getElem_cons_zero, List.getElem_cons_succ, List.setIfInBounds_toArray, List.set_cons_zero, List.set_cons_succ]
              refine wpAnyH_take (i := 7) (v := ?v8) rfl (by kernel_rfl) (by kernel_rfl) (by kernel_rfl) (fun _ _ _ h => h) (Or.inl ⟨by rfl, ?hy8⟩) (by assumption) ?rest8
              case hy8 => (intro w0 hSw; (try dsimp only at hSw); go_simp; try with_reducible rfl)
              try simp only [Act.put, List.getElem_toArray, List.getElem_cons_zero, List.getElem_cons_succ, List.setIfInBounds_toArray, List.set_cons_zero, List.set_cons_succ]
              refine wpAnyH_take (i := 8) (v := ?v9) rfl (by kernel_rfl) (by kernel_rfl) (by kernel_rfl) (fun _ _ _ h => h) (Or.inl ⟨by rfl, ?hy9⟩) (by assumption) ?rest9
              case hy9 => (intro w0 hSw; (try dsimp only at hSw); go_simp; try with_reducible rfl)
              try simp only [Act.put, List.getElem_toArray, List.getElem_cons_zero, List.getElem_cons_succ, List.setIfInBounds_toArray, List.set_cons_zero, List.set_cons_succ]
              refine wpAnyH_take (i := 9) (v := ?v10) rfl (by kernel_rfl) (by kernel_rfl) (by kernel_rfl) (fun _ _ _ h => h) (Or.inl ⟨by rfl, ?hy10⟩) (by assumption) ?rest10
              case hy10 => (intro w0 hSw; (try dsimp only at hSw); go_simp; try with_reducible rfl)
              try simp only [Act.put, List.getElem_toArray, List.getElem_cons_zero, List.getElem_cons_succ, List.setIfInBounds_toArray, List.set_cons_zero, List.set_cons_succ]
              refine wpAnyH_take (i := 10) (v := ?v11) rfl (by kernel_rfl) (by kernel_rfl) (by kernel_rfl) (fun _ _ _ h => h) (Or.inl ⟨by rfl, ?hy11⟩) (by assumption) ?rest11
              case hy11 => (intro w0 hSw; (try dsimp only at hSw); go_simp; try with_reducible rfl)
              try simp only [Act.put, List.getElem_toArray, List.getElem_cons_zero, List.getElem_cons_succ, List.setIfInBounds_toArray, List.set_cons_zero, List.set_cons_succ]
              refine wpAnyH_take (i := 11) (v := ?v12) rfl (by kernel_rfl) (by kernel_rfl) (by kernel_rfl) (fun _ _ _ h => h) (Or.inl ⟨by rfl, ?hy12⟩) (by assumption) ?rest12
              case hy12 => (intro w0 hSw; (try dsimp only at hSw); go_simp; try with_reducible rfl)
              try simp only [Act.put, List.getElem_toArray, List.getElem_cons_zero, List.getElem_cons_succ, List.setIfInBounds_toArray, List.set_cons_zero, List.set_cons_succ]
              refine wpAnyH_take (i := 12) (v := ?v13) rfl (by kernel_rfl) (by kernel_rfl) (by kernel_rfl) (fun _ _ _ h => h) (Or.inl ⟨by rfl, ?hy13⟩) (by assumption) ?rest13
              case hy13 => (intro w0 hSw; (try dsimp only at hSw); go_simp; try with_reducible rfl)
              try simp only [Act.put, List.getElem_toArray, List.getElem_cons_zero, List.getElem_cons_succ, List.setIfInBounds_toArray, List.set_cons_zero, List.set_cons_succ]
              refine wpAnyH_take (i := 13) (v := ?v14) rfl (by kernel_rfl) (by kernel_rfl) (by kernel_rfl) (fun _ _ _ h => h) (Or.inl ⟨by rfl, ?hy14⟩) (by assumption) ?rest14
              case hy14 => (intro w0 hSw; (try dsimp only at hSw); go_simp; try with_reducible rfl)
              try simp only [Act.put, List.getElem_toArray, List.getElem_cons_zero, List.getElem_cons_succ, List.setIfInBounds_toArray, List.set_cons_zero, List.set_cons_succ]
              refine wpAnyH_take (i := 14) (v := ?v15) rfl (by kernel_rfl) (by kernel_rfl) (by kernel_rfl) (fun _ _ _ h => h) (Or.inl ⟨by rfl, ?hy15⟩) (by assumption) ?rest15
              case hy15 => (intro w0 hSw; (try dsimp only at hSw); go_simp; try with_reducible rfl)
              try simp only [Act.put, List.getElem_toArray, List.getElem_cons_zero, List.getElem_cons_succ, List.setIfInBounds_toArray, List.set_cons_zero, List.set_cons_succ]
              refine wpAnyH_take (i := 15) (v := ?v16) rfl (by kernel_rfl) (by kernel_rfl) (by kernel_rfl) (fun _ _ _ h => h) (Or.inl ⟨by rfl, ?hy16⟩) (by assumption) ?rest16
              case hy16 => (intro w0 hSw; (try dsimp only at hSw); go_simp; try with_reducible rfl)
              try simp only [Act.put, List.getElem_toArray, List.getElem_cons_zero, List.getElem_cons_succ, List.setIfInBounds_toArray, List.set_cons_zero, List.set_cons_succ]
              refine wpAnyH_take (i := 16) (v := .agg ([.int .i64 x, .slice va vn vc] : List Value).toArray) rfl (by kernel_rfl) (by kernel_rfl) (by kernel_rfl) (fun _ _ _ h => h) (yieldsIf_load_mid (by rfl) 32 (.tmp 69) rfl gb (o + j * 3 + 1) rfl [.int .i64 x, .slice va vn vc] _ (fun w0 hw0 => hw0.2.2) Try.underlying32 rfl (by kernel_rfl)) (by assumption) ?_
              try simp only [Act.put, List.getElem_toArray, List.getElem_cons_zero, List.getElem_cons_succ, List.setIfInBounds_toArray, List.set_cons_zero, List.set_cons_succ]
              refine wpAnyH_done (by kernel_rfl) ?_ _
              change wpList _ _ _ _ _ _
              clear hHeld
              go_wp2_with fail
              refine HPUT.out.mono ?_
              rintro e w2 ⟨rfl, hr2, ho2⟩
              have HR2 := Lib.hid hr2
              have HO2 : Hid (Only (· = r) w w2) := Lib.hid (HON.out.then ⟨ho2.os, ho2.tape, ho2.output, ho2.size, ho2.block⟩)
              rw [HRM.out] at HR2
              clear hr2 ho2
              go_wp2_with fail
              go_roundg g
              case measure => omega
              case rel => exact ⟨j + 1, by have := HJN.out; omega, by go_num, HR2.out, HO2.out⟩
end Go.Proofs.Ytghpbhcnblninaa.tbl
