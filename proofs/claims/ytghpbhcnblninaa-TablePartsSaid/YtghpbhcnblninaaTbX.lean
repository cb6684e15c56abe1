/- A table is the Join of what its groups have, however many share them. -/
import Derived.Test.YtghpbhcnblninaaTbW
namespace Go.Proofs.Ytghpbhcnblninaa.tbl
set_option linter.unusedSimpArgs false
set_option linter.unusedVariables false
open Go.RowKit
attribute [local go_sem ↓] Go.wp_at_zero Go.wp_at_succ
open Go.Proofs.Ytghpbhcnblninaa.grp (gof gof_in fits fits_wf IRow intV below_on' below_made ret_bool own_below irow_new below_drewN EqPost eq_yes eq_no mayB plc owns plO hasB mem_owns owns_any OwnPost own_irow owns_len place_any plO_in plc_yes may_four)
open Go.Proofs.Ytghpbhcnblninaa.byt (txt bl)
/-- What the first n places have. -/
def preL (par : Int) (n : Int) (L : Rows) : Rows := L.filter (fun p => decide (plc p.1 par < n))
theorem plc_in {par : Int} (h : mayB par = true) (k : Int) : 0 ≤ plc k par ∧ plc k par < par := by
  rw [plc_yes h]; exact plO_in (gof_in k).1 (gof_in k).2 h
theorem of_owns {par : Int} (h : mayB par = true) (z k : Int) : gof k ∈ owns z par ↔ plc k par = z := by
  rw [mem_owns, plc_yes h]
  have := gof_in k
  simp [hasB, h, this]
theorem look_pre (par n : Int) (L : Rows) (x : Int) : look (preL par n L) x = if plc x par < n then look L x else none := by
  have := look_filter L (fun k => decide (plc k par < n)) x
  unfold preL
  simpa using this
theorem pre_zero {par : Int} (h : mayB par = true) (L : Rows) : preL par 0 L = [] := by
  unfold preL
  rw [List.filter_eq_nil_iff]
  intro p hp
  have := (plc_in h p.1).1
  simp; omega
theorem pre_all {par : Int} (h : mayB par = true) (L : Rows) : preL par par L = L := by
  unfold preL
  rw [List.filter_eq_self]
  intro p hp
  simpa using (plc_in h p.1).2
theorem pre_good {par n : Int} {L : Rows} (h : Good L) : Good (preL par n L) := h.sub List.filter_sublist
theorem pre_join {par : Int} (h : mayB par = true) {L : Rows} (hL : Good L) (n : Int) : joinO (preL par n L) (ofL L (owns n par)) = (0, preL par (n + 1) L) := by
  have ha : Apart (preL par n L) (ofL L (owns n par)) := fun p hp => by
    have hp2 := (List.mem_filter.1 hp).2
    have := (of_owns h n p.1).1 (by simpa using hp2)
    rw [look_pre, if_neg (by omega)]
  have hj : joinL (preL par n L) (ofL L (owns n par)) = preL par (n + 1) L := by
    refine ord_ext (ord_join (pre_good hL).ord) (pre_good hL).ord (fun k => ?_)
    rw [look_join (hL.of _).ord, look_of, look_pre, look_pre]
    by_cases h1 : plc k par = n
    · rw [if_pos ((of_owns h n k).2 h1), if_neg (by omega), if_pos (by omega)]
      cases look L k <;> rfl
    · rw [if_neg (fun e => h1 ((of_owns h n k).1 e))]
      by_cases h2 : plc k par < n
      · rw [if_pos h2, if_pos (by omega)]; rfl
      · rw [if_neg h2, if_neg (by omega)]; rfl
  rw [join_ok ha (fun g hg => ?_), hj]
  rw [← cnt_join (pre_good hL).ord (hL.of _).ord ha, hj]
  exact (pre_good hL).full g
theorem may_of {par : Int} (h1 : 1 ≤ par) (h2 : par ≤ 4) : mayB par = true := by simp [mayB, h1, h2]
theorem join_at {w : World} {t b t2 b2 : Nat} {L U L' : Rows} {c : Int} (hO : joinO L U = (c, L')) (h : IsTab w t b L) (hU : IsTab w t2 b2 U) (hne : t2 ≠ t ∧ b2 ≠ b) :
    Calls Try.prog 20 #[.pointer (some ⟨t, 0, none⟩), .pointer (some ⟨t2, 0, none⟩)] w fun e w' => e = .returned (.int .i64 c) ∧ IsTab w' t b L' ∧ Only (Two t b) w w' := by
  refine (join_any h hU hne).mono ?_
  intro e w' hp
  unfold JoinPost at hp
  rw [hO] at hp
  exact hp
/-- Of what a place has. -/
theorem ofOwns_any {w : World} {t b : Nat} {L : Rows} (h : IsTab w t b L) {z par : Int} {v : Value} (hv : w.ownsRow 0 3 1 v (owns z par).length ((owns z par).map intV)) :
    Calls Try.prog 16 #[.pointer (some ⟨t, 0, none⟩), v] w fun e w' => ∃ t' b', e = .returned (.pointer (some ⟨t', 0, none⟩)) ∧ MadeT w.heap.size w w' t' b' (ofL L (owns z par)) :=
  of_any h (own_irow hv) (by have := owns_len z par; omega)
theorem new_ne {w w' : World} {t b t2 b2 : Nat} {L : Rows} (h : IsTab w t b L) (ht : w.heap.size ≤ t2) (hb : w.heap.size ≤ b2) : t2 ≠ t ∧ b2 ≠ b := by
  have := h.lt
  omega
set_option maxHeartbeats 6400000 in
set_option maxRecDepth 1000000 in
theorem law_parts (l : List Opn) (a : Option Addr) (cap : Nat) (par again : Int) (w : World) (hr : Ops w w.heap.size a l) (hl : l.length ≤ cap) (hc : cap ≤ maxLen) :
    Calls Try.prog 7 #[.slice a l.length cap, .int .i64 par, .int .i64 again] w fun e w' => e = .returned (.bool true) ∧ Below w.heap.size w w' := by
  have HH := Lib.hid (heavy_any l a cap w hr hl (by unfold maxLen at hc; omega))
  have HR := Lib.hid hr
  clear hr
  go_enter Try.func7, Try.ntmps7
  go_wp2_with fail
  refine HH.out.mono ?_
  rintro e w1 ⟨⟨hv, rfl, hn⟩, hb⟩
  have HB := Lib.hid hb
  have HN := Lib.hid hn
  have HR1 := Lib.hid (heavy_at (cap := cap) HR.out hb)
  clear hb hn
  cases hv with
  | true =>
    go_wp2_with fail
    refine (works_any _).mono ?_
    rintro e w2 ⟨rfl, hb⟩
    have HB := Lib.hid (below_on' HB.out hb)
    clear hb
    go_wp2_with fail
    go_ret
    exact ⟨rfl, HB.out⟩
  | false =>
    have HNV := Lib.hid (HN.out rfl)
    clear HN
    by_cases h1 : par < 1
    · go_wp2_with fail
      refine (works_any _).mono ?_
      rintro e w2 ⟨rfl, hb⟩
      have HB := Lib.hid (below_on' HB.out hb)
      clear hb
      go_wp2_with fail
      go_ret
      exact ⟨rfl, HB.out⟩
    by_cases h2 : 4 < par
    · go_wp2_with fail
      refine (works_any _).mono ?_
      rintro e w2 ⟨rfl, hb⟩
      have HB := Lib.hid (below_on' HB.out hb)
      clear hb
      go_wp2_with fail
      go_ret
      exact ⟨rfl, HB.out⟩
    by_cases h3 : again < 1
    · go_wp2_with fail
      refine (works_any _).mono ?_
      rintro e w2 ⟨rfl, hb⟩
      have HB := Lib.hid (below_on' HB.out hb)
      clear hb
      go_wp2_with fail
      go_ret
      exact ⟨rfl, HB.out⟩
    by_cases h4 : 4 < again
    · go_wp2_with fail
      refine (works_any _).mono ?_
      rintro e w2 ⟨rfl, hb⟩
      have HB := Lib.hid (below_on' HB.out hb)
      clear hb
      go_wp2_with fail
      go_ret
      exact ⟨rfl, HB.out⟩
    have HM1 := Lib.hid (may_of (par := par) (by omega) (by omega))
    have HM2 := Lib.hid (may_of (par := again) (by omega) (by omega))
    obtain ⟨p, rfl⟩ : ∃ p : Nat, par = (p : Int) := ⟨par.toNat, by omega⟩
    obtain ⟨q, rfl⟩ : ∃ q : Nat, again = (q : Int) := ⟨again.toNat, by omega⟩
    go_wp2_with fail
    clear h1 h2 h3 h4
    refine (made_any l a cap w1 HR1.out hl HNV.out).mono ?_
    obtain ⟨L, hL⟩ : ∃ L, madeO [] l = L := ⟨_, rfl⟩
    rw [hL]
    rintro e w2 ⟨t, b, rfl, ht, hwt, hwb, hb⟩
    have HT := Lib.hid ht
    have HB := Lib.hid (below_on' HB.out hb)
    have HG := Lib.hid ht.good
    clear hb ht hL
    go_wp2_with fail
    refine (new_any w2).mono ?_
    rintro e w3 ⟨t3, b3, rfl, ht3, hwt3, hwb3, hb⟩
    have HTB := HT
    have HT := Lib.hid (HT.out.below hb)
    have HT3 := Lib.hid ht3
    have HB3 := Lib.hid (below_on' HB.out hb)
    have HNE := Lib.hid (⟨by have := HB.out.size; omega, by have := HB.out.size; omega⟩ : w.heap.size ≤ t3 ∧ w.heap.size ≤ b3)
    have HNE2 := Lib.hid (new_ne (w' := w3) HTB.out hwt3 hwb3)
    clear hb ht3 hwt hwb hwt3 hwb3
    go_wp2_with fail
    go_loopg [38] p (fun g v38 wr => ∃ k : Nat, k + g = p ∧ v38 = .int .i64 k ∧ IsTab wr t b L ∧ IsTab wr t3 b3 (preL p k L) ∧ Below w.heap.size w wr)
    case atStart => exact ⟨0, by omega, rfl, HT.out, by rw [show ((0 : Nat) : Int) = 0 from rfl, pre_zero HM1.out]; exact HT3.out, HB3.out⟩
    case round =>
      obtain ⟨k, hkg, rfl, ht, ht3, hb⟩ := hrel
      have HTk := Lib.hid ht
      have HT3k := Lib.hid ht3
      have HBk := Lib.hid hb
      have HKG := Lib.hid hkg
      clear ht ht3 hb
      cases gk with
      | succ g =>
        have hlt : (k : Int) < (p : Int) := by omega
        have HPJ := Lib.hid (pre_join HM1.out HG.out (k : Int))
        clear hkg
        go_wp2_with fail
        refine (owns_any (k : Int) (p : Int) wr).mono ?_
        rintro e w5 ⟨v, rfl, hv, hb⟩
        have HTk := Lib.hid (HTk.out.below hb)
        have HT3k := Lib.hid (HT3k.out.below hb)
        have HBk := Lib.hid (below_on' HBk.out hb)
        have HV := Lib.hid (own_le hv (Nat.zero_le _))
        clear hb hv
        go_wp2_with fail
        refine (ofOwns_any HTk.out HV.out).mono ?_
        rintro e w6 ⟨t4, b4, rfl, ht4, hwt4, hwb4, hb⟩
        have HNE4 := Lib.hid (new_ne (w' := w6) HT3k.out hwt4 hwb4)
        have HTk := Lib.hid (HTk.out.below hb)
        have HT3k := Lib.hid (HT3k.out.below hb)
        have HBk := Lib.hid (below_on' HBk.out hb)
        have HT4 := Lib.hid ht4
        clear hb ht4 hwt4 hwb4
        go_wp2_with fail
        refine (keys_any HT4.out).mono ?_
        rintro e w7 ⟨ka, kc, rfl, hna, hb⟩
        have HTk := Lib.hid (HTk.out.below hb)
        have HT3k := Lib.hid (HT3k.out.below hb)
        have HBk := Lib.hid (below_on' HBk.out hb)
        have HT4 := Lib.hid (HT4.out.below hb)
        have HNA := Lib.hid hna.sl
        clear hb hna
        obtain ⟨U, hU⟩ : ∃ U, ofL L (owns (k : Int) (p : Int)) = U := ⟨_, rfl⟩
        have HPL : Hid (∀ j (h : j < U.length), fits U[j].1 ∧ plc U[j].1 p = k) := Lib.hid (fun j hj => by
          have hm : U[j] ∈ ofL L (owns (k : Int) (p : Int)) := by rw [hU]; exact List.getElem_mem hj
          exact ⟨(HG.out.of _).key _ hm, (of_owns HM1.out _ _).1 (by simpa using (List.mem_filter.1 hm).2)⟩)
        rw [hU] at HPJ HT4 HNA ⊢
        have h320 := HT4.out.good.len
        clear hU
        obtain ⟨n4, hn4⟩ : ∃ n, U.length = n := ⟨_, rfl⟩
        have HN4 := Lib.hid hn4
        rw [hn4] at h320 ⊢
        clear hn4
        go_wp2_with fail
        go_loopg [49] n4 (fun g v49 wr => ∃ j : Nat, j + g = n4 ∧ v49 = .int .i64 j ∧ wr = w7)
        case atStart => exact ⟨0, by omega, rfl, rfl⟩
        case round =>
          obtain ⟨j, hjg, rfl, rfl⟩ := hrel
          cases gk with
          | succ g =>
            have hlt2 : (j : Int) < (n4 : Int) := by omega
            have hj0 : (0 : Int) ≤ (j : Int) := by omega
            have hjU : j < U.length := by rw [HN4.out]; omega
            obtain ⟨gb, o, rfl, hgl, hgc⟩ := HNA.out.2 (by rw [List.length_map]; omega)
            have hck := hgc j (by rw [List.length_map]; exact hjU)
            rw [List.getElem_map] at hck
            have HPK := Lib.hid (place_any U[j].1 (p : Int) wr (HPL.out j hjU).1)
            rw [(HPL.out j hjU).2] at HPK
            obtain ⟨x, hx⟩ : ∃ x, U[j].1 = x := ⟨_, rfl⟩
            rw [hx] at hck HPK
            clear hx hgc hjU
            go_wp2_with fail
            refine HPK.out.mono ?_
            rintro e w8 ⟨rfl, rfl⟩
            go_wp2_with fail
            go_roundg g
            case measure => omega
            case rel => exact ⟨j + 1, by omega, by go_num, rfl⟩
          | zero =>
            have hlt2 : ¬ ((j : Int) < (n4 : Int)) := by omega
            go_wp2_with fail
            refine (join_at HPJ.out HT3k.out HT4.out HNE4.out).mono ?_
            rintro e w9 ⟨rfl, ht3, ho⟩
            have HTk := Lib.hid (HT3k.out.other HTk.out ho ⟨HNE2.out.1.symm, HNE2.out.2.symm⟩)
            have HT3k := Lib.hid ht3
            have HBk := Lib.hid (below_only HBk.out ho HNE.out.1 HNE.out.2)
            clear ht3 ho
            go_wp2_with fail
            go_roundg g
            case measure => omega
            case rel => exact ⟨k + 1, by have := HKG.out; omega, by go_num, HTk.out, HT3k.out, HBk.out⟩
      | zero =>
        obtain rfl : k = p := by omega
        rw [pre_all HM1.out] at HT3k
        clear hkg
        go_wp2_with fail
        go_loopg [65] q (fun g v65 wr => ∃ k : Nat, k + g = q ∧ v65 = .int .i64 k ∧ IsTab wr t b L ∧ IsTab wr t3 b3 L ∧ Below w.heap.size w wr)
        case atStart => exact ⟨0, by omega, rfl, HTk.out, HT3k.out, HBk.out⟩
        case round =>
          obtain ⟨j, hjg, rfl, ht, ht3, hb⟩ := hrel
          have HTk := Lib.hid ht
          have HT3k := Lib.hid ht3
          have HBk := Lib.hid hb
          clear ht ht3 hb
          obtain ⟨T, hT⟩ : ∃ T, tabB (ofL L (owns (j : Int) (q : Int))) = T := ⟨_, rfl⟩
          have HTS := Lib.hid hT
          clear hT
          cases gk with
          | succ g =>
            have hlt2 : (j : Int) < (q : Int) := by omega
            go_wp2_with fail
            refine (owns_any (j : Int) (q : Int) wr).mono ?_
            rintro e w5 ⟨v, rfl, hv, hb⟩
            have HTk := Lib.hid (HTk.out.below hb)
            have HT3k := Lib.hid (HT3k.out.below hb)
            have HBk := Lib.hid (below_on' HBk.out hb)
            have HV := Lib.hid (own_le hv (Nat.zero_le _))
            clear hb hv
            go_wp2_with fail
            refine (ofOwns_any HT3k.out HV.out).mono ?_
            rintro e w6 ⟨t4, b4, rfl, ht4, -, -, hb⟩
            have HTk := Lib.hid (HTk.out.below hb)
            have HT3k := Lib.hid (HT3k.out.below hb)
            have HBk := Lib.hid (below_on' HBk.out hb)
            have HT4 := Lib.hid ht4
            clear hb ht4
            go_wp2_with fail
            refine (bytes_at HTS.out HT4.out).mono ?_
            rintro e w7 ⟨rfl, hb⟩
            have HTk := Lib.hid (HTk.out.below hb)
            have HT3k := Lib.hid (HT3k.out.below hb)
            have HBk := Lib.hid (below_on' HBk.out hb)
            clear hb
            go_wp2_with fail
            refine (owns_any (j : Int) (q : Int) w7).mono ?_
            rintro e w8 ⟨v2, rfl, hv, hb⟩
            have HTk := Lib.hid (HTk.out.below hb)
            have HT3k := Lib.hid (HT3k.out.below hb)
            have HBk := Lib.hid (below_on' HBk.out hb)
            have HV := Lib.hid (own_le hv (Nat.zero_le _))
            clear hb hv
            go_wp2_with fail
            refine (ofOwns_any HTk.out HV.out).mono ?_
            rintro e w9 ⟨t5, b5, rfl, ht4, -, -, hb⟩
            have HTk := Lib.hid (HTk.out.below hb)
            have HT3k := Lib.hid (HT3k.out.below hb)
            have HBk := Lib.hid (below_on' HBk.out hb)
            have HT4 := Lib.hid ht4
            clear hb ht4
            go_wp2_with fail
            refine (bytes_at HTS.out HT4.out).mono ?_
            rintro e w10 ⟨rfl, hb⟩
            have HTk := Lib.hid (HTk.out.below hb)
            have HT3k := Lib.hid (HT3k.out.below hb)
            have HBk := Lib.hid (below_on' HBk.out hb)
            clear hb
            go_wp2_with fail
            go_roundg g
            case measure => omega
            case rel => exact ⟨j + 1, by omega, by go_num, HTk.out, HT3k.out, HBk.out⟩
          | zero =>
            have hlt2 : ¬ ((j : Int) < (q : Int)) := by omega
            obtain ⟨T2, hT2⟩ : ∃ T, tabB L = T := ⟨_, rfl⟩
            have HTS2 := Lib.hid hT2
            clear hT2
            go_wp2_with fail
            refine (bytes_at HTS2.out HT3k.out).mono ?_
            rintro e w7 ⟨rfl, hb⟩
            have HTk := Lib.hid (HTk.out.below hb)
            have HT3k := Lib.hid (HT3k.out.below hb)
            have HBk := Lib.hid (below_on' HBk.out hb)
            clear hb
            go_wp2_with fail
            refine (bytes_at HTS2.out HTk.out).mono ?_
            rintro e w8 ⟨rfl, hb⟩
            have HTk := Lib.hid (HTk.out.below hb)
            have HT3k := Lib.hid (HT3k.out.below hb)
            have HBk := Lib.hid (below_on' HBk.out hb)
            clear hb
            go_wp2_with fail
            refine (works_any _).mono ?_
            rintro e w9 ⟨rfl, hb⟩
            have HBk := Lib.hid (below_on' HBk.out hb)
            clear hb
            go_wp2_with fail
            go_ret
            exact ⟨rfl, HBk.out⟩
end Go.Proofs.Ytghpbhcnblninaa.tbl
