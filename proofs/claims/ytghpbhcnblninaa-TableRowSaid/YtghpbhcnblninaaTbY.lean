/- What was put last of a key is there, what was dropped is not; keys come in order. -/
import Derived.Test.YtghpbhcnblninaaTbX
import Derived.Test.YtghpbhcnblninaaTbN
namespace Go.Proofs.Ytghpbhcnblninaa.tbl
set_option linter.unusedSimpArgs false
set_option linter.unusedVariables false
open Go.RowKit
attribute [local go_sem ↓] Go.wp_at_zero Go.wp_at_succ
open Go.Proofs.Ytghpbhcnblninaa.grp (gof gof_in fits fits_wf IRow intV below_on' below_made ret_bool own_below irow_new below_drewN EqPost eq_yes eq_no)
open Go.Proofs.Ytghpbhcnblninaa.byt (txt bl)
def RowRel (w wr : World) (t b m : Nat) : Prop := ∃ L, IsTab wr t b L ∧ AccM wr m L ∧ Below w.heap.size w wr
theorem below_grown {w0 w w' : World} {m : Nat} (h : Below w0.heap.size w0 w) (hg : w.grownBy w' (some m)) (hm : w0.heap.size ≤ m) : Below w0.heap.size w0 w' :=
  h.trans ⟨hg.os, hg.tape, hg.output, hg.size, fun k hk => hg.block k (Nat.lt_of_lt_of_le hk h.size) (fun e => by have := Option.some.inj e; omega)⟩
theorem IsTab.grown {w w' : World} {t b m : Nat} {L U : Rows} (h : IsTab w t b L) (hm : AccM w m U) (hne : m ≠ b) (hg : w.grownBy w' (some m)) : IsTab w' t b L := by
  obtain ⟨es, ck, h1⟩ := hm.isMap
  refine h.keep (hg.block t h.lt.1 (fun e => ?_)) (hg.block b h.lt.2.1 (fun e => hne (Option.some.inj e).symm)) (rows_setBlock h1 hg)
  have := h.obj; unfold TabO at this; rw [Option.some.inj e, h1] at this; cases this
theorem put_cases (L : Rows) (k acc : Int) : putO L k (acc, []) = (7, L) ∨ putO L k (acc, []) = (0, putL L k (acc, [])) := by
  unfold putO
  rw [if_neg (by simp)]
  split
  · exact .inl rfl
  · exact .inr rfl
set_option maxHeartbeats 6400000 in
set_option maxRecDepth 1000000 in
theorem law_row (l : List Opn) (a : Option Addr) (cap : Nat) (w : World) (hr : Ops w w.heap.size a l) (hl : l.length ≤ cap) (hc : cap ≤ maxLen) :
    Calls Try.prog 9 #[.slice a l.length cap] w fun e w' => e = .returned (.bool true) ∧ Below w.heap.size w w' := by
  have HH := Lib.hid (heavy_any l a cap w hr hl (by unfold maxLen at hc; omega))
  have HR := Lib.hid hr
  have hmm := @run_makeMap Try.prog
  clear hr
  go_enter Try.func9, Try.ntmps9
  go_wp2_with fail
  refine HH.out.mono ?_
  rintro e w1 ⟨⟨hv, rfl, hn⟩, hb⟩
  have HB := Lib.hid hb
  have HN := Lib.hid hn
  clear hb hn
  cases hv with
  | true =>
    go_wp2_with fail
    refine (works_any _).mono ?_
    rintro e w2 ⟨rfl, hb⟩
    have HB := Lib.hid (below_on' HB.out hb)
    clear hb
    go_wp2_with fail
    go_ret
    exact ⟨rfl, HB.out⟩
  | false =>
    have HNV := Lib.hid (HN.out rfl)
    have h300 := HNV.out.1
    clear HN
    go_wp2_with fail
    refine (new_any w1).mono ?_
    rintro e w2 ⟨t, b, rfl, ht, hwt, hwb, hb⟩
    have HTL := Lib.hid ht.lt
    have HWS := Lib.hid HB.out.size
    have HT := Lib.hid ht
    have HB := Lib.hid (below_on' HB.out hb)
    clear hb ht
    obtain ⟨m, hm⟩ : ∃ m, w2.heap.size = m := ⟨_, rfl⟩
    have hb3 := below_made w2 (.map #[] 0)
    have HT3 := Lib.hid (HT.out.below hb3)
    have HB3 := Lib.hid (below_on' HB.out hb3)
    have HA3 := Lib.hid (AccM.made w2)
    rw [hm] at HA3
    have hmb : m ≠ b := by have := HTL.out; omega
    have hwm : w.heap.size ≤ m := by rw [← hm]; exact HB.out.size
    have hwt' : w.heap.size ≤ t := Nat.le_trans HWS.out hwt
    have hwb' : w.heap.size ≤ b := Nat.le_trans HWS.out hwb
    clear hb3 hwt hwb
    go_wp2_with fail
    try rw [hm]
    go_loopg [23] l.length (fun g v23 wr => ∃ k : Nat, k + g = l.length ∧ v23 = .int .i64 k ∧ RowRel w wr t b m)
    case atStart => exact ⟨0, by omega, rfl, [], HT3.out, HA3.out, HB3.out⟩
    case round =>
      obtain ⟨k, hkg, rfl, L, ht, ha, hb⟩ := hrel
      cases gk with
      | succ g =>
        have hlt : k < l.length := by omega
        obtain ⟨b0, o, rfl, hbl, hcs⟩ := HR.out.1 (by rintro rfl; simp at hlt)
        have hpm := HR.out.2 _ (getD_mem hlt)
        obtain ⟨p, ep⟩ : ∃ p, l.getD k noOp = p := ⟨_, rfl⟩
        rw [ep] at hpm
        have hck : wr.rangeAt b0 (o + k * 4) p.cells := by
          intro j v hv
          rw [← ep] at hv
          exact (hb.cell (p := ⟨b0, o + k * 4 + j, none⟩) hbl).trans (hcs k hlt j v hv)
        have HF := Lib.hid hpm.2
        obtain ⟨kd, hkd⟩ : ∃ x, p.kind = x := ⟨_, rfl⟩
        obtain ⟨key, hkey⟩ : ∃ x, p.key = x := ⟨_, rfl⟩
        obtain ⟨acc, hacc⟩ : ∃ x, p.acc = x := ⟨_, rfl⟩
        have HKF : Hid (fits key) := Lib.hid (by rw [← hkey]; exact HF.out.2.1)
        have HAF : Hid (fits acc) := Lib.hid (by rw [← hacc]; exact HF.out.2.2.1)
        have HC := Lib.hid hck
        unfold Opn.cells at HC
        obtain ⟨pa, hpa⟩ : ∃ x, p.a = x := ⟨_, rfl⟩
        obtain ⟨pn, hpn⟩ : ∃ x, p.ns.length = x := ⟨_, rfl⟩
        obtain ⟨pc, hpc⟩ : ∃ x, p.cap = x := ⟨_, rfl⟩
        rw [hkd, hkey, hacc, hpa, hpn, hpc] at HC
        have hbx := below_made wr (.cells #[.int .i64 kd, .int .i64 key, .int .i64 acc, .slice pa pn pc] 47)
        have HX := Lib.hid (Box4.new wr kd key acc pa pn pc)
        have HT := Lib.hid (ht.below hbx)
        have HA := Lib.hid (ha.below hbx)
        have HB := Lib.hid (below_on' hb hbx)
        have HKG := Lib.hid hkg
        have HWM : Hid (m ≠ wr.heap.size) := Lib.hid (by have := ha.lt; omega)
        obtain ⟨N, hN⟩ : ∃ N, wr.heap.size = N := ⟨_, rfl⟩
        rw [hN] at HX HWM
        have HNN := Lib.hid hN
        clear hcs hck ep hb hpm hbx ht ha hkd hkey hacc hpa hpn hpc hN HF
        obtain ⟨x0, x1, x2, x3⟩ := HX.out.facts
        rw [← HNN.out] at x0 x1 x2 x3
        by_cases h0 : kd = 0
        · subst h0
          rcases put_cases L key acc with hO | hO
          · go_wp2_with (first | (refine wpList_load_mid rfl 47 (.tmp 25) rfl b0 (o + k * 4) rfl [.int .i64 0, .int .i64 key, .int .i64 acc, .slice pa pn pc] _ HC.out Try.underlying47 rfl info47 ?_))
            refine (put_at hO rfl HT.out HKF.out HAF.out (by simp) (Sl.nil _) (fun _ => none_blk _) (by simp)).mono ?_
            rintro e w5 ⟨rfl, ht, ho⟩
            have HE : Hid (RowRel w w5 t b m) := Lib.hid ⟨L, ht, HA.out.only HT.out hmb ho, below_only HB.out ho hwt' hwb'⟩
            clear ht ho
            go_wp2_with fail
            go_roundg g
            case measure => omega
            case rel => exact ⟨k + 1, by have := HKG.out; omega, by go_num, HE.out⟩
          · go_wp2_with (first | (refine wpList_load_mid rfl 47 (.tmp 25) rfl b0 (o + k * 4) rfl [.int .i64 0, .int .i64 key, .int .i64 acc, .slice pa pn pc] _ HC.out Try.underlying47 rfl info47 ?_))
            refine (put_at hO rfl HT.out HKF.out HAF.out (by simp) (Sl.nil _) (fun _ => none_blk _) (by simp)).mono ?_
            rintro e w5 ⟨rfl, ht, ho⟩
            obtain ⟨w6, hst, ha6, hg6⟩ := (HA.out.only HT.out hmb ho).store HT.out.good HKF.out (acc, [])
            dsimp only at hst
            obtain ⟨x0, x1, x2, x3⟩ := (HX.out.only HT.out ho).facts
            rw [← HNN.out] at x0 x1 x2 x3
            have HE : Hid (RowRel w w6 t b m) := Lib.hid ⟨_, ht.grown (HA.out.only HT.out hmb ho) hmb hg6, ha6, below_grown (below_only HB.out ho hwt' hwb') hg6 hwm⟩
            clear ht ho ha6 hg6
            go_wp2_with fail
            go_roundg g
            case measure => omega
            case rel => exact ⟨k + 1, by have := HKG.out; omega, by go_num, HE.out⟩
        by_cases h1 : kd = 1
        · subst h1
          have HDR := Lib.hid (drop_any HT.out HKF.out)
          unfold DropPost at HDR
          cases hlk : look L key with
          | none =>
            have hlo := HA.out.look_no HKF.out hlk
            rw [hlk] at HDR
            go_wp2_with (first | (refine wpList_load_mid rfl 47 (.tmp 25) rfl b0 (o + k * 4) rfl [.int .i64 1, .int .i64 key, .int .i64 acc, .slice pa pn pc] _ HC.out Try.underlying47 rfl info47 ?_))
            refine HDR.out.mono ?_
            rintro e w5 ⟨rfl, ht, ho⟩
            obtain ⟨w6, hst, ha6, hg6, hs6⟩ := (HA.out.only HT.out hmb ho).drop HT.out.good HKF.out 0
            obtain ⟨x0, x1, x2, x3⟩ := (HX.out.only HT.out ho).facts
            rw [← HNN.out] at x0 x1 x2 x3
            have HE : Hid (RowRel w w6 t b m) := Lib.hid ⟨_, ht.grown (HA.out.only HT.out hmb ho) hmb hg6, ha6, below_grown (below_only HB.out ho hwt' hwb') hg6 hwm⟩
            clear ht ho ha6 hg6 hs6
            go_wp2_with fail
            go_roundg g
            case measure => omega
            case rel => exact ⟨k + 1, by have := HKG.out; omega, by go_num, HE.out⟩
          | some c =>
            have hlo := HA.out.look_yes HKF.out hlk
            rw [hlk] at HDR
            go_wp2_with (first | (refine wpList_load_mid rfl 47 (.tmp 25) rfl b0 (o + k * 4) rfl [.int .i64 1, .int .i64 key, .int .i64 acc, .slice pa pn pc] _ HC.out Try.underlying47 rfl info47 ?_))
            refine HDR.out.mono ?_
            rintro e w5 ⟨rfl, ht, ho⟩
            obtain ⟨w6, hst, ha6, hg6, hs6⟩ := (HA.out.only HT.out hmb ho).drop HT.out.good HKF.out 0
            obtain ⟨x0, x1, x2, x3⟩ := (HX.out.only HT.out ho).facts
            rw [← HNN.out] at x0 x1 x2 x3
            have HE : Hid (RowRel w w6 t b m) := Lib.hid ⟨_, ht.grown (HA.out.only HT.out hmb ho) hmb hg6, ha6, below_grown (below_only HB.out ho hwt' hwb') hg6 hwm⟩
            clear ht ho ha6 hg6 hs6
            go_wp2_with fail
            go_roundg g
            case measure => omega
            case rel => exact ⟨k + 1, by have := HKG.out; omega, by go_num, HE.out⟩
        · have HE : Hid (RowRel w (wr.alloc (.cells #[.int .i64 kd, .int .i64 key, .int .i64 acc, .slice pa pn pc] 47)) t b m) := Lib.hid ⟨L, HT.out, HA.out, HB.out⟩
          have hn0 : (kd == 0) = false := by simp [h0]
          have hn1 : (kd == 1) = false := by simp [h1]
          go_wp2_with (first | (refine wpList_load_mid rfl 47 (.tmp 25) rfl b0 (o + k * 4) rfl [.int .i64 kd, .int .i64 key, .int .i64 acc, .slice pa pn pc] _ HC.out Try.underlying47 rfl info47 ?_))
          go_roundg g
          case measure => omega
          case rel => exact ⟨k + 1, by have := HKG.out; omega, by go_num, HE.out⟩
      | zero =>
        have hlt : ¬ ((k : Int) < (l.length : Int)) := by omega
        have HT := Lib.hid ht
        have HA := Lib.hid ha
        have HB := Lib.hid hb
        clear ht ha hb
        go_wp2_with fail
        refine (keys_any HT.out).mono ?_
        rintro e w5 ⟨ka, kc, rfl, hna, hb⟩
        have HT := Lib.hid (HT.out.below hb)
        have HA := Lib.hid (HA.out.below hb)
        have HB := Lib.hid (below_on' HB.out hb)
        have HNA := Lib.hid hna.sl
        have hlen := HA.out.len 3
        have h320 := HT.out.good.len
        clear hb hna hlt hkg
        obtain ⟨n4, hn4⟩ : ∃ n, L.length = n := ⟨_, rfl⟩
        have HN4 := Lib.hid hn4
        rw [hn4] at h320 hlen ⊢
        clear hn4
        go_wp2_with fail
        go_loopg [74] n4 (fun g v74 wr => ∃ j : Nat, j + g = n4 ∧ v74 = .int .i64 j ∧ Below w5.heap.size w5 wr)
        case atStart => exact ⟨0, by omega, rfl, Below.refl _ _⟩
        case round =>
          obtain ⟨j, hjg, rfl, hb⟩ := hrel
          have HBJ := Lib.hid hb
          have HTJ := Lib.hid (HT.out.below hb)
          have HAJ := Lib.hid (HA.out.below hb)
          clear hb
          cases gk with
          | succ g =>
            have hlt2 : (j : Int) < (n4 : Int) := by omega
            have hj0 : (0 : Int) ≤ (j : Int) := by omega
            have hjU : j < L.length := by rw [HN4.out]; omega
            obtain ⟨gb, o, rfl, hgl, hgc⟩ := HNA.out.2 (by rw [List.length_map]; omega)
            have hck := (HBJ.out.cell (p := ⟨gb, o + j, none⟩) hgl).trans (hgc j (by rw [List.length_map]; exact hjU))
            rw [List.getElem_map] at hck
            have HLK := Lib.hid (look_mem HTJ.out.good.ord (List.getElem_mem hjU))
            have HKF := Lib.hid (HTJ.out.good.key _ (List.getElem_mem hjU))
            have HPR : Hid (∀ i, i + 1 = j → ∃ y, (∀ wx, Below w5.heap.size w5 wx → wx.cell? ⟨gb, o + i, none⟩ = some (.int .i64 y)) ∧ lessB y L[j].1 = true) := Lib.hid (fun i hi => by
              subst hi
              have hi2 : i < L.length := by omega
              refine ⟨L[i].1, fun wx hbx => ?_, (List.pairwise_iff_getElem.1 HTJ.out.good.ord) i (i + 1) hi2 hjU (by omega)⟩
              have := (hbx.cell (p := ⟨gb, o + i, none⟩) hgl).trans (hgc i (by rw [List.length_map]; exact hi2))
              rw [List.getElem_map] at this
              exact this)
            obtain ⟨c, hc⟩ : ∃ c, L[j].2 = c := ⟨_, rfl⟩
            obtain ⟨x, hx⟩ : ∃ x, L[j].1 = x := ⟨_, rfl⟩
            rw [hx] at hck HLK HKF HPR
            rw [hc] at HLK
            have HGE := Lib.hid (get_any HTJ.out HKF.out)
            unfold GetPost at HGE
            rw [HLK.out] at HGE
            dsimp only at HGE
            clear hx hgc hjU hc
            go_wp2_with fail
            refine HGE.out.mono ?_
            rintro e w8 ⟨⟨ga, gc, rfl, hna⟩, hb⟩
            have HB8 := Lib.hid (below_on' (HBJ.out) hb)
            have hlo := (HAJ.out.below hb).below (below_made w8 (.cells #[.int .i64 c.1, .slice ga c.2.length gc] 32)) |>.look_yes HKF.out HLK.out
            have HB9 := Lib.hid (below_on' HB8.out (below_made w8 (.cells #[.int .i64 c.1, .slice ga c.2.length gc] 32)))
            clear hb hna
            unfold mkC
            dsimp only
            obtain ⟨y0, y1⟩ := c
            dsimp only at hlo HB9 ⊢
            obtain ⟨W9, hW9⟩ : ∃ W, w8.alloc (.cells #[.int .i64 y0, .slice ga y1.length gc] 32) = W := ⟨_, rfl⟩
            have HW9 := Lib.hid hW9
            have hlo' := hlo
            rw [hW9] at HB9
            have HBF := Lib.hid (HB9.out)
            clear hW9
            by_cases hz : 0 < (j : Int)
            · obtain ⟨i, hi⟩ : ∃ i, i + 1 = j := ⟨j - 1, by omega⟩
              obtain ⟨y, hyc, hyl⟩ := HPR.out i hi
              have hck2 := hyc _ HBF.out
              rw [← HW9.out] at hck2
              have hwr : IntKind.i64.wrap ((j : Int) - 1) = (i : Int) := by rw [IntKind.wrap_i64]; omega
              have hi0 : (0 : Int) ≤ (i : Int) := by omega
              have hin : (i : Int) < (n4 : Int) := by omega
              have HOX := Lib.hid (of_all x)
              have HOY := Lib.hid (of_all y)
              have hless := less_iff.1 hyl
              obtain ⟨gx, hgx⟩ : ∃ g, gof x = g := ⟨_, rfl⟩
              obtain ⟨gy, hgy⟩ : ∃ g, gof y = g := ⟨_, rfl⟩
              rw [hgx, hgy] at hless
              rw [hgx] at HOX
              rw [hgy] at HOY
              clear hyc hyl hgx hgy hi
              rcases hless with hl1 | ⟨hl1, hl2⟩
              · have hA : ¬ (gx < gy) := by omega
                have hA2 : (gy == gx) = false := by simp; omega
                have hA3 : gy ≠ gx := by omega
                go_wp2_with fail
                rw [HW9.out]
                refine (HOY.out W9).mono ?_
                rintro e w10 ⟨rfl, rfl⟩
                go_wp2_with fail
                refine (HOX.out _).mono ?_
                rintro e w10 ⟨rfl, rfl⟩
                rw [HW9.out] at hck2
                go_wp2_with fail
                refine (HOY.out _).mono ?_
                rintro e w10 ⟨rfl, rfl⟩
                go_wp2_with fail
                refine (HOX.out _).mono ?_
                rintro e w10 ⟨rfl, rfl⟩
                go_wp2_with fail
                go_roundg g
                case measure => omega
                case rel => exact ⟨j + 1, by omega, by go_num, HBF.out⟩
              · subst hl1
                have hA : ¬ (x ≤ y) := by omega
                go_wp2_with fail
                rw [HW9.out]
                refine (HOY.out W9).mono ?_
                rintro e w10 ⟨rfl, rfl⟩
                go_wp2_with fail
                refine (HOX.out _).mono ?_
                rintro e w10 ⟨rfl, rfl⟩
                rw [HW9.out] at hck2
                go_wp2_with fail
                refine (HOY.out _).mono ?_
                rintro e w10 ⟨rfl, rfl⟩
                go_wp2_with fail
                refine (HOX.out _).mono ?_
                rintro e w10 ⟨rfl, rfl⟩
                go_wp2_with fail
                go_roundg g
                case measure => omega
                case rel => exact ⟨j + 1, by omega, by go_num, HBF.out⟩
            · go_wp2_with fail
              go_roundg g
              case measure => omega
              case rel => exact ⟨j + 1, by omega, by go_num, by rw [HW9.out]; exact HBF.out⟩
          | zero =>
            have hlt2 : ¬ ((j : Int) < (n4 : Int)) := by omega
            have HB := Lib.hid (below_on' HB.out HBJ.out)
            go_wp2_with fail
            refine (works_any _).mono ?_
            rintro e w9 ⟨rfl, hb⟩
            have HB := Lib.hid (below_on' HB.out hb)
            clear hb
            go_wp2_with fail
            go_ret
            exact ⟨rfl, HB.out⟩
end Go.Proofs.Ytghpbhcnblninaa.tbl
