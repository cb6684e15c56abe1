/- What the reference's many, Get, Keys and Same answer. -/
import Derived.Test.YtghpbhcnblninaaTcB
namespace Go.Proofs.Ytghpbhcnblninaa.tbl
set_option linter.unusedSimpArgs false
set_option linter.unusedVariables false
open Go.RowKit
attribute [local go_sem ↓] Go.wp_at_zero Go.wp_at_succ
open Go.Proofs.Ytghpbhcnblninaa.grp (gof gof_in fits fits_wf IRow intV below_on' below_made ret_bool own_below own_cases rof_any ret_int below_drewN irow_new EqPost eq_yes eq_no)
theorem cnt_snoc (L : Rows) (p : Int × Cl) (g : Int) : cnt (L ++ [p]) g = cnt L g + (if gof p.1 = g then 1 else 0) := by
  unfold cnt
  rw [List.filter_append, List.length_append]
  by_cases h : gof p.1 = g
  · rw [if_pos h]; simp [h]
  · rw [if_neg h]; simp [h]
theorem cnt_take {rs : List Rw} {j : Nat} (h : j < rs.length) (g : Int) : cnt ((rs.take (j + 1)).map Rw.p) g = cnt ((rs.take j).map Rw.p) g + (if gof rs[j].key = g then 1 else 0) := by
  rw [List.take_succ_eq_append_getElem h, List.map_append]
  exact cnt_snoc _ _ _
set_option maxHeartbeats 1600000 in
set_option maxRecDepth 1000000 in
theorem many_any {w : World} {r : Nat} {rs : List Rw} (h : IsRs w r rs) (hG : Good (rs.map Rw.p)) (gq : Int) :
    Calls Try.prog 49 #[.pointer (some ⟨r, 0, none⟩), .int .i64 gq] w fun e w' => e = .returned (.int .i64 (cnt (rs.map Rw.p) gq : Nat)) ∧ Below w.heap.size w w' := by
  obtain ⟨v, hr, hs, -⟩ := h
  have HS := Lib.hid hs
  have c0 := cell_of_row w r 0 _ _ _ hr
  have HC := Lib.hid c0
  have hlen : rs.length ≤ 320 := by have := hG.len; rwa [List.length_map] at this
  have HKF : Hid (∀ j (h : j < rs.length), fits rs[j].key) := Lib.hid (fun j hj => hG.key rs[j].p (List.mem_map_of_mem (List.getElem_mem hj)))
  obtain ⟨n, hn⟩ : ∃ n, rs.length = n := ⟨_, rfl⟩
  have HN := Lib.hid hn
  obtain ⟨a0, c1, hv⟩ := hs.len
  rw [hn] at hlen hv
  have HV := Lib.hid hv
  have HLE : Hid (∀ j, cnt ((rs.take j).map Rw.p) gq ≤ 320) := Lib.hid (fun j => by
    have h1 := cnt_le ((rs.take j).map Rw.p) gq
    rw [List.length_map, List.length_take] at h1
    omega)
  clear hr hs hG hn c0
  go_enter Try.func49, Try.ntmps49
  go_wp2_with fail
  go_loopg [5, 6] n (fun g v5 v6 wr => ∃ j : Nat, j + g = n ∧ v6 = .int .i64 j ∧ v5 = .int .i64 (cnt ((rs.take j).map Rw.p) gq : Nat) ∧ Below w.heap.size w wr)
  case atStart => exact ⟨0, by omega, rfl, rfl, Below.refl _ _⟩
  case round =>
    obtain ⟨j, hjg, rfl, rfl, hb⟩ := hrel
    have HB := Lib.hid hb
    have hsz := hb.size
    have hcl := HLE.out j
    cases gk with
    | succ g =>
      have hjn : j < rs.length := by rw [HN.out]; omega
      obtain ⟨gb, o, c2, hv2, e1, -, -⟩ := HS.out.at hjn
      rw [HN.out] at hv2
      rw [HV.out] at hv2
      obtain ⟨rfl, rfl⟩ : a0 = some ⟨gb, o, none⟩ ∧ c1 = c2 := by injection hv2 with h1 h2 h3; exact ⟨h1, h3⟩
      have hc := (hb.cell (p := ⟨r, 0, none⟩) (World.block_lt_of_cell? w _ HC.out)).trans HC.out
      rw [HV.out] at hc
      change wr.cell? ⟨r, 0, none⟩ = some (.slice (some ⟨gb, o, none⟩) n c1) at hc
      have hck := (hb.cell (p := ⟨gb, o + j * 3, none⟩) (World.block_lt_of_cell? w _ e1)).trans e1
      have HOF := Lib.hid (rof_any rs[j].key wr (HKF.out j hjn))
      have HCT := Lib.hid (cnt_take hjn gq)
      obtain ⟨x, hx⟩ : ∃ x, rs[j].key = x := ⟨_, rfl⟩
      rw [hx] at hck HOF HCT
      obtain ⟨gx, hgx⟩ : ∃ g, gof x = g := ⟨_, rfl⟩
      rw [hgx] at HOF HCT
      have hlt : (j : Int) < (n : Int) := by have := HN.out; omega
      have hj0 : (0 : Int) ≤ (j : Int) := by omega
      obtain ⟨ct, hct⟩ : ∃ c, cnt ((rs.take j).map Rw.p) gq = c := ⟨_, rfl⟩
      rw [hct] at hcl HCT ⊢
      clear hx e1 hv2 hb hjn hgx hct
      by_cases hgg : gx = gq
      · subst hgg
        rw [if_pos rfl] at HCT
        go_wp2_with fail
        refine HOF.out.mono ?_
        rintro e w1 ⟨rfl, rfl⟩
        go_wp2_with fail
        go_roundg g
        case measure => omega
        case rel => exact ⟨j + 1, by omega, by go_num, by rw [HCT.out]; go_num, HB.out⟩
      · have hne : (gx == gq) = false := by simp [hgg]
        rw [if_neg hgg] at HCT
        go_wp2_with fail
        refine HOF.out.mono ?_
        rintro e w1 ⟨rfl, rfl⟩
        go_wp2_with fail
        go_roundg g
        case measure => omega
        case rel => exact ⟨j + 1, by omega, by go_num, by rw [HCT.out]; rfl, HB.out⟩
    | zero =>
      have hnn : ¬ ((j : Int) < (n : Int)) := by omega
      have hc := (hb.cell (p := ⟨r, 0, none⟩) (World.block_lt_of_cell? w _ HC.out)).trans HC.out
      rw [HV.out] at hc
      change wr.cell? ⟨r, 0, none⟩ = some (.slice a0 n c1) at hc
      obtain ⟨ct, hct⟩ : ∃ c, cnt ((rs.take j).map Rw.p) gq = c := ⟨_, rfl⟩
      have HE : Hid (ct = cnt (rs.map Rw.p) gq) := Lib.hid (by rw [← hct, List.take_of_length_le (by have := HN.out; omega)])
      rw [hct]
      clear hb hct
      go_wp2_with fail
      try rw [Exit.noGoto_ret]
      go_ret
      exact ⟨ret_int (congrArg Nat.cast HE.out), HB.out⟩
theorem rget_any {w : World} {r : Nat} {rs : List Rw} (h : IsRs w r rs) (hG : Good (rs.map Rw.p)) {k : Int} (hk : fits k) :
    Calls Try.prog 28 #[.pointer (some ⟨r, 0, none⟩), .int .i64 k] w (GetPost w (rs.map Rw.p) k) := by
  have hb0 : Below w.heap.size w (w.alloc (.cells #[.int .i64 0, .slice none 0 0] 32)) := below_made _ _
  have HFI := Lib.hid (find_any (h.below hb0) hG hk)
  have hbx := Box2.new w (0, none, 0, 0)
  obtain ⟨W0, hW0⟩ : ∃ W, w.alloc (.cells #[.int .i64 0, .slice none 0 0] 32) = W := ⟨_, rfl⟩
  obtain ⟨N, hN⟩ : ∃ N, w.heap.size = N := ⟨_, rfl⟩
  have HNN := Lib.hid hN
  rw [hW0] at hb0 HFI
  dsimp only at hbx
  rw [hW0, hN] at hbx
  have HH := Lib.hid (h.below hb0)
  have HB0 := Lib.hid hb0
  have HBX := Lib.hid hbx
  have HLK := Lib.hid (fnd_look rs k hG.ord)
  have HIA : Hid (isAt rs k = if h : fnd rs k < rs.length then decide (rs[fnd rs k].key = k) else false) := Lib.hid rfl
  obtain ⟨m, hm⟩ : ∃ m, fnd rs k = m := ⟨_, rfl⟩
  simp only [hm] at HFI HLK HIA
  clear h hk hb0 hbx hG
  cases hia : isAt rs k with
  | false =>
    rw [hia] at HFI HIA
    have HE : Hid (∀ w', Below w.heap.size w w' → GetPost w (rs.map Rw.p) k (.returned (.tuple #[mkC (0, none, 0, 0), .bool false])) w') := Lib.hid (fun w' hb => by
      have hl : look (rs.map Rw.p) k = none := by
        rw [HLK.out]
        have := HIA.out
        by_cases hml : m < rs.length
        · rw [dif_pos hml] at this ⊢
          rw [if_neg (by simpa using this.symm)]
        · rw [dif_neg hml]
      unfold GetPost; rw [hl]; exact ⟨rfl, hb⟩)
    clear hia
    go_enter Try.func28, Try.ntmps28
    go_wp2_with fail
    refine HFI.out.mono ?_
    rintro e w1 ⟨rfl, hb1⟩
    have HB1 := Lib.hid (below_on' HB0.out hb1)
    have HX1 := Lib.hid (HBX.out.below hb1)
    obtain ⟨c0, c1, f0, f1⟩ := HX1.out.facts
    dsimp only at c0 c1
    obtain ⟨e0, e1, -, -⟩ := (HX1.out.set 0 none 0 0).facts
    dsimp only at e0 e1
    clear hb1
    go_wp2_with fail
    refine bodyPost_ret (v := .tuple #[mkC (0, none, 0, 0), .bool false]) (by simp [results, Try.f28, go_sem, e0, e1, mkC]) rfl ?_
    exact HE.out _ (below_box HB1.out (by rw [HNN.out]; omega) _ _)
  | true =>
    rw [hia] at HFI HIA
    have hml : m < rs.length := by
      by_cases hml : m < rs.length
      · exact hml
      · have := HIA.out; rw [dif_neg hml] at this; cases this
    have hlk : look (rs.map Rw.p) k = some (rs[m].acc, rs[m].ns) := by
      rw [HLK.out, dif_pos hml]
      have := HIA.out
      rw [dif_pos hml] at this
      rw [if_pos (of_decide_eq_true this.symm)]
    obtain ⟨x, hx⟩ : ∃ x, rs[m] = x := ⟨_, rfl⟩
    have hxm : x ∈ rs := hx ▸ List.getElem_mem hml
    rw [hx] at hlk
    have HE : Hid (∀ w', NA w' x.a x.cap x.ns → Below w.heap.size w w' → GetPost w (rs.map Rw.p) k (.returned (.tuple #[mkC (x.acc, x.a, x.ns.length, x.cap), .bool true])) w') := Lib.hid (fun w' hna hb => by
      unfold GetPost; rw [hlk]; exact ⟨⟨_, _, rfl, hna⟩, hb⟩)
    have HX := Lib.hid hx
    have HXM := Lib.hid hxm
    have HML := Lib.hid hml
    clear hia hlk hx hxm
    go_enter Try.func28, Try.ntmps28
    go_wp2_with fail
    refine HFI.out.mono ?_
    rintro e w1 ⟨rfl, hb1⟩
    have HB1 := Lib.hid (below_on' HB0.out hb1)
    have HX1 := Lib.hid (HBX.out.below hb1)
    obtain ⟨v, hr1, hs1, hna1⟩ := HH.out.below hb1
    have HNA := Lib.hid ((hna1 x HXM.out).keep (rows_box HX1.out (.int .i64 x.acc) (.slice x.a x.ns.length x.cap)))
    obtain ⟨gb, o, c2, rfl, e1, e2, e3⟩ := hs1.at HML.out
    rw [HX.out] at e1 e2 e3
    have hc := cell_of_row w1 r 0 _ _ _ hr1
    obtain ⟨n, hn⟩ : ∃ n, rs.length = n := ⟨_, rfl⟩
    have hmi : (m : Int) < (n : Int) := by have := HML.out; omega
    have hm0 : (0 : Int) ≤ (m : Int) := by omega
    rw [hn] at hc
    change w1.cell? ⟨r, 0, none⟩ = some (.slice (some ⟨gb, o, none⟩) n c2) at hc
    obtain ⟨c0, c1, f0, f1⟩ := HX1.out.facts
    dsimp only at c0 c1
    obtain ⟨d0, d1, -, -⟩ := (HX1.out.set x.acc x.a x.ns.length x.cap).facts
    dsimp only at d0 d1
    obtain ⟨xa, hxa⟩ : ∃ y, x.acc = y := ⟨_, rfl⟩
    obtain ⟨xp, hxp⟩ : ∃ y, x.a = y := ⟨_, rfl⟩
    obtain ⟨xl, hxl⟩ : ∃ y, x.ns.length = y := ⟨_, rfl⟩
    obtain ⟨xc, hxc⟩ : ∃ y, x.cap = y := ⟨_, rfl⟩
    rw [hxa] at e2 d0 d1 HNA
    rw [hxp, hxl, hxc] at e3
    rw [hxp, hxl, hxc] at d0 d1
    rw [hxa, hxp, hxl, hxc] at HE
    rw [hxp, hxl, hxc] at HNA
    clear hb1 hs1 hna1 hr1 hn
    have hld : w1.rangeAt gb (o + m * 3 + 1) [.int .i64 xa, .slice xp xl xc] := fun j u hj => by
      match j, hj with
      | 0, hj => simp at hj; subst hj; exact e2
      | 1, hj => simp at hj; subst hj; exact e3
    have HLD := Lib.hid hld
    clear hld hxa hxp hxl hxc
    go_wp2_with (first | (refine wpList_load_mid rfl 32 (.tmp 23) rfl gb (o + m * 3 + 1) rfl [.int .i64 xa, .slice xp xl xc] _ HLD.out Try.underlying32 rfl (by kernel_rfl) ?_))
    refine bodyPost_ret (v := .tuple #[mkC (xa, xp, xl, xc), .bool true]) (by simp [results, Try.f28, go_sem, d0, d1, mkC]) rfl ?_
    exact HE.out _ HNA.out (below_box HB1.out (by rw [HNN.out]; omega) _ _)
/-- The first keys. -/
def KeyRel (w wr : World) (rs : List Rw) (v3 : Value) (k : Nat) : Prop := wr.ownsRow w.heap.size 2 1 v3 k (((rs.take k).map Rw.key).map intV) ∧ Below w.heap.size w wr
theorem key_more {w wr w' : World} {rs : List Rw} {v3 v4 : Value} {k : Nat} {o : Obj} (hk : k < rs.length) (h : KeyRel w wr rs v3 k) (ho : w'.ownsRow w.heap.size 2 1 v4 (k + 1) (((rs.take k).map Rw.key).map intV ++ [.int .i64 rs[k].key])) (hg : (wr.alloc o).grownBy w' v3.ownBlock) : KeyRel w w' rs v4 (k + 1) := by
  refine ⟨?_, (h.2.alloc h.2.size _).grown hg (by rw [World.size_alloc]; have := h.2.size; omega) (fun j hj => (h.1.lt j hj).1)⟩
  rw [List.take_succ_eq_append_getElem hk, List.map_append, List.map_append]
  exact ho
theorem rkey_irow {w : World} {B n : Nat} {v : Value} {l : List Int} (h : w.ownsRow B 2 1 v n (l.map intV)) : IRow w v l := by
  obtain ⟨-, a, cap, rfl, hna⟩ := NR.own h
  exact hna.irow
set_option maxHeartbeats 1600000 in
set_option maxRecDepth 1000000 in
theorem rkeys_any {w : World} {r : Nat} {rs : List Rw} (h : IsRs w r rs) (hG : Good (rs.map Rw.p)) :
    Calls Try.prog 26 #[.pointer (some ⟨r, 0, none⟩)] w fun e w' => ∃ u, e = .returned u ∧ IRow w' u (rs.map Rw.key) ∧ Below w.heap.size w w' := by
  obtain ⟨i0, hi, hz0, hz1, hz2⟩ := info_parts info64
  obtain ⟨v, hr, hs, -⟩ := h
  have HS := Lib.hid hs
  have c0 := cell_of_row w r 0 _ _ _ hr
  have HC := Lib.hid c0
  have hlen : rs.length ≤ 320 := by have := hG.len; rwa [List.length_map] at this
  obtain ⟨n, hn⟩ : ∃ n, rs.length = n := ⟨_, rfl⟩
  have HN := Lib.hid hn
  obtain ⟨a0, c1, hv⟩ := hs.len
  rw [hn] at hlen hv
  have HV := Lib.hid hv
  clear hr hs hG hn c0
  go_enter Try.func26, Try.ntmps26
  go_wp2_with fail
  go_loopg [3, 4] n (fun g v3 v4 wr => ∃ j : Nat, j + g = n ∧ v4 = .int .i64 j ∧ KeyRel w wr rs v3 j)
  case atStart => exact ⟨0, by omega, rfl, World.ownsRow_nil _ _ _ _, Below.refl _ _⟩
  case round =>
    rename World => wr
    obtain ⟨j, hjg, rfl, hrl⟩ := hrel
    have HRL := Lib.hid hrl
    have hb := hrl.2
    have hsz := hb.size
    clear hrl
    cases gk with
    | succ g =>
      have hjn : j < rs.length := by rw [HN.out]; omega
      obtain ⟨gb, o, c2, hv2, e1, -, -⟩ := HS.out.at hjn
      rw [HN.out] at hv2
      rw [HV.out] at hv2
      obtain ⟨rfl, rfl⟩ : a0 = some ⟨gb, o, none⟩ ∧ c1 = c2 := by injection hv2 with h1 h2 h3; exact ⟨h1, h3⟩
      have hc := (hb.cell (p := ⟨r, 0, none⟩) (World.block_lt_of_cell? w _ HC.out)).trans HC.out
      rw [HV.out] at hc
      change wr.cell? ⟨r, 0, none⟩ = some (.slice (some ⟨gb, o, none⟩) n c1) at hc
      have hck := (hb.cell (p := ⟨gb, o + j * 3, none⟩) (World.block_lt_of_cell? w _ e1)).trans e1
      have HMO := Lib.hid (fun w' v4 ob => key_more (w' := w') (v4 := v4) (o := ob) hjn HRL.out)
      have HSZ : Hid (∀ o, w.heap.size ≤ (wr.alloc o).heap.size) := Lib.hid (fun o => by rw [World.size_alloc]; omega)
      obtain ⟨x, hx⟩ : ∃ x, rs[j].key = x := ⟨_, rfl⟩
      rw [hx] at hck HMO
      have HOW := Lib.hid HRL.out.1
      obtain ⟨kz, hkz⟩ : ∃ z, ((rs.take j).map Rw.key).map intV = z := ⟨_, rfl⟩
      rw [hkz] at HOW HMO
      have hlt : (j : Int) < (n : Int) := by have := HN.out; omega
      have hj0 : (0 : Int) ≤ (j : Int) := by omega
      clear hx e1 hv2 hb hjn hkz
      go_wp2_with (at_builtin; refine wpList_append_own _ rfl (.tmp 14) (.tmp 23) 30 rfl w.heap.size 2 i0 (.int .i64 0) 1 8 Try.underlying30 hi hz0 hz1 hz2 rfl (by decide) _ _ _ rfl (HOW.out.alloc _) ⟨_, 0, none⟩ 1 1 [.int .i64 x] rfl rfl (grp.cell_one_new _ _ _) (by simp [Value.oneCell']) (by unfold maxLen; omega) (by omega) (HSZ.out _) ?_)
      intro v4 w3 k4 g4 _
      have HR2 := Lib.hid (HMO.out _ _ _ k4 g4)
      clear k4 g4
      go_wp2_with fail
      go_roundg g
      case measure => omega
      case rel => exact ⟨j + 1, by omega, by go_num, HR2.out⟩
    | zero =>
      have hnn : ¬ ((j : Int) < (n : Int)) := by omega
      have hc := (hb.cell (p := ⟨r, 0, none⟩) (World.block_lt_of_cell? w _ HC.out)).trans HC.out
      rw [HV.out] at hc
      change wr.cell? ⟨r, 0, none⟩ = some (.slice a0 n c1) at hc
      have ho := HRL.out.1
      rw [List.take_of_length_le (by have := HN.out; omega)] at ho
      have HIR := Lib.hid (rkey_irow ho)
      clear ho hb
      go_wp2_with fail
      try rw [Exit.noGoto_ret]
      go_ret
      exact ⟨_, rfl, HIR.out, HRL.out.2⟩
/-- Same of two cells that are. -/
def SameRel (w wr : World) : Prop := Below w.heap.size w wr
set_option maxHeartbeats 1600000 in
set_option maxRecDepth 1000000 in
theorem same_any {w : World} {x : Int} {ns : List Int} {a b : Option Addr} {c d : Nat} (ha : NA w a c ns) (hb : NA w b d ns) (hl : ns.length ≤ 16) :
    Calls Try.prog 29 #[.agg #[.int .i64 x, .slice a ns.length c], .agg #[.int .i64 x, .slice b ns.length d]] w fun e w' => e = .returned (.bool true) ∧ Below w.heap.size w w' := by
  have hb1 : Below w.heap.size w (w.alloc (.cells #[.int .i64 x, .slice a ns.length c] 32)) := below_made _ _
  have hb2 : Below w.heap.size w ((w.alloc (.cells #[.int .i64 x, .slice a ns.length c] 32)).alloc (.cells #[.int .i64 x, .slice b ns.length d] 32)) := hb1.alloc hb1.size _
  have HA := Lib.hid (ha.keep (.of_below hb2)).sl
  have HB := Lib.hid (hb.keep (.of_below hb2)).sl
  have HB2 := Lib.hid hb2
  obtain ⟨n, hn⟩ : ∃ n, ns.length = n := ⟨_, rfl⟩
  have HN := Lib.hid hn
  rw [hn] at HA HB HB2 hl ⊢
  clear ha hb hb1 hb2 hn
  go_enter Try.func29, Try.ntmps29
  go_wp2_with fail
  obtain ⟨W, hW⟩ : ∃ W, (w.alloc (.cells #[.int .i64 x, .slice a n c] 32)).alloc (.cells #[.int .i64 x, .slice b n d] 32) = W := ⟨_, rfl⟩
  have q0 : W.cell? ⟨w.heap.size, 1, none⟩ = some (.slice a n c) := by rw [← hW]; simp
  have q1 : W.cell? ⟨w.heap.size + 1, 1, none⟩ = some (.slice b n d) := by rw [← hW]; simp
  rw [hW] at HA HB HB2
  have HQ0 := Lib.hid q0
  have HQ1 := Lib.hid q1
  go_loopg [5] n (fun g v5 wr => ∃ j : Nat, j + g = n ∧ v5 = .int .i64 j ∧ Below W.heap.size W wr)
  case atStart => exact ⟨0, by omega, rfl, by rw [hW]; exact Below.refl _ _⟩
  case round =>
    rename World => wr
    obtain ⟨j, hjg, rfl, hb⟩ := hrel
    have q0 := (hb.cell (p := ⟨w.heap.size, 1, none⟩) (World.block_lt_of_cell? W _ HQ0.out)).trans HQ0.out
    have q1 := (hb.cell (p := ⟨w.heap.size + 1, 1, none⟩) (World.block_lt_of_cell? W _ HQ1.out)).trans HQ1.out
    have HBJ := Lib.hid hb
    cases gk with
    | succ g =>
      have hjn : j < ns.length := by rw [HN.out]; omega
      have hlt : (j : Int) < (n : Int) := by omega
      have hj0 : (0 : Int) ≤ (j : Int) := by omega
      obtain ⟨ga, oa, rfl, ha1, ha2⟩ := HA.out.2 (by omega)
      obtain ⟨gb, ob, rfl, hb1, hb2⟩ := HB.out.2 (by omega)
      have ca := (hb.cell (p := ⟨ga, oa + j, none⟩) ha1).trans (ha2 j hjn)
      have cb := (hb.cell (p := ⟨gb, ob + j, none⟩) hb1).trans (hb2 j hjn)
      obtain ⟨y, hy⟩ : ∃ y, ns[j] = y := ⟨_, rfl⟩
      rw [hy] at ca cb
      clear ha2 hb2 hy hb hjn hW
      go_wp2_with fail
      go_quiet (fail)
      go_wp2_with fail
      go_roundg g
      case measure => omega
      case rel => exact ⟨j + 1, by omega, by go_num, HBJ.out.trans ((below_drewN _ _).mono HBJ.out.size)⟩
    | zero =>
      have hnn : ¬ ((j : Int) < (n : Int)) := by omega
      clear hb
      go_wp2_with fail
      try rw [Exit.noGoto_ret]
      go_ret
      exact ⟨rfl, below_on' HB2.out HBJ.out⟩
end Go.Proofs.Ytghpbhcnblninaa.tbl
