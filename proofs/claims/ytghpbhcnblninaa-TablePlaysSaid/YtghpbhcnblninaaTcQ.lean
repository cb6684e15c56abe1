/- What the reference's Put answers, and what it leaves. -/
import Derived.Test.YtghpbhcnblninaaTcP
namespace Go.Proofs.Ytghpbhcnblninaa.tbl
set_option linter.unusedSimpArgs false
set_option linter.unusedVariables false
open Go.RowKit
attribute [local go_sem ↓] Go.wp_at_zero Go.wp_at_succ
open Go.Proofs.Ytghpbhcnblninaa.grp (gof gof_in fits fits_wf IRow intV below_on' below_made ret_bool own_below ret_int rof_any)
def RPutPost (w : World) (r : Nat) (L : Rows) (k : Int) (c : Cl) (e : Ending) (w' : World) : Prop := e = .returned (.int .i64 (putO L k c).1) ∧ IsRef w' r (putO L k c).2 ∧ Only (· = r) w w'
theorem rput_same {w w' : World} {r : Nat} {rs : List Rw} {k code : Int} {c : Cl} (h : IsRs w r rs) (hG : Good (rs.map Rw.p)) (hO : putO (rs.map Rw.p) k c = (code, rs.map Rw.p)) (hb : Below w.heap.size w w') :
    RPutPost w r (rs.map Rw.p) k c (.returned (.int .i64 code)) w' := by
  unfold RPutPost
  rw [hO]
  exact ⟨rfl, ⟨hG, rs, rfl, h.below hb⟩, .of_below hb⟩
/-- What stands where the rows' slice is laid anew. -/
theorem rs_final {w W : World} {r n : Nat} {rs qs : List Rw} {v : Value} (h : IsRs w r rs) (hb : Below w.heap.size w W) (ho : W.ownsRow w.heap.size 89 3 v n (cells3 qs)) (hna : ∀ x ∈ qs, NA W x.a x.cap x.ns) :
    IsRs (W.setCell ⟨r, 0, none⟩ v) r qs ∧ Only (· = r) w (W.setCell ⟨r, 0, none⟩ v) := by
  obtain ⟨v0, hr, -, -⟩ := id h
  have hr2 : W.heap[r]? = some (.cells #[v0] 45 (0, 0)) := (hb.block r h.lt).trans hr
  have hon : Only (· = r) W (W.setCell ⟨r, 0, none⟩ v) := Only.setCell W r 0 v
  refine ⟨⟨v, ?_, (Sr.own (ref.own_only3 ho hon (fun j hj e => ?_))).2, fun x hx => (hna x hx).keep (.of_only hon (fun g cur fr hg he => by rw [hg, hr2] at he; cases he))⟩, (Only.of_below hb).then hon⟩
  · rw [heap_setCell_same W r 0 _ _ _ hr2]; rfl
  · obtain ⟨cur, h2, _⟩ := ref.own_blk3 ho hj
    rw [e, hr2] at h2; cases h2
theorem rput_done {w W : World} {r n : Nat} {rs : List Rw} {k x : Int} {ns : List Int} {a : Option Addr} {cap m' : Nat} {v : Value} (h : IsRs w r rs) (hG : Good (rs.map Rw.p)) (hk : fits k) (hx : fits x) (hns : ∀ y ∈ ns, fits y) (h16 : ns.length ≤ 16)
    (hroom : look (rs.map Rw.p) k = none → cnt (rs.map Rw.p) (gof k) < 40) (hm' : fnd rs k + (if look (rs.map Rw.p) k = none then 0 else 1) = m') (hb : Below w.heap.size w W) (hna : NA W a cap ns)
    (ho : W.ownsRow w.heap.size 89 3 v n (cells3 (rs.take (fnd rs k) ++ (⟨k, x, a, ns, cap⟩ : Rw) :: rs.drop m'))) : RPutPost w r (rs.map Rw.p) k (x, ns) (.returned (.int .i64 0)) (W.setCell ⟨r, 0, none⟩ v) := by
  have hO : putO (rs.map Rw.p) k (x, ns) = (0, putL (rs.map Rw.p) k (x, ns)) := by
    unfold putO
    rw [if_neg (show ¬ 16 < ns.length by omega), if_neg (fun e => by have := hroom e.1; omega)]
  have hp : (rs.take (fnd rs k) ++ (⟨k, x, a, ns, cap⟩ : Rw) :: rs.drop m').map Rw.p = putL (rs.map Rw.p) k (x, ns) := by
    rw [fnd_put rs k (x, ns) hG.ord, hm', List.map_append, List.map_cons]; rfl
  obtain ⟨h1, h2⟩ := rs_final h hb ho (fun y hy => by
    obtain ⟨v0, -, -, h3⟩ := id h
    rcases List.mem_append.1 hy with hy | hy
    · exact (h3 y (List.mem_of_mem_take hy)).keep (.of_below hb)
    · rcases List.mem_cons.1 hy with rfl | hy
      · exact hna
      · exact (h3 y (List.mem_of_mem_drop hy)).keep (.of_below hb))
  unfold RPutPost
  rw [hO]
  exact ⟨rfl, ⟨hG.put hk ⟨hx, hns, h16⟩ hroom, _, hp, h1⟩, h2⟩
set_option maxHeartbeats 6400000 in
set_option maxRecDepth 1000000 in
theorem rput_any {w : World} {r : Nat} {rs : List Rw} (h : IsRs w r rs) (hG : Good (rs.map Rw.p)) {k x : Int} {ns : List Int} (hk : fits k) (hx : fits x) (hns : ∀ y ∈ ns, fits y) {a : Option Addr} {cap nl : Nat} (hnl : ns.length = nl) (hs : Sl w a cap ns) :
    Calls Try.prog 23 #[.pointer (some ⟨r, 0, none⟩), .int .i64 k, .agg #[.int .i64 x, .slice a nl cap]] w (RPutPost w r (rs.map Rw.p) k (x, ns)) := by
  by_cases h16 : 16 < ns.length
  · have h16' : (16 : Int) < (nl : Int) := by omega
    have HF := Lib.hid (fun w' => rput_same (w' := w') h hG (k := k) (c := (x, ns)) (code := 2) (by unfold putO; rw [if_pos h16]))
    have HB := Lib.hid (below_made w (.cells #[.int .i64 x, .slice a nl cap] 32))
    clear h hG hnl hs h16
    go_enter Try.func23, Try.ntmps23
    go_wp2_with fail
    go_ret
    exact HF.out _ HB.out
  have h16' : ¬ ((16 : Int) < (nl : Int)) := by omega
  have hb0 : Below w.heap.size w (w.alloc (.cells #[.int .i64 x, .slice a nl cap] 32)) := below_made _ _
  have HFI := Lib.hid (find_any (h.below hb0) hG hk)
  have hbx := Box2.new w (x, a, nl, cap)
  have HDONE := Lib.hid (fun (W : World) (n m' : Nat) (a' : Option Addr) (c' : Nat) (v : Value) hroom hm' hb hna ho => rput_done (w := w) (W := W) (n := n) (m' := m') (a := a') (cap := c') (v := v) h hG hk hx hns (by omega) hroom hm' hb hna ho)
  have HSAME := Lib.hid (fun w' hO => rput_same (w' := w') h hG (k := k) (c := (x, ns)) (code := 7) hO)
  have HH := Lib.hid h
  have HG := Lib.hid hG
  have HK := Lib.hid hk
  have HSL := Lib.hid hs
  have HNL := Lib.hid hnl
  have H16 : Hid (nl ≤ 16) := Lib.hid (by omega)
  have HLK := Lib.hid (at_look (k := k) hG.ord)
  have HL3 : Hid (rs.length ≤ 320) := Lib.hid (by have := hG.len; rwa [List.length_map] at this)
  have hfl := fnd_le rs k
  have HIX := Lib.hid (show isAt rs k = true → fnd rs k < rs.length from fun e => by
    unfold isAt at e
    by_cases hlt : fnd rs k < rs.length
    · exact hlt
    · rw [dif_neg hlt] at e; cases e)
  obtain ⟨v, hr, hsr, -⟩ := id h
  obtain ⟨a0, c0, rfl⟩ := hsr.len
  have hc0 := cell_of_row w r 0 _ _ _ hr
  obtain ⟨n0, hn0⟩ : ∃ n, rs.length = n := ⟨_, rfl⟩
  rw [hn0] at hsr hc0
  change w.cell? ⟨r, 0, none⟩ = some (.slice a0 n0 c0) at hc0
  have HC0 := Lib.hid hc0
  have HN0 := Lib.hid hn0
  have HSR := Lib.hid hsr
  obtain ⟨m, hm⟩ : ∃ m, fnd rs k = m := ⟨_, rfl⟩
  simp only [hm] at HFI HDONE hfl HIX
  have HFL := Lib.hid hfl
  obtain ⟨W0, hW0⟩ : ∃ W, w.alloc (.cells #[.int .i64 x, .slice a nl cap] 32) = W := ⟨_, rfl⟩
  obtain ⟨N, hN⟩ : ∃ N, w.heap.size = N := ⟨_, rfl⟩
  have HW0 := Lib.hid hW0
  have HNZ := Lib.hid hN
  rw [hW0] at hb0 HFI hbx
  rw [hN] at hbx
  have HB0 := Lib.hid hb0
  have HBX := Lib.hid hbx
  have HHD := Lib.hid (slice_head hsr m (by omega))
  obtain ⟨ah, hah1, hah2⟩ := HHD.out
  have HHD := Lib.hid (And.intro hah1 hah2)
  have hm0 : (0 : Int) ≤ (m : Int) := by omega
  have hmx : (m : Int) < 1000 := by have := HL3.out; omega
  clear h hG hk hx hns hnl hs h16 hr hsr hc0 hn0 hfl hm hW0 hN hb0 hbx hah1 hah2
  cases hia : isAt rs k with
  | false =>
    rw [hia] at HFI HLK
    have hlk : look (rs.map Rw.p) k = none := by
      have := HLK.out
      cases hl : look (rs.map Rw.p) k with
      | none => rfl
      | some c => rw [hl] at this; cases this
    have HOF := Lib.hid (fun w => rof_any k w HK.out)
    have HMY := Lib.hid (fun (w' : World) (hb : Below w.heap.size w w') => many_any (HH.out.below hb) HG.out (gof k))
    obtain ⟨ct, hct⟩ : ∃ c, cnt (rs.map Rw.p) (gof k) = c := ⟨_, rfl⟩
    have HSAME2 : Hid (40 ≤ ct → ∀ w', Below w.heap.size w w' → RPutPost w r (rs.map Rw.p) k (x, ns) (.returned (.int .i64 7)) w') := Lib.hid (fun h40 w' hb => HSAME.out w' (by
      unfold putO
      rw [if_neg (show ¬ 16 < ns.length by have := H16.out; have := HNL.out; omega), if_pos ⟨hlk, by omega⟩]) hb)
    have HROOM : Hid (ct < 40 → look (rs.map Rw.p) k = none → cnt (rs.map Rw.p) (gof k) < 40) := Lib.hid (fun h _ => by omega)
    have HM0 : Hid (m + (if look (rs.map Rw.p) k = none then 0 else 1) = m) := Lib.hid (by rw [if_pos hlk]; rfl)
    simp only [hct] at HMY
    obtain ⟨gq, hgq⟩ : ∃ g, gof k = g := ⟨_, rfl⟩
    simp only [hgq] at HOF HMY
    clear hia hlk hct hgq HSAME
    by_cases h40 : 40 ≤ ct
    · have h40' : (40 : Int) ≤ (ct : Int) := by omega
      have HS2 := Lib.hid (HSAME2.out h40)
      clear h40
      go_enter Try.func23, Try.ntmps23
      go_wp2_with fail
      rw [HW0.out, HNZ.out]
      refine HFI.out.mono ?_
      rintro e w1 ⟨rfl, hb1⟩
      have HB1 := Lib.hid (below_on' HB0.out hb1)
      clear hb1
      go_wp2_with fail
      refine (HOF.out _).mono ?_
      rintro e w2 ⟨rfl, rfl⟩
      go_wp2_with fail
      refine (HMY.out _ HB1.out).mono ?_
      rintro e w2 ⟨rfl, hb2⟩
      have HB2 := Lib.hid (below_on' HB1.out hb2)
      clear hb2
      go_wp2_with fail
      go_ret
      exact HS2.out _ HB2.out
    · have h40' : ¬ ((40 : Int) ≤ (ct : Int)) := by omega
      obtain ⟨at1, hat1, hat2⟩ := slice_tail HSR.out m (by have := HFL.out; have := HN0.out; omega)
      have HTD := Lib.hid (And.intro hat1 hat2)
      have HDN := Lib.hid (fun (W : World) (n : Nat) (a' : Option Addr) (c' : Nat) (v : Value) => HDONE.out W n m a' c' v (HROOM.out (by omega)) HM0.out)
      clear hat1 hat2 h40
      go_enter Try.func23, Try.ntmps23
      go_wp2_with fail
      rw [HW0.out, HNZ.out]
      refine HFI.out.mono ?_
      rintro e w1 ⟨rfl, hb1⟩
      have HB1 := Lib.hid (below_on' HB0.out hb1)
      have HX1 := Lib.hid (HBX.out.below hb1)
      clear hb1
      go_wp2_with fail
      refine (HOF.out _).mono ?_
      rintro e w2 ⟨rfl, rfl⟩
      go_wp2_with fail
      refine (HMY.out _ HB1.out).mono ?_
      rintro e wc ⟨rfl, hb2⟩
      have HBC := Lib.hid (below_on' HB1.out hb2)
      have HXC := Lib.hid (HX1.out.below hb2)
      clear hb2
      have hrunh := HHD.out.1
      have hs6 := HHD.out.2 wc (.of_below HBC.out)
      have hz0 : wc.ownsRow w.heap.size 89 3 (.slice none 0 0) 0 [] := World.ownsRow_nil _ _ _ _
      obtain ⟨v7, w7, hr7, ho7, hg7⟩ := ref.app3_run hz0 hs6 (by have := HL3.out; rw [List.length_take]; omega) HBC.out.size 43
      have hb7 := HBC.out.grown hg7 HBC.out.size (fun j hj => (hz0.lt j hj).1)
      have hx7 : Box2 w7 N (x, a, nl, cap) := keep_grown hz0 hg7 N _ HXC.out (fun cur e => by cases e)
      have hb8 : Below w7.heap.size w7 (w7.drew.alloc (.cells #[] 2)) := ((Below.refl _ w7).drew).alloc (Nat.le_refl _) _
      have hb8w := below_on' hb7 hb8
      have hs8 := HSL.out.below hb8w
      have ho8 := own_new w7.drew [] 0 rfl (by omega)
      obtain ⟨v9, w9, hr9, ho9, hg9⟩ := app_run ho8 hs8 (by have := HNL.out; have := H16.out; simp only [List.length_nil]; omega) (by rw [World.size_alloc]; exact Nat.le_succ _) 30
      obtain ⟨-, a9, cap9, rfl, hna9⟩ := NR.own ho9
      have hb9 := hb8w.grown hg9 hb8w.size (fun j hj => Nat.le_trans hb7.size (ho8.lt j hj).1)
      have hx9 : Box2 w9 N (x, a, nl, cap) := (hg9.block N (lt_of_get (hx7.below hb8)) (fun e => by
        have h1 := (ho8.lt N e.symm).1
        have h2 := lt_of_get hx7
        have h1 : w7.heap.size ≤ N := h1
        omega)).trans (hx7.below hb8)
      have ho7b : w9.ownsRow w.heap.size 89 3 v7 (0 + (rs.take m).length) ([] ++ cells3 (rs.take m)) := by
        refine (ref.own_below3 ho7 hb8).kept (row := some w7.heap.size) ⟨hg9.os, hg9.tape, hg9.output, hg9.size, fun k hk hne => hg9.block k hk (fun e => hne (by rw [e]; rfl))⟩ (.inr (fun e => ?_))
        have := (ho7.lt _ e).2
        omega
      rw [List.nil_append] at hna9
      rw [show (([] : List Int) ++ ns).length = nl by rw [List.nil_append]; exact HNL.out] at hr9
      have hb10 := below_made w9 (.cells #[.int .i64 k, .int .i64 x, .slice a9 nl cap9] 89)
      have hsr : Sr (w9.alloc (.cells #[.int .i64 k, .int .i64 x, .slice a9 nl cap9] 89)) (.slice (some ⟨w9.heap.size, 0, none⟩) 1 1) [⟨k, x, a9, ns, cap9⟩] := by
        have := ref.sr_new w9 ⟨k, x, a9, ns, cap9⟩
        dsimp only at this
        rw [HNL.out] at this
        exact this
      have hb10w := below_on' hb9 hb10
      have ho10 := ref.own_below3 ho7b hb10
      obtain ⟨v11, w11, hr11, ho11, hg11⟩ := ref.app3_run ho10 hsr (by have := HL3.out; rw [List.length_take]; simp only [List.length_cons, List.length_nil]; omega) hb10w.size 43
      have hb11 := hb10w.grown hg11 hb10w.size (fun j hj => (ho10.lt j hj).1)
      have hrunt := HTD.out.1
      obtain ⟨v12, w12, hr12, ho12, hg12⟩ := ref.app3_run ho11 (HTD.out.2 w11 (.of_below hb11)) (by have := HL3.out; rw [List.length_take, List.length_drop]; simp only [List.length_cons, List.length_nil]; omega) hb11.size 43
      have hb12 := hb11.grown hg12 hb11.size (fun j hj => (ho11.lt j hj).1)
      have hna12 : NA w12 a9 cap9 ns := ((hna9.keep (.of_below hb10)).keep (rows2_grown ho10 hg11)).keep (rows2_grown ho11 hg12)
      have e12 : ([] ++ cells3 (rs.take m) ++ cells3 [(⟨k, x, a9, ns, cap9⟩ : Rw)]) ++ cells3 (rs.drop m) = cells3 (rs.take m ++ (⟨k, x, a9, ns, cap9⟩ : Rw) :: rs.drop m) := by
        rw [List.nil_append, ← cells3_append, ← cells3_append, List.append_assoc]; rfl
      rw [e12] at ho12
      obtain ⟨a12, c12, rfl⟩ := (Sr.own ho12).2.len
      have HFIN := Lib.hid (HDN.out _ _ _ _ _ hb12 hna12 ho12)
      obtain ⟨L12, hL12⟩ : ∃ l, (rs.take m ++ (⟨k, x, a9, ns, cap9⟩ : Rw) :: rs.drop m).length = l := ⟨_, rfl⟩
      rw [hL12] at HFIN hr12
      clear hL12
      obtain ⟨vr, hrr, -, -⟩ := HH.out
      have hr12' : w12.heap[r]? = some (.cells #[vr] 45 (0, 0)) := (hb12.block r HH.out.lt).trans hrr
      have zf := frozen_of_row w12 r 0 _ _ hr12'
      have zc : w12.cell? ⟨r, 0, none⟩ = some vr := by rw [cell_of_row w12 r 0 _ _ _ hr12']; rfl
      have cc : wc.cell? ⟨r, 0, none⟩ = some (.slice a0 n0 c0) := (HBC.out.cell (p := ⟨r, 0, none⟩) (World.block_lt_of_cell? w _ HC0.out)).trans HC0.out
      have c11 : w11.cell? ⟨r, 0, none⟩ = some (.slice a0 n0 c0) := (hb11.cell (p := ⟨r, 0, none⟩) (World.block_lt_of_cell? w _ HC0.out)).trans HC0.out
      have hn10 : w9.heap.size ≤ (w9.alloc (.cells #[.int .i64 k, .int .i64 x, .slice a9 nl cap9] 89)).heap.size := hb10.size
      have hx10 := hx9.below hb10
      have hx11 : Box2 w11 N (x, a, nl, cap) := keep_grown ho10 hg11 N _ hx10 (fun cur e => by cases e)
      obtain ⟨p0, p1, -, -⟩ := hx7.facts
      obtain ⟨q0, q1, -, -⟩ := (hx7.below hb8).facts
      obtain ⟨s0, s1, -, -⟩ := hx9.facts
      obtain ⟨t0, t1, -, -⟩ := hx10.facts
      obtain ⟨u0, u1, -, -⟩ := hx11.facts
      dsimp only at p0 p1 q0 q1 s0 s1 t0 t1 u0 u1
      have HR7 : Hid ((Builtin.append_ #[43, 43] 43 #[.slice none 0 0, .slice ah m c0]).run Try.prog wc = .ok v7 w7) := Lib.hid hr7
      have HR9 : Hid ((Builtin.append_ #[30, 30] 30 #[.slice (some ⟨w7.drew.heap.size, 0, none⟩) 0 0, .slice a nl cap]).run Try.prog (w7.drew.alloc (.cells #[] 2)) = .ok (.slice a9 nl cap9) w9) := Lib.hid (by have := hr9; rw [HNL.out] at this; exact this)
      have HR11 := Lib.hid hr11
      have HR12 := Lib.hid hr12
      have P1 : w7.drew.cell? ⟨N, 0, none⟩ = some (.int .i64 x) ∧ w7.drew.cell? ⟨N, 1, none⟩ = some (.slice a nl cap) := ⟨p0, p1⟩
      have P2 : (w7.drew.alloc (.cells #[] 2)).cell? ⟨N, 0, none⟩ = some (.int .i64 x) ∧ (w7.drew.alloc (.cells #[] 2)).cell? ⟨N, 1, none⟩ = some (.slice a nl cap) := ⟨q0, q1⟩
      have P3 : w9.cell? ⟨N, 0, none⟩ = some (.int .i64 x) ∧ w9.cell? ⟨N, 1, none⟩ = some (.slice a nl cap) := ⟨s0, s1⟩
      have P4 : (w9.alloc (.cells #[.int .i64 k, .int .i64 x, .slice a9 nl cap9] 89)).cell? ⟨N, 0, none⟩ = some (.int .i64 x) ∧ (w9.alloc (.cells #[.int .i64 k, .int .i64 x, .slice a9 nl cap9] 89)).cell? ⟨N, 1, none⟩ = some (.slice a nl cap) := ⟨t0, t1⟩
      have P5 : w11.cell? ⟨N, 0, none⟩ = some (.int .i64 x) ∧ w11.cell? ⟨N, 1, none⟩ = some (.slice a nl cap) := ⟨u0, u1⟩
      clear hs6 hz0 hr7 ho7 hg7 hb7 hx7 hb8 hb8w hs8 ho8 hr9 ho9 hg9 hna9 hb9 hx9 ho7b hb10 hsr hb10w ho10 hr11 ho11 hg11 hb11 hr12 ho12 hg12 hb12 hna12 e12 hrr hr12' hn10 hx10 hx11 p0 p1 q0 q1 s0 s1 t0 t1 u0 u1
      go_wp2_with (at_builtin; refine wpList_app rfl (.tmp 29) (.tmp 35) 43 rfl rfl rfl HR7.out ?_)
      refine dsk.wp_region_peel2 (by kernel_rfl) (by simp only [List.dropLast_cons_cons, List.dropLast_singleton]; exact rfl) rfl (by kernel_rfl) ?_
      refine wpAny_of_held (S := fun w' => w'.cell? ⟨N, 0, none⟩ = some (.int .i64 x) ∧ w'.cell? ⟨N, 1, none⟩ = some (.slice a nl cap)) _ _ _ _ ?_
      have hHeld := P1
      refine wpAnyH_take (i := 0) (v := ?v1) rfl (by kernel_rfl) (by kernel_rfl) (by kernel_rfl) (fun _ _ _ h => h) (Or.inl ⟨by rfl, ?hy1⟩) (by assumption) ?rest1
      case hy1 => (intro w0 hSw; (try dsimp only at hSw); go_simp; try with_reducible rfl)
      try simp only [Act.put, List.getElem_toArray, List.getElem_cons_zero, List.getElem_cons_succ, List.setIfInBounds_toArray, List.set_cons_zero, List.set_cons_succ]
      refine wpAnyH_take (i := 1) (v := ?v2) rfl (by kernel_rfl) (by kernel_rfl) (by kernel_rfl) (fun _ _ _ h => h) (Or.inl ⟨by rfl, ?hy2⟩) (by assumption) ?rest2
      case hy2 => (intro w0 hSw; (try dsimp only at hSw); go_simp; try with_reducible rfl)
      try simp only [Act.put, List.getElem_toArray, List.getElem_cons_zero, List.getElem_cons_succ, List.setIfInBounds_toArray, List.set_cons_zero, List.set_cons_succ]
      refine wpAnyH_take (i := 2) (v := ?v3) rfl (by kernel_rfl) (by kernel_rfl) (by kernel_rfl) (fun _ _ _ h => h) (Or.inl ⟨by rfl, ?hy3⟩) (by assumption) ?rest3
      case hy3 => (intro w0 hSw; (try dsimp only at hSw); go_simp; try with_reducible rfl)
      try simp only [Act.put, List.getElem_toArray, List.getElem_cons_zero, List.getElem_cons_succ, List.setIfInBounds_toArray, List.set_cons_zero, List.set_cons_succ]
      refine wpAnyH_take (i := 3) (v := ?v4) rfl (by kernel_rfl) (by kernel_rfl) (by kernel_rfl) (fun _ _ _ h => h) (Or.inl ⟨by rfl, ?hy4⟩) (by assumption) ?rest4
      case hy4 => (intro w0 hSw; (try dsimp only at hSw); go_simp; try with_reducible rfl)
      try simp only [Act.put, List.getElem_toArray, List.getElem_cons_zero, List.getElem_cons_succ, List.setIfInBounds_toArray, List.set_cons_zero, List.set_cons_succ]
      refine wpAnyH_take (i := 5) (v := ?v5) rfl (by kernel_rfl) (by kernel_rfl) (by kernel_rfl) (fun _ _ _ h => h) (Or.inl ⟨by rfl, ?hy5⟩) (by assumption) ?rest5
      case hy5 => (intro w0 hSw; (try dsimp only at hSw); go_simp; try with_reducible rfl)
      try simp only [Act.put, List.getElem_toArray, List.getElem_cons_zero, List.getElem_cons_succ, List.setIfInBounds_toArray, List.set_cons_zero, List.set_cons_succ]
      refine wpAnyH_take (i := 6) (v := ?v6) rfl (by kernel_rfl) (by kernel_rfl) (by kernel_rfl) (fun _ _ _ h => h) (Or.inl ⟨by rfl, ?hy6⟩) (by assumption) ?rest6
      case hy6 => (intro w0 hSw; (try dsimp only at hSw); go_simp; try with_reducible rfl)
      try simp only [Act.put, List.getElem_toArray, List.getElem_cons_zero, List.getElem_cons_succ, List.setIfInBounds_toArray, List.set_cons_zero, List.set_cons_succ]
      refine wpAnyH_ready (rs := [4]) (by kernel_rfl) (by simp) ?_
      refine AllReadyH.cons rfl (fun KQ hKQ => ?_) AllReadyH.nil
      go_simp
      refine hKQ.out _ _ ?_ (fun hHeld => ?_)
      · exact P2
      clear hKQ KQ
      try simp only [Act.put, List.getElem_toArray, List.getElem_cons_zero, List.getElem_cons_succ, List.setIfInBounds_toArray, List.set_cons_zero, List.set_cons_succ]
      refine wpAnyH_ready (rs := [7]) (by kernel_rfl) (by simp) ?_
      refine AllReadyH.cons rfl (fun KQ hKQ => ?_) AllReadyH.nil
      refine step_app rfl (.tmp 41) (.tmp 43) 30 rfl rfl (by rfl) HR9.out ?_
      refine hKQ.out _ _ ?_ (fun hHeld => ?_)
      · exact P3
      clear hKQ KQ
      try simp only [Act.put, List.getElem_toArray, List.getElem_cons_zero, List.getElem_cons_succ, List.setIfInBounds_toArray, List.set_cons_zero, List.set_cons_succ]
      refine wpAnyH_take (i := 8) (v := ?v7) rfl (by kernel_rfl) (by kernel_rfl) (by kernel_rfl) (fun _ _ _ h => h) (Or.inl ⟨by rfl, ?hy7⟩) (by assumption) ?rest7
      case hy7 => (intro w0 hSw; (try dsimp only at hSw); go_simp; try with_reducible rfl)
      try simp only [Act.put, List.getElem_toArray, List.getElem_cons_zero, List.getElem_cons_succ, List.setIfInBounds_toArray, List.set_cons_zero, List.set_cons_succ]
      refine wpAnyH_take (i := 9) (v := ?v8) rfl (by kernel_rfl) (by kernel_rfl) (by kernel_rfl) (fun _ _ _ h => h) (Or.inl ⟨by rfl, ?hy8⟩) (by assumption) ?rest8
      case hy8 => (intro w0 hSw; (try dsimp only at hSw); go_simp; try with_reducible rfl)
      try simp only [Act.put, List.getElem_toArray, List.getElem_cons_zero, List.getElem_cons_succ, List.setIfInBounds_toArray, List.set_cons_zero, List.set_cons_succ]
      refine wpAnyH_ready (rs := [10]) (by kernel_rfl) (by simp) ?_
      refine AllReadyH.cons rfl (fun KQ hKQ => ?_) AllReadyH.nil
      go_simp
      refine hKQ.out _ _ ?_ (fun hHeld => ?_)
      · exact P4
      clear hKQ KQ
      try simp only [Act.put, List.getElem_toArray, List.getElem_cons_zero, List.getElem_cons_succ, List.setIfInBounds_toArray, List.set_cons_zero, List.set_cons_succ]
      refine wpAnyH_ready (rs := [11]) (by kernel_rfl) (by simp) ?_
      refine AllReadyH.cons rfl (fun KQ hKQ => ?_) AllReadyH.nil
      refine step_app rfl (.tmp 37) (.tmp 47) 43 rfl rfl (by rfl) HR11.out ?_
      refine hKQ.out _ _ ?_ (fun hHeld => ?_)
      · exact P5
      clear hKQ KQ
      try simp only [Act.put, List.getElem_toArray, List.getElem_cons_zero, List.getElem_cons_succ, List.setIfInBounds_toArray, List.set_cons_zero, List.set_cons_succ]
      refine wpAnyH_done (by kernel_rfl) ?_ _
      change wpList _ _ _ _ _ _
      clear P1 P2 P3 P4 P5 hHeld
      go_wp2_with (at_builtin; refine wpList_app rfl (.tmp 53) (.tmp 59) 43 rfl rfl rfl HR12.out ?_)
      go_ret
      exact HFIN.out
  | true =>
    rw [hia] at HFI HLK
    have hlk : look (rs.map Rw.p) k ≠ none := fun e => by have := HLK.out; rw [e] at this; cases this
    have hmlt : m < rs.length := HIX.out hia
    obtain ⟨m1, hm1⟩ : ∃ m1, m1 = m + 1 := ⟨_, rfl⟩
    obtain ⟨at1, hat1, hat2⟩ := slice_tail HSR.out m1 (by omega)
    have hm1e : (m1 : Int) = (m : Int) + 1 := by omega
    have hat3 : ∀ W, (Instr.sliceAt 43 (.slice a0 n0 c0) (some (.int .i64 ((m : Int) + 1))) none none).run Try.prog W = .ok (.slice at1 (n0 - m1) (c0 - m1)) W := fun W => by rw [← hm1e]; exact hat1 W
    have HTD := Lib.hid (And.intro hat3 hat2)
    have HDN := Lib.hid (fun (W : World) (n : Nat) (a' : Option Addr) (c' : Nat) (v : Value) => HDONE.out W n m1 a' c' v (fun e => absurd e hlk) (by rw [if_neg hlk, hm1]))
    clear hat1 hat2 hat3 hm1e hlk hmlt hia HSAME hm1
    go_enter Try.func23, Try.ntmps23
    go_wp2_with fail
    rw [HW0.out, HNZ.out]
    refine HFI.out.mono ?_
    rintro e wc ⟨rfl, hb1⟩
    have HBC := Lib.hid (below_on' HB0.out hb1)
    have HXC := Lib.hid (HBX.out.below hb1)
    clear hb1
    have hrunh := HHD.out.1
    have hs6 := HHD.out.2 wc (.of_below HBC.out)
    have hz0 : wc.ownsRow w.heap.size 89 3 (.slice none 0 0) 0 [] := World.ownsRow_nil _ _ _ _
    obtain ⟨v7, w7, hr7, ho7, hg7⟩ := ref.app3_run hz0 hs6 (by have := HL3.out; rw [List.length_take]; omega) HBC.out.size 43
    have hb7 := HBC.out.grown hg7 HBC.out.size (fun j hj => (hz0.lt j hj).1)
    have hx7 : Box2 w7 N (x, a, nl, cap) := keep_grown hz0 hg7 N _ HXC.out (fun cur e => by cases e)
    have hb8 : Below w7.heap.size w7 (w7.drew.alloc (.cells #[] 2)) := ((Below.refl _ w7).drew).alloc (Nat.le_refl _) _
    have hb8w := below_on' hb7 hb8
    have hs8 := HSL.out.below hb8w
    have ho8 := own_new w7.drew [] 0 rfl (by omega)
    obtain ⟨v9, w9, hr9, ho9, hg9⟩ := app_run ho8 hs8 (by have := HNL.out; have := H16.out; simp only [List.length_nil]; omega) (by rw [World.size_alloc]; exact Nat.le_succ _) 30
    obtain ⟨-, a9, cap9, rfl, hna9⟩ := NR.own ho9
    have hb9 := hb8w.grown hg9 hb8w.size (fun j hj => Nat.le_trans hb7.size (ho8.lt j hj).1)
    have hx9 : Box2 w9 N (x, a, nl, cap) := (hg9.block N (lt_of_get (hx7.below hb8)) (fun e => by
      have h1 := (ho8.lt N e.symm).1
      have h2 := lt_of_get hx7
      have h1 : w7.heap.size ≤ N := h1
      omega)).trans (hx7.below hb8)
    have ho7b : w9.ownsRow w.heap.size 89 3 v7 (0 + (rs.take m).length) ([] ++ cells3 (rs.take m)) := by
      refine (ref.own_below3 ho7 hb8).kept (row := some w7.heap.size) ⟨hg9.os, hg9.tape, hg9.output, hg9.size, fun k hk hne => hg9.block k hk (fun e => hne (by rw [e]; rfl))⟩ (.inr (fun e => ?_))
      have := (ho7.lt _ e).2
      omega
    rw [List.nil_append] at hna9
    rw [show (([] : List Int) ++ ns).length = nl by rw [List.nil_append]; exact HNL.out] at hr9
    have hb10 := below_made w9 (.cells #[.int .i64 k, .int .i64 x, .slice a9 nl cap9] 89)
    have hsr : Sr (w9.alloc (.cells #[.int .i64 k, .int .i64 x, .slice a9 nl cap9] 89)) (.slice (some ⟨w9.heap.size, 0, none⟩) 1 1) [⟨k, x, a9, ns, cap9⟩] := by
      have := ref.sr_new w9 ⟨k, x, a9, ns, cap9⟩
      dsimp only at this
      rw [HNL.out] at this
      exact this
    have hb10w := below_on' hb9 hb10
    have ho10 := ref.own_below3 ho7b hb10
    obtain ⟨v11, w11, hr11, ho11, hg11⟩ := ref.app3_run ho10 hsr (by have := HL3.out; rw [List.length_take]; simp only [List.length_cons, List.length_nil]; omega) hb10w.size 43
    have hb11 := hb10w.grown hg11 hb10w.size (fun j hj => (ho10.lt j hj).1)
    have hrunt := HTD.out.1
    obtain ⟨v12, w12, hr12, ho12, hg12⟩ := ref.app3_run ho11 (HTD.out.2 w11 (.of_below hb11)) (by have := HL3.out; rw [List.length_take, List.length_drop]; simp only [List.length_cons, List.length_nil]; omega) hb11.size 43
    have hb12 := hb11.grown hg12 hb11.size (fun j hj => (ho11.lt j hj).1)
    have hna12 : NA w12 a9 cap9 ns := ((hna9.keep (.of_below hb10)).keep (rows2_grown ho10 hg11)).keep (rows2_grown ho11 hg12)
    have e12 : ([] ++ cells3 (rs.take m) ++ cells3 [(⟨k, x, a9, ns, cap9⟩ : Rw)]) ++ cells3 (rs.drop m1) = cells3 (rs.take m ++ (⟨k, x, a9, ns, cap9⟩ : Rw) :: rs.drop m1) := by
      rw [List.nil_append, ← cells3_append, ← cells3_append, List.append_assoc]; rfl
    rw [e12] at ho12
    obtain ⟨a12, c12, rfl⟩ := (Sr.own ho12).2.len
    have HFIN := Lib.hid (HDN.out _ _ _ _ _ hb12 hna12 ho12)
    obtain ⟨L12, hL12⟩ : ∃ l, (rs.take m ++ (⟨k, x, a9, ns, cap9⟩ : Rw) :: rs.drop m1).length = l := ⟨_, rfl⟩
    rw [hL12] at HFIN hr12
    clear hL12
    obtain ⟨vr, hrr, -, -⟩ := HH.out
    have hr12' : w12.heap[r]? = some (.cells #[vr] 45 (0, 0)) := (hb12.block r HH.out.lt).trans hrr
    have zf := frozen_of_row w12 r 0 _ _ hr12'
    have zc : w12.cell? ⟨r, 0, none⟩ = some vr := by rw [cell_of_row w12 r 0 _ _ _ hr12']; rfl
    have cc : wc.cell? ⟨r, 0, none⟩ = some (.slice a0 n0 c0) := (HBC.out.cell (p := ⟨r, 0, none⟩) (World.block_lt_of_cell? w _ HC0.out)).trans HC0.out
    have c11 : w11.cell? ⟨r, 0, none⟩ = some (.slice a0 n0 c0) := (hb11.cell (p := ⟨r, 0, none⟩) (World.block_lt_of_cell? w _ HC0.out)).trans HC0.out
    have hn10 : w9.heap.size ≤ (w9.alloc (.cells #[.int .i64 k, .int .i64 x, .slice a9 nl cap9] 89)).heap.size := hb10.size
    have hx10 := hx9.below hb10
    have hx11 : Box2 w11 N (x, a, nl, cap) := keep_grown ho10 hg11 N _ hx10 (fun cur e => by cases e)
    obtain ⟨p0, p1, -, -⟩ := hx7.facts
    obtain ⟨q0, q1, -, -⟩ := (hx7.below hb8).facts
    obtain ⟨s0, s1, -, -⟩ := hx9.facts
    obtain ⟨t0, t1, -, -⟩ := hx10.facts
    obtain ⟨u0, u1, -, -⟩ := hx11.facts
    dsimp only at p0 p1 q0 q1 s0 s1 t0 t1 u0 u1
    have HR7 : Hid ((Builtin.append_ #[43, 43] 43 #[.slice none 0 0, .slice ah m c0]).run Try.prog wc = .ok v7 w7) := Lib.hid hr7
    have HR9 : Hid ((Builtin.append_ #[30, 30] 30 #[.slice (some ⟨w7.drew.heap.size, 0, none⟩) 0 0, .slice a nl cap]).run Try.prog (w7.drew.alloc (.cells #[] 2)) = .ok (.slice a9 nl cap9) w9) := Lib.hid (by have := hr9; rw [HNL.out] at this; exact this)
    have HR11 := Lib.hid hr11
    have HR12 := Lib.hid hr12
    have P1 : w7.drew.cell? ⟨N, 0, none⟩ = some (.int .i64 x) ∧ w7.drew.cell? ⟨N, 1, none⟩ = some (.slice a nl cap) := ⟨p0, p1⟩
    have P2 : (w7.drew.alloc (.cells #[] 2)).cell? ⟨N, 0, none⟩ = some (.int .i64 x) ∧ (w7.drew.alloc (.cells #[] 2)).cell? ⟨N, 1, none⟩ = some (.slice a nl cap) := ⟨q0, q1⟩
    have P3 : w9.cell? ⟨N, 0, none⟩ = some (.int .i64 x) ∧ w9.cell? ⟨N, 1, none⟩ = some (.slice a nl cap) := ⟨s0, s1⟩
    have P4 : (w9.alloc (.cells #[.int .i64 k, .int .i64 x, .slice a9 nl cap9] 89)).cell? ⟨N, 0, none⟩ = some (.int .i64 x) ∧ (w9.alloc (.cells #[.int .i64 k, .int .i64 x, .slice a9 nl cap9] 89)).cell? ⟨N, 1, none⟩ = some (.slice a nl cap) := ⟨t0, t1⟩
    have P5 : w11.cell? ⟨N, 0, none⟩ = some (.int .i64 x) ∧ w11.cell? ⟨N, 1, none⟩ = some (.slice a nl cap) := ⟨u0, u1⟩
    clear hs6 hz0 hr7 ho7 hg7 hb7 hx7 hb8 hb8w hs8 ho8 hr9 ho9 hg9 hna9 hb9 hx9 ho7b hb10 hsr hb10w ho10 hr11 ho11 hg11 hb11 hr12 ho12 hg12 hb12 hna12 e12 hrr hr12' hn10 hx10 hx11 p0 p1 q0 q1 s0 s1 t0 t1 u0 u1
    go_wp2_with (at_builtin; refine wpList_app rfl (.tmp 29) (.tmp 35) 43 rfl rfl rfl HR7.out ?_)
    refine dsk.wp_region_peel2 (by kernel_rfl) (by simp only [List.dropLast_cons_cons, List.dropLast_singleton]; exact rfl) rfl (by kernel_rfl) ?_
    refine wpAny_of_held (S := fun w' => w'.cell? ⟨N, 0, none⟩ = some (.int .i64 x) ∧ w'.cell? ⟨N, 1, none⟩ = some (.slice a nl cap)) _ _ _ _ ?_
    have hHeld := P1
    refine wpAnyH_take (i := 0) (v := ?v9) rfl (by kernel_rfl) (by kernel_rfl) (by kernel_rfl) (fun _ _ _ h => h) (Or.inl ⟨by rfl, ?hy9⟩) (by assumption) ?rest9
    case hy9 => (intro w0 hSw; (try dsimp only at hSw); go_simp; try with_reducible rfl)
    try simp only [Act.put, List.getElem_toArray, List.getElem_cons_zero, List.getElem_cons_succ, List.setIfInBounds_toArray, List.set_cons_zero, List.set_cons_succ]
    refine wpAnyH_take (i := 1) (v := ?v10) rfl (by kernel_rfl) (by kernel_rfl) (by kernel_rfl) (fun _ _ _ h => h) (Or.inl ⟨by rfl, ?hy10⟩) (by assumption) ?rest10
    case hy10 => (intro w0 hSw; (try dsimp only at hSw); go_simp; try with_reducible rfl)
    try simp only [Act.put, List.getElem_toArray, List.getElem_cons_zero, List.getElem_cons_succ, List.setIfInBounds_toArray, List.set_cons_zero, List.set_cons_succ]
    refine wpAnyH_take (i := 2) (v := ?v11) rfl (by kernel_rfl) (by kernel_rfl) (by kernel_rfl) (fun _ _ _ h => h) (Or.inl ⟨by rfl, ?hy11⟩) (by assumption) ?rest11
    case hy11 => (intro w0 hSw; (try dsimp only at hSw); go_simp; try with_reducible rfl)
    try simp only [Act.put, List.getElem_toArray, List.getElem_cons_zero, List.getElem_cons_succ, List.setIfInBounds_toArray, List.set_cons_zero, List.set_cons_succ]
    refine wpAnyH_take (i := 3) (v := ?v12) rfl (by kernel_rfl) (by kernel_rfl) (by kernel_rfl) (fun _ _ _ h => h) (Or.inl ⟨by rfl, ?hy12⟩) (by assumption) ?rest12
    case hy12 => (intro w0 hSw; (try dsimp only at hSw); go_simp; try with_reducible rfl)
    try simp only [Act.put, List.getElem_toArray, List.getElem_cons_zero, List.getElem_cons_succ, List.setIfInBounds_toArray, List.set_cons_zero, List.set_cons_succ]
    refine wpAnyH_take (i := 5) (v := ?v13) rfl (by kernel_rfl) (by kernel_rfl) (by kernel_rfl) (fun _ _ _ h => h) (Or.inl ⟨by rfl, ?hy13⟩) (by assumption) ?rest13
    case hy13 => (intro w0 hSw; (try dsimp only at hSw); go_simp; try with_reducible rfl)
    try simp only [Act.put, List.getElem_toArray, List.getElem_cons_zero, List.getElem_cons_succ, List.setIfInBounds_toArray, List.set_cons_zero, List.set_cons_succ]
    refine wpAnyH_take (i := 6) (v := ?v14) rfl (by kernel_rfl) (by kernel_rfl) (by kernel_rfl) (fun _ _ _ h => h) (Or.inl ⟨by rfl, ?hy14⟩) (by assumption) ?rest14
    case hy14 => (intro w0 hSw; (try dsimp only at hSw); go_simp; try with_reducible rfl)
    try simp only [Act.put, List.getElem_toArray, List.getElem_cons_zero, List.getElem_cons_succ, List.setIfInBounds_toArray, List.set_cons_zero, List.set_cons_succ]
    refine wpAnyH_ready (rs := [4]) (by kernel_rfl) (by simp) ?_
    refine AllReadyH.cons rfl (fun KQ hKQ => ?_) AllReadyH.nil
    go_simp
    refine hKQ.out _ _ ?_ (fun hHeld => ?_)
    · exact P2
    clear hKQ KQ
    try simp only [Act.put, List.getElem_toArray, List.getElem_cons_zero, List.getElem_cons_succ, List.setIfInBounds_toArray, List.set_cons_zero, List.set_cons_succ]
    refine wpAnyH_ready (rs := [7]) (by kernel_rfl) (by simp) ?_
    refine AllReadyH.cons rfl (fun KQ hKQ => ?_) AllReadyH.nil
    refine step_app rfl (.tmp 41) (.tmp 43) 30 rfl rfl (by rfl) HR9.out ?_
    refine hKQ.out _ _ ?_ (fun hHeld => ?_)
    · exact P3
    clear hKQ KQ
    try simp only [Act.put, List.getElem_toArray, List.getElem_cons_zero, List.getElem_cons_succ, List.setIfInBounds_toArray, List.set_cons_zero, List.set_cons_succ]
    refine wpAnyH_take (i := 8) (v := ?v15) rfl (by kernel_rfl) (by kernel_rfl) (by kernel_rfl) (fun _ _ _ h => h) (Or.inl ⟨by rfl, ?hy15⟩) (by assumption) ?rest15
    case hy15 => (intro w0 hSw; (try dsimp only at hSw); go_simp; try with_reducible rfl)
    try simp only [Act.put, List.getElem_toArray, List.getElem_cons_zero, List.getElem_cons_succ, List.setIfInBounds_toArray, List.set_cons_zero, List.set_cons_succ]
    refine wpAnyH_take (i := 9) (v := ?v16) rfl (by kernel_rfl) (by kernel_rfl) (by kernel_rfl) (fun _ _ _ h => h) (Or.inl ⟨by rfl, ?hy16⟩) (by assumption) ?rest16
    case hy16 => (intro w0 hSw; (try dsimp only at hSw); go_simp; try with_reducible rfl)
    try simp only [Act.put, List.getElem_toArray, List.getElem_cons_zero, List.getElem_cons_succ, List.setIfInBounds_toArray, List.set_cons_zero, List.set_cons_succ]
    refine wpAnyH_ready (rs := [10]) (by kernel_rfl) (by simp) ?_
    refine AllReadyH.cons rfl (fun KQ hKQ => ?_) AllReadyH.nil
    go_simp
    refine hKQ.out _ _ ?_ (fun hHeld => ?_)
    · exact P4
    clear hKQ KQ
    try simp only [Act.put, List.getElem_toArray, List.getElem_cons_zero, List.getElem_cons_succ, List.setIfInBounds_toArray, List.set_cons_zero, List.set_cons_succ]
    refine wpAnyH_ready (rs := [11]) (by kernel_rfl) (by simp) ?_
    refine AllReadyH.cons rfl (fun KQ hKQ => ?_) AllReadyH.nil
    refine step_app rfl (.tmp 37) (.tmp 47) 43 rfl rfl (by rfl) HR11.out ?_
    refine hKQ.out _ _ ?_ (fun hHeld => ?_)
    · exact P5
    clear hKQ KQ
    try simp only [Act.put, List.getElem_toArray, List.getElem_cons_zero, List.getElem_cons_succ, List.setIfInBounds_toArray, List.set_cons_zero, List.set_cons_succ]
    refine wpAnyH_done (by kernel_rfl) ?_ _
    change wpList _ _ _ _ _ _
    clear P1 P2 P3 P4 P5 hHeld
    go_wp2_with (at_builtin; refine wpList_app rfl (.tmp 53) (.tmp 59) 43 rfl rfl rfl HR12.out ?_)
    go_ret
    exact HFIN.out
end Go.Proofs.Ytghpbhcnblninaa.tbl
