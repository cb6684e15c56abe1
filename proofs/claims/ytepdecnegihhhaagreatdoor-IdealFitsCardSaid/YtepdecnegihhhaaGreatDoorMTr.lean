/- The reference's table in memory: a struct of one slice, whose rows are key, number and slice of .. -/
import Derived.Test.YtepdecnegihhhaaGreatDoorMTq
import Derived.Laws.OwnMore
import Derived.Test.YtepdecnegihhhaaGreatDoorByG
import Derived.Test.YtepdecnegihhhaaGreatDoorMBy
set_option linter.unusedSimpArgs false
set_option linter.unusedVariables false
namespace Go.Proofs.YtepdecnegihhhaaGreatDoor.tbl
section
open Go.RowKit
attribute [local go_sem ↓] Go.wp_at_zero Go.wp_at_succ
open grp (gof gof_in fits fits_wf IRow intV below_on' below_made ret_bool own_below own_cases)
structure Rw where
 key : Int
 acc : Int
 a : Option Addr
 ns : List Int
 cap : Nat
def Rw.cells (r : Rw) : List Value := [.int .i64 r.key, .int .i64 r.acc, .slice r.a r.ns.length r.cap]
def Rw.p (r : Rw) : Int × Cl := (r.key, (r.acc, r.ns))
def cells3 (rs : List Rw) : List Value := rs.flatMap Rw.cells
theorem cells3_nil : cells3 [] = [] := rfl
theorem cells3_cons (r : Rw) (rs : List Rw) : cells3 (r :: rs) = r.cells ++ cells3 rs := rfl
theorem cells3_append (rs qs : List Rw) : cells3 (rs ++ qs) = cells3 rs ++ cells3 qs := by simp [cells3]
theorem cells3_len (rs : List Rw) : (cells3 rs).length = rs.length * 3 := by
 induction rs with
 | nil => rfl
 | cons r rs ih => rw [cells3_cons, List.length_append, ih]; simp [Rw.cells]; omega
theorem cells3_get {rs : List Rw} {k j : Nat} (hk : k < rs.length) (hj : j < 3) : (cells3 rs)[k * 3 + j]? = rs[k].cells[j]? := by
 induction rs generalizing k with
 | nil => simp at hk
 | cons r rs ih =>
  rw [cells3_cons]
  cases k with
  | zero => rw [List.getElem?_append_left (by simp [Rw.cells]; omega)]; simp
  | succ k =>
   rw [List.getElem?_append_right (by simp [Rw.cells]; omega)]
   have h3 : r.cells.length = 3 := rfl
   rw [h3, show (k + 1) * 3 + j - 3 = k * 3 + j by omega, ih (by simpa using hk)]
   rfl
theorem cells3_one (rs : List Rw) : ∀ u ∈ cells3 rs, u.oneCell' = true := by
 intro u hu
 obtain ⟨r, -, hu⟩ := List.mem_flatMap.1 hu
 simp [Rw.cells] at hu
 rcases hu with rfl | rfl | rfl <;> rfl
def Sr (w : World) (v : Value) (rs : List Rw) : Prop :=
 ∃ a c, v = .slice a rs.length c ∧ (a = none → c = 0) ∧ rs.length ≤ c ∧ c ≤ maxLen ∧
  (0 < rs.length → ∃ g o cur fr, a = some ⟨g, o, none⟩ ∧ w.heap[g]? = some (.cells cur 101 fr) ∧ ∀ j u, (cells3 rs)[j]? = some u → w.cell? ⟨g, o + j, none⟩ = some u)
def Rows3 (w w' : World) : Prop := ∀ (g : Nat) (cur : Array Value) (fr : Nat × Nat), w.heap[g]? = some (.cells cur 101 fr) → w'.heap[g]? = some (.cells cur 101 fr)
theorem Rows3.of_below {w w' : World} (h : Below w.heap.size w w') : Rows3 w w' := fun g cur fr hg => (h.block g (lt_of_get hg)).trans hg
theorem Sr.keep {w w' : World} {v : Value} {rs : List Rw} (h : Sr w v rs) (hr : Rows3 w w') : Sr w' v rs := by
 obtain ⟨a, c, h1, h2, h3, h4, h5⟩ := h
 refine ⟨a, c, h1, h2, h3, h4, fun hl => ?_⟩
 obtain ⟨g, o, cur, fr, e1, e2, e3⟩ := h5 hl
 refine ⟨g, o, cur, fr, e1, hr g cur fr e2, fun j u hu => ?_⟩
 rw [World.cell?_of_block (w := w) (a := ⟨g, o + j, none⟩) ((hr g cur fr e2).trans e2.symm)]
 exact e3 j u hu
theorem Sr.at {w : World} {v : Value} {rs : List Rw} (h : Sr w v rs) {k : Nat} (hk : k < rs.length) :
  ∃ g o c, v = .slice (some ⟨g, o, none⟩) rs.length c ∧ w.cell? ⟨g, o + k * 3, none⟩ = some (.int .i64 rs[k].key) ∧ w.cell? ⟨g, o + k * 3 + 1, none⟩ = some (.int .i64 rs[k].acc) ∧ w.cell? ⟨g, o + k * 3 + 2, none⟩ = some (.slice rs[k].a rs[k].ns.length rs[k].cap) := by
 obtain ⟨a, c, h1, h2, h3, h4, h5⟩ := h
 obtain ⟨g, o, cur, fr, rfl, e2, e3⟩ := h5 (by omega)
 refine ⟨g, o, c, h1, ?_, ?_, ?_⟩
 · exact e3 (k * 3) _ (by rw [show k * 3 = k * 3 + 0 by omega, cells3_get hk (by omega)]; rfl)
 · have := e3 (k * 3 + 1) _ (by rw [cells3_get hk (by omega)]; rfl)
   rwa [← Nat.add_assoc] at this
 · have := e3 (k * 3 + 2) _ (by rw [cells3_get hk (by omega)]; rfl)
   rwa [← Nat.add_assoc] at this
theorem Sr.len {w : World} {v : Value} {rs : List Rw} (h : Sr w v rs) : ∃ a c, v = .slice a rs.length c := by
 obtain ⟨a, c, h1, _⟩ := h; exact ⟨a, c, h1⟩
theorem Sr.own {w : World} {B n : Nat} {v : Value} {rs : List Rw} (h : w.ownsRow B 101 3 v n (cells3 rs)) : n = rs.length ∧ Sr w v rs := by
 have hn : n = rs.length := by have := h.1; rw [cells3_len] at this; omega
 subst hn
 refine ⟨rfl, ?_⟩
 rcases h.2 with ⟨rfl, h0⟩ | ⟨g, cap, cur, rfl, hBg, hb, h1, h2, h3, h4⟩
 · exact ⟨none, 0, by rw [h0], fun _ => rfl, by omega, by decide, fun h1 => by omega⟩
 · refine ⟨_, cap, rfl, (fun e => by cases e), by omega, by omega, fun _ => ⟨g, 0, cur, _, rfl, hb, fun j u hu => ?_⟩⟩
   have hj : j < rs.length * 3 := by rw [← cells3_len]; exact (List.getElem?_eq_some_iff.1 hu).1
   have h5 : (cur.toList.take (rs.length * 3))[j]? = (cells3 rs)[j]? := by rw [h4]
   rw [List.getElem?_take_of_lt (by omega)] at h5
   rw [cell_of_row w g (0 + j) _ _ _ hb, Nat.zero_add, ← Array.getElem?_toList, h5, hu]
def IsRs (w : World) (r : Nat) (rs : List Rw) : Prop := ∃ v, w.heap[r]? = some (.cells #[v] 98 (0, 0)) ∧ Sr w v rs ∧ ∀ x ∈ rs, NA w x.a x.cap x.ns
structure IsRef (w : World) (r : Nat) (L : Rows) : Prop where
 good : Good L
 rows : ∃ rs, rs.map Rw.p = L ∧ IsRs w r rs
theorem IsRs.keep {w w' : World} {r : Nat} {rs : List Rw} (h : IsRs w r rs) (hr : w'.heap[r]? = w.heap[r]?) (h3 : Rows3 w w') (h2 : Rows2 w w') : IsRs w' r rs := by
 obtain ⟨v, e1, e2, e3⟩ := h
 exact ⟨v, hr.trans e1, e2.keep h3, fun x hx => (e3 x hx).keep h2⟩
theorem IsRs.lt {w : World} {r : Nat} {rs : List Rw} (h : IsRs w r rs) : r < w.heap.size := by obtain ⟨v, e1, _⟩ := h; exact lt_of_get e1
theorem IsRs.below {w w' : World} {r : Nat} {rs : List Rw} (h : IsRs w r rs) (hb : Below w.heap.size w w') : IsRs w' r rs := h.keep (hb.block r h.lt) (.of_below hb) (.of_below hb)
theorem IsRef.below {w w' : World} {r : Nat} {L : Rows} (h : IsRef w r L) (hb : Below w.heap.size w w') : IsRef w' r L := by
 obtain ⟨rs, e, h1⟩ := h.rows
 exact ⟨h.good, rs, e, h1.below hb⟩
end
section
open Go.RowKit
attribute [local go_sem ↓] Go.wp_at_zero Go.wp_at_succ
open grp (gof gof_in fits fits_wf IRow intV below_on' below_made ret_bool own_below own_cases rof_any ret_int below_drewN irow_new EqPost eq_yes eq_no)
theorem rless_any (a b : Int) (w : World) (ha : fits a) (hb : fits b) : Calls Tryz.prog 39 #[.int .i64 a, .int .i64 b] w fun e w' => e = .returned (.bool (lessB a b)) ∧ w' = w := by
 have HA := Lib.hid (rof_any a w ha)
 have HB := Lib.hid (rof_any b w hb)
 have HL : Hid (lessB a b = (decide (gof a < gof b) || (decide (gof a = gof b) && decide (a < b)))) := Lib.hid rfl
 obtain ⟨x, hx⟩ : ∃ x, gof a = x := ⟨_, rfl⟩
 obtain ⟨y, hy⟩ : ∃ y, gof b = y := ⟨_, rfl⟩
 rw [hx] at HA HL
 rw [hy] at HB HL
 clear hx hy ha hb
 go_enter Tryz.func39, Tryz.ntmps39
 go_wp2_with fail
 refine HA.out.mono ?_
 rintro e w1 ⟨rfl, rfl⟩
 go_wp2_with fail
 refine HB.out.mono ?_
 rintro e w1 ⟨rfl, rfl⟩
 by_cases h1 : x < y
 · go_wp2_with fail
   go_ret
   exact ⟨ret_bool (by rw [HL.out]; simp [h1]), rfl⟩
 · by_cases h2 : x = y
   · subst h2
     go_wp2_with fail
     go_ret
     exact ⟨ret_bool (by rw [HL.out]; simp), rfl⟩
   · have hne : (x == y) = false := by simp [h2]
     go_wp2_with fail
     go_ret
     exact ⟨ret_bool (by rw [HL.out]; simp [h1, h2]), rfl⟩
end
section
open Go.RowKit
attribute [local go_sem ↓] Go.wp_at_zero Go.wp_at_succ
open grp (gof gof_in fits fits_wf IRow intV below_on' below_made ret_bool own_below own_cases rof_any ret_int below_drewN irow_new EqPost eq_yes eq_no)
theorem cnt_snoc (L : Rows) (p : Int × Cl) (g : Int) : cnt (L ++ [p]) g = cnt L g + (if gof p.1 = g then 1 else 0) := by
 unfold cnt
 rw [List.filter_append, List.length_append]
 by_cases h : gof p.1 = g
 · rw [if_pos h]; simp [h]
 · rw [if_neg h]; simp [h]
theorem cnt_take {rs : List Rw} {j : Nat} (h : j < rs.length) (g : Int) : cnt ((rs.take (j + 1)).map Rw.p) g = cnt ((rs.take j).map Rw.p) g + (if gof rs[j].key = g then 1 else 0) := by
 rw [List.take_succ_eq_append_getElem h, List.map_append]
 exact cnt_snoc _ _ _
set_option maxHeartbeats 1600000 in
set_option maxRecDepth 1000000 in
theorem many_any {w : World} {r : Nat} {rs : List Rw} (h : IsRs w r rs) (hG : Good (rs.map Rw.p)) (gq : Int) :
  Calls Tryz.prog 40 #[.pointer (some ⟨r, 0, none⟩), .int .i64 gq] w fun e w' => e = .returned (.int .i64 (cnt (rs.map Rw.p) gq : Nat)) ∧ Below w.heap.size w w' := by
 obtain ⟨v, hr, hs, -⟩ := h
 have HS := Lib.hid hs
 have c0 := cell_of_row w r 0 _ _ _ hr
 have HC := Lib.hid c0
 have hlen : rs.length ≤ 320 := by have := hG.len; rwa [List.length_map] at this
 have HKF : Hid (∀ j (h : j < rs.length), fits rs[j].key) := Lib.hid (fun j hj => hG.key rs[j].p (List.mem_map_of_mem (List.getElem_mem hj)))
 obtain ⟨n, hn⟩ : ∃ n, rs.length = n := ⟨_, rfl⟩
 have HN := Lib.hid hn
 obtain ⟨a0, c1, hv⟩ := hs.len
 rw [hn] at hlen hv
 have HV := Lib.hid hv
 have HLE : Hid (∀ j, cnt ((rs.take j).map Rw.p) gq ≤ 320) := Lib.hid (fun j => by
  have h1 := cnt_le ((rs.take j).map Rw.p) gq
  rw [List.length_map, List.length_take] at h1
  omega)
 clear hr hs hG hn c0
 go_enter Tryz.func40, Tryz.ntmps40
 go_wp2_with fail
 go_loopg [5, 6] n (fun g v5 v6 wr => ∃ j : Nat, j + g = n ∧ v6 = .int .i64 j ∧ v5 = .int .i64 (cnt ((rs.take j).map Rw.p) gq : Nat) ∧ Below w.heap.size w wr)
 case atStart => exact ⟨0, by omega, rfl, rfl, Below.refl _ _⟩
 case round =>
  obtain ⟨j, hjg, rfl, rfl, hb⟩ := hrel
  have HB := Lib.hid hb
  have hsz := hb.size
  have hcl := HLE.out j
  cases gk with
  | succ g =>
   have hjn : j < rs.length := by rw [HN.out]; omega
   obtain ⟨gb, o, c2, hv2, e1, -, -⟩ := HS.out.at hjn
   rw [HN.out] at hv2
   rw [HV.out] at hv2
   obtain ⟨rfl, rfl⟩ : a0 = some ⟨gb, o, none⟩ ∧ c1 = c2 := by injection hv2 with h1 h2 h3; exact ⟨h1, h3⟩
   have hc := (hb.cell (p := ⟨r, 0, none⟩) (World.block_lt_of_cell? w _ HC.out)).trans HC.out
   rw [HV.out] at hc
   change wr.cell? ⟨r, 0, none⟩ = some (.slice (some ⟨gb, o, none⟩) n c1) at hc
   have hck := (hb.cell (p := ⟨gb, o + j * 3, none⟩) (World.block_lt_of_cell? w _ e1)).trans e1
   have HOF := Lib.hid (rof_any rs[j].key wr (HKF.out j hjn))
   have HCT := Lib.hid (cnt_take hjn gq)
   obtain ⟨x, hx⟩ : ∃ x, rs[j].key = x := ⟨_, rfl⟩
   rw [hx] at hck HOF HCT
   obtain ⟨gx, hgx⟩ : ∃ g, gof x = g := ⟨_, rfl⟩
   rw [hgx] at HOF HCT
   have hlt : (j : Int) < (n : Int) := by have := HN.out; omega
   have hj0 : (0 : Int) ≤ (j : Int) := by omega
   obtain ⟨ct, hct⟩ : ∃ c, cnt ((rs.take j).map Rw.p) gq = c := ⟨_, rfl⟩
   rw [hct] at hcl HCT ⊢
   clear hx e1 hv2 hb hjn hgx hct
   by_cases hgg : gx = gq
   · subst hgg
     rw [if_pos rfl] at HCT
     go_wp2_with fail
     refine HOF.out.mono ?_
     rintro e w1 ⟨rfl, rfl⟩
     go_wp2_with fail
     go_roundg g
     case measure => omega
     case rel => exact ⟨j + 1, by omega, by go_num, by rw [HCT.out]; go_num, HB.out⟩
   · have hne : (gx == gq) = false := by simp [hgg]
     rw [if_neg hgg] at HCT
     go_wp2_with fail
     refine HOF.out.mono ?_
     rintro e w1 ⟨rfl, rfl⟩
     go_wp2_with fail
     go_roundg g
     case measure => omega
     case rel => exact ⟨j + 1, by omega, by go_num, by rw [HCT.out]; rfl, HB.out⟩
  | zero =>
   have hnn : ¬ ((j : Int) < (n : Int)) := by omega
   have hc := (hb.cell (p := ⟨r, 0, none⟩) (World.block_lt_of_cell? w _ HC.out)).trans HC.out
   rw [HV.out] at hc
   change wr.cell? ⟨r, 0, none⟩ = some (.slice a0 n c1) at hc
   obtain ⟨ct, hct⟩ : ∃ c, cnt ((rs.take j).map Rw.p) gq = c := ⟨_, rfl⟩
   have HE : Hid (ct = cnt (rs.map Rw.p) gq) := Lib.hid (by rw [← hct, List.take_of_length_le (by have := HN.out; omega)])
   rw [hct]
   clear hb hct
   go_wp2_with fail
   try rw [Exit.noGoto_ret]
   go_ret
   exact ⟨ret_int (congrArg Nat.cast HE.out), HB.out⟩
end
end Go.Proofs.YtepdecnegihhhaaGreatDoor.tbl
namespace Go.Proofs.YtepdecnegihhhaaGreatDoor.tbl.ref
section
open Go.RowKit
attribute [local go_sem ↓] Go.wp_at_zero Go.wp_at_succ
open grp (gof gof_in fits fits_wf IRow intV below_on' below_made ret_bool own_below ret_int)
open byt (txt bl)
def RdAt (w : World) (R : Nat) (s : St) : Prop := w.heap[R]? = some (.cells #[.string (txt s.1), .int .i64 s.2] 95 (0, 0))
theorem RdAt.facts {w : World} {R : Nat} {s : St} (h : RdAt w R s) : w.cell? ⟨R, 0, none⟩ = some (.string (txt s.1)) ∧ w.cell? ⟨R, 1, none⟩ = some (.int .i64 s.2) ∧ w.frozen? ⟨R, 0, none⟩ = false ∧ w.frozen? ⟨R, 1, none⟩ = false :=
 ⟨by rw [cell_of_row w R 0 _ _ _ h]; rfl, by rw [cell_of_row w R 1 _ _ _ h]; rfl, frozen_of_row w R 0 _ _ h, frozen_of_row w R 1 _ _ h⟩
theorem RdAt.setC {w : World} {R : Nat} {s : St} (h : RdAt w R s) (c : Int) : RdAt (w.setCell ⟨R, 1, none⟩ (.int .i64 c)) R (s.1, c) := by
 unfold RdAt at *
 rw [heap_setCell_same w R 1 _ _ _ h]; rfl
theorem RdAt.below {w w' : World} {R : Nat} {s : St} (h : RdAt w R s) (hb : Below w.heap.size w w') : RdAt w' R s := (hb.block R (lt_of_get h)).trans h
def NumPost (R : Nat) (s : St) (w : World) (e : Ending) (w' : World) : Prop := e = .returned (.int .i64 (numO s).1) ∧ RdAt w' R (numO s).2 ∧ Only (· = R) w w'
theorem rows_R {w w' : World} {R : Nat} {s : St} (h : RdAt w R s) (ho : Only (· = R) w w') : Rows2 w w' := .of_only ho (fun g cur fr hg he => by rw [hg, h] at he; cases he)
theorem take_words {l : List UInt8} {n : Int} {k : Nat} {c : Int} (h : byt.take l = (n, k, c)) (w : World) (hl : (txt l).size ≤ 9223372036854775807) :
  Calls Tryz.prog 69 #[.string (txt l)] w fun e w' => e = .returned (.tuple #[.int .i64 n, .int .i64 k, .int .i64 c]) ∧ w' = w := by
 refine (byt.refTake_any (txt l) w hl).mono ?_
 rintro e w' ⟨he, rfl⟩
 refine ⟨?_, rfl⟩
 rw [he]
 unfold byt.takeE
 rw [byt.txt_bl, h]
set_option maxHeartbeats 800000 in
theorem number_any {w : World} {R : Nat} {s : St} (h : RdAt w R s) (hl : s.1.length ≤ 140737488355328) : Calls Tryz.prog 38 #[.pointer (some ⟨R, 0, none⟩)] w (NumPost R s w) := by
 obtain ⟨c0, c1, f0, f1⟩ := h.facts
 have hP : NumPost R s w = fun e w' => e = .returned (.int .i64 (numO s).1) ∧ RdAt w' R (numO s).2 ∧ Only (· = R) w w' := rfl
 rw [hP]
 by_cases h2 : s.2 = 0
 · have hsz : (txt s.1).size ≤ 9223372036854775807 := by rw [byt.txt_size]; omega
   obtain ⟨n, hn⟩ : ∃ n, (byt.take s.1).1 = n := ⟨_, rfl⟩
   obtain ⟨k, hk⟩ : ∃ n, (byt.take s.1).2.1 = n := ⟨_, rfl⟩
   obtain ⟨c, hc⟩ : ∃ n, (byt.take s.1).2.2 = n := ⟨_, rfl⟩
   have ht : byt.take s.1 = (n, k, c) := by rw [← hn, ← hk, ← hc]
   have hks : k ≤ (txt s.1).size := by
    rw [byt.txt_size]
    by_cases e : c = 0
    · have := (byt.take_size (by rw [hc]; exact e)).2.2.1; omega
    · rcases byt.take_bad (by rw [hc]; exact e) with e2 | e2 <;> (rw [e2] at hk; simp at hk; omega)
   have hO : numO s = (n, (s.1.drop k, c)) := by rw [num_ok h2, hn, hk, hc]
   have HTA := Lib.hid (take_words ht w hsz)
   have hki : (k : Int) ≤ ((txt s.1).size : Int) := by omega
   have he := txt_drop s.1 k
   have HF : Hid (RdAt ((w.setCell ⟨R, 1, none⟩ (.int .i64 c)).setCell ⟨R, 0, none⟩ (.string (txt (s.1.drop k)))) R (s.1.drop k, c)) := Lib.hid (by
    have h1 := h.setC c
    unfold RdAt at h1 ⊢
    rw [heap_setCell_same _ R 0 _ _ _ h1]; rfl)
   have HQ : Hid (Only (· = R) w ((w.setCell ⟨R, 1, none⟩ (.int .i64 c)).setCell ⟨R, 0, none⟩ (.string (txt (s.1.drop k))))) := Lib.hid ((Only.setCell w R 1 _).then (Only.setCell _ R 0 _))
   rw [hO]
   rw [h2] at c1
   obtain ⟨S, hS⟩ : ∃ S, txt s.1 = S := ⟨_, rfl⟩
   obtain ⟨T, hT⟩ : ∃ T, txt (s.1.drop k) = T := ⟨_, rfl⟩
   rw [hS] at c0 hks hki HTA he
   rw [hT] at he HF HQ
   obtain ⟨Z, hZ⟩ : ∃ Z, S.size = Z := ⟨_, rfl⟩
   rw [hZ] at hks hki he
   clear hP h hl hsz hn hk hc ht hO h2 hS hT
   go_enter Tryz.func38, Tryz.ntmps38
   go_wp2_with fail
   refine HTA.out.mono ?_
   rintro e w1 ⟨rfl, rfl⟩
   go_wp2_with fail
   go_ret
   exact ⟨rfl, HF.out, HQ.out⟩
 · have hne : (s.2 != 0) = true := by simp [h2]
   have HF := Lib.hid h
   rw [num_bad h2]
   obtain ⟨c, hc⟩ : ∃ c, s.2 = c := ⟨_, rfl⟩
   rw [hc] at c1 hne
   clear hP h hl h2 hc
   go_enter Tryz.func38, Tryz.ntmps38
   go_wp2_with fail
   go_ret
   exact ⟨rfl, HF.out, Only.refl _ _⟩
theorem within_any {w : World} {R : Nat} {s : St} (most : Int) (hmo : 0 ≤ most) (h : RdAt w R s) (hl : s.1.length ≤ 140737488355328) : Calls Tryz.prog 37 #[.pointer (some ⟨R, 0, none⟩), .int .i64 most] w fun e w' => e = .returned (.int .i64 (withinO most s).1) ∧ RdAt w' R (withinO most s).2 ∧ Only (· = R) w w' := by
 have HN := Lib.hid (number_any h hl)
 unfold NumPost at HN
 have HW : Hid (withinO most s = if (numO s).1 < 0 ∨ most < (numO s).1 then (0, ((numO s).2.1, 21)) else numO s) := Lib.hid rfl
 have hz := num_zero (s := s)
 obtain ⟨n, hn⟩ : ∃ n, (numO s).1 = n := ⟨_, rfl⟩
 obtain ⟨s1, hs1⟩ : ∃ s1, (numO s).2 = s1 := ⟨_, rfl⟩
 have he : numO s = (n, s1) := by rw [← hn, ← hs1]
 rw [he] at HN HW hz
 dsimp only at HN HW hz
 rw [HW.out]
 clear h hl HW hn hs1 he
 by_cases hs0 : s1.2 = 0
 · by_cases h0 : n < 0
   · rw [if_pos (.inl h0)]
     clear hz
     go_enter Tryz.func37, Tryz.ntmps37
     go_wp2_with fail
     refine HN.out.mono ?_
     rintro e w1 ⟨rfl, hr, ho⟩
     obtain ⟨c0, c1, f0, f1⟩ := hr.facts
     rw [hs0] at c1
     have HF := Lib.hid (hr.setC 21)
     have HO := Lib.hid (ho.then (Only.setCell w1 R 1 (.int .i64 21)))
     clear hr ho
     go_wp2_with fail
     go_ret
     exact ⟨rfl, HF.out, HO.out⟩
   · by_cases h1 : most < n
     · rw [if_pos (.inr h1)]
       clear hz
       go_enter Tryz.func37, Tryz.ntmps37
       go_wp2_with fail
       refine HN.out.mono ?_
       rintro e w1 ⟨rfl, hr, ho⟩
       obtain ⟨c0, c1, f0, f1⟩ := hr.facts
       rw [hs0] at c1
       have HF := Lib.hid (hr.setC 21)
       have HO := Lib.hid (ho.then (Only.setCell w1 R 1 (.int .i64 21)))
       clear hr ho
       go_wp2_with fail
       go_ret
       exact ⟨rfl, HF.out, HO.out⟩
     · rw [if_neg (fun e => by rcases e with e | e; exact h0 e; exact h1 e)]
       clear hz
       go_enter Tryz.func37, Tryz.ntmps37
       go_wp2_with fail
       refine HN.out.mono ?_
       rintro e w1 ⟨rfl, hr, ho⟩
       obtain ⟨c0, c1, f0, f1⟩ := hr.facts
       rw [hs0] at c1
       have HF := Lib.hid hr
       have HO := Lib.hid ho
       clear hr ho
       go_wp2_with fail
       go_ret
       exact ⟨rfl, HF.out, HO.out⟩
 · have hn0 := hz hs0
   subst hn0
   rw [if_neg (fun e => by omega)]
   clear hz
   go_enter Tryz.func37, Tryz.ntmps37
   go_wp2_with fail
   refine HN.out.mono ?_
   rintro e w1 ⟨rfl, hr, ho⟩
   obtain ⟨c0, c1, f0, f1⟩ := hr.facts
   have HF := Lib.hid hr
   have HO := Lib.hid ho
   obtain ⟨c, hc⟩ : ∃ c, s1.2 = c := ⟨_, rfl⟩
   rw [hc] at c1 hs0
   have hne : (c != 0) = true := by simp [hs0]
   have hne2 : (c == 0) = false := by simp [hs0]
   clear hr ho hc
   go_wp2_with fail
   go_ret
   exact ⟨rfl, HF.out, HO.out⟩
end
section
open Go.RowKit
attribute [local go_sem ↓] Go.wp_at_zero Go.wp_at_succ
open grp (gof gof_in fits fits_wf IRow intV below_on' below_made ret_bool own_below ret_int)
open byt (txt bl)
def CellRel (w wr : World) (B R N : Nat) (x : Int) (s : St) (k : Nat) : Prop :=
 ∃ v a cap, v = Value.slice a k cap ∧ Box2 wr N (x, a, k, cap) ∧ wr.ownsRow B 2 1 v k ((numsR k s).1.map intV) ∧ RdAt wr R (numsR k s).2 ∧ Only (· = R) w wr
theorem cell_step {w wr W1 w6 : World} {B R N : Nat} {x : Int} {s : St} {k : Nat} {v v5 : Value} {n : Int} {c : Cv} (hw : w.heap.size ≤ N) (hB : w.heap.size ≤ B)
  (hn : n = (numO (numsR k s).2).1) (hv : wr.ownsRow B 2 1 v k ((numsR k s).1.map intV)) (ho : Only (· = R) w wr) (hNR : N ≠ R)
  (h1 : RdAt W1 R (numO (numsR k s).2).2) (h1o : Only (· = R) wr W1) (hbx : Box2 W1 N c) (hc : c.1 = x)
  (h5 : w6.ownsRow B 2 1 v5 (k + 1) (((numsR k s).1 ++ [n]).map intV)) (hg : (W1.alloc (.cells #[.int .i64 n] 2)).grownBy w6 v.ownBlock) (hvo : W1.ownsRow B 2 1 v k ((numsR k s).1.map intV)) :
  Box2 w6 N c ∧ ∀ a cap, v5 = .slice a (k + 1) cap → CellRel w (w6.setCell ⟨N, 1, none⟩ (.slice a (k + 1) cap)) B R N x s (k + 1) := by
 have hb6 : ∀ j o, W1.heap[j]? = some o → (∀ cur : Array Value, o ≠ Obj.cells cur 2 (0, 0)) → w6.heap[j]? = some o := fun j o hj hno => by
  have hlt := lt_of_get hj
  rw [hg.block j (by rw [World.size_alloc]; omega) (fun e => by
   obtain ⟨cur, h2, _⟩ := own_blk hvo e.symm
   rw [hj] at h2
   exact hno cur (Option.some.inj h2)), Below.heap_alloc _ _ _ hlt]
  exact hj
 have hx6 : Box2 w6 N c := hb6 N _ hbx (fun cur e => by cases e)
 have hr6 : RdAt w6 R (numO (numsR k s).2).2 := hb6 R _ h1 (fun cur e => by cases e)
 refine ⟨hx6, fun a cap e => ?_⟩
 subst e
 have hne : ∀ j, (Value.slice a (k + 1) cap).ownBlock = some j → j ≠ N := fun j hj e => by
  obtain ⟨cur, h2, _⟩ := own_blk h5 hj
  rw [e, hx6] at h2; cases h2
 have hr7 : RdAt (w6.setCell ⟨N, 1, none⟩ (.slice a (k + 1) cap)) R (numO (numsR k s).2).2 := (Below.heap_setCell _ _ _ _ (fun e => hNR e.symm)).trans hr6
 have hx7 := hx6.setL a (k + 1) cap
 rw [hc] at hx7
 refine ⟨_, a, cap, rfl, hx7, ?_, ?_, ?_⟩
 · rw [nums_snoc, ← hn]
   exact own_cellset h5 hne _
 · rw [nums_snoc]; exact hr7
 · have h6 : Only (fun i => i = R ∨ B ≤ i) wr w6 :=
    ((h1o.on (below_made _ _)).mono (fun i hi => .inl hi)).then (.of_grown hg (fun j hj => .inr (by obtain ⟨cur, _, h2⟩ := own_blk hvo hj; exact h2)))
   have h7 : Only (· = R) w w6 := ho.trans h6 (fun i hi hlt => by
    rcases hi with hi | hi
    · exact hi
    · omega)
   exact only_box h7 hw _ _
theorem own_blk3 {w : World} {B e sz n : Nat} {v : Value} {xs : List Value} (h : w.ownsRow B e sz v n xs) {j : Nat} (hj : v.ownBlock = some j) : ∃ cur, w.heap[j]? = some (.cells cur e (0, 0)) ∧ B ≤ j := by
 rcases h.2 with ⟨rfl, _⟩ | ⟨g, cap, cur, rfl, h1, h2, _⟩
 · simp [Value.ownBlock] at hj
 · simp [Value.ownBlock] at hj; subst hj; exact ⟨cur, h2, h1⟩
theorem own_only3 {w w' : World} {B e sz n R : Nat} {v : Value} {xs : List Value} (h : w.ownsRow B e sz v n xs) (ho : Only (· = R) w w') (hR : ∀ j, v.ownBlock = some j → j ≠ R) : w'.ownsRow B e sz v n xs :=
 h.kept (row := some R) ⟨ho.os, ho.tape, ho.output, ho.size, fun k hk hne => ho.block k hk (fun e => hne (by rw [e]))⟩ (.inr (fun e => hR R e rfl))
theorem own_below3 {W W' : World} {B e size n : Nat} {v : Value} {xs : List Value} (h : W.ownsRow B e size v n xs) (hb : Below W.heap.size W W') : W'.ownsRow B e size v n xs :=
 h.kept (row := none) ⟨hb.os, hb.tape, hb.output, hb.size, fun k hk _ => hb.block k hk⟩ (by cases hv : v.ownBlock <;> simp)
def Bld (w : World) (r B : Nat) (v : Value) (rs : List Rw) : Prop :=
 w.heap[r]? = some (.cells #[v] 98 (0, 0)) ∧ w.ownsRow B 101 3 v rs.length (cells3 rs) ∧ ∀ x ∈ rs, NA w x.a x.cap x.ns
theorem Bld.isRs {w : World} {r B : Nat} {v : Value} {rs : List Rw} (h : Bld w r B v rs) : IsRs w r rs := ⟨v, h.1, (Sr.own h.2.1).2, h.2.2⟩
theorem Bld.below {w w' : World} {r B : Nat} {v : Value} {rs : List Rw} (h : Bld w r B v rs) (hb : Below w.heap.size w w') : Bld w' r B v rs :=
 ⟨(hb.block r (lt_of_get h.1)).trans h.1, own_below3 h.2.1 hb, fun x hx => (h.2.2 x hx).keep (.of_below hb)⟩
theorem Bld.onlyR {w w' : World} {r B R : Nat} {v : Value} {rs : List Rw} {s : St} (h : Bld w r B v rs) (hr : RdAt w R s) (ho : Only (· = R) w w') : Bld w' r B v rs := by
 refine ⟨(ho.block r (lt_of_get h.1) (fun e => ?_)).trans h.1, own_only3 h.2.1 ho (fun j hj e => ?_), fun x hx => (h.2.2 x hx).keep (rows_R hr ho)⟩
 · have h1 := h.1; rw [e, hr] at h1; cases h1
 · obtain ⟨cur, h2, _⟩ := own_blk3 h.2.1 hj
   rw [e, hr] at h2; cases h2
theorem Bld.more {w w6 : World} {r B : Nat} {v v6 : Value} {rs : List Rw} {x : Rw} {o : Obj} (h : Bld w r B v rs) (hx : NA w x.a x.cap x.ns)
  (h6 : w6.ownsRow B 101 3 v6 (rs.length + 1) (cells3 rs ++ x.cells)) (hg : (w.alloc o).grownBy w6 v.ownBlock) (hBr : r < B) :
  Bld (w6.setCell ⟨r, 0, none⟩ v6) r B v6 (rs ++ [x]) ∧ Only (fun i => i = r ∨ B ≤ i) w (w6.setCell ⟨r, 0, none⟩ v6) ∧ w6.heap[r]? = some (.cells #[v] 98 (0, 0)) := by
 have hkeep : ∀ j ob, w.heap[j]? = some ob → (∀ cur : Array Value, ob ≠ Obj.cells cur 101 (0, 0)) → w6.heap[j]? = some ob := fun j ob hj hno => by
  have hlt := lt_of_get hj
  rw [hg.block j (by rw [World.size_alloc]; omega) (fun e => by
   obtain ⟨cur, h2, _⟩ := own_blk3 h.2.1 e.symm
   rw [hj] at h2
   exact hno cur (Option.some.inj h2)), Below.heap_alloc _ _ _ hlt]
  exact hj
 have hr6 := hkeep r _ h.1 (fun cur e => by cases e)
 have hr2 : Rows2 w (w6.setCell ⟨r, 0, none⟩ v6) := fun g cur fr hgg => by
  rw [Below.heap_setCell _ _ _ _ (fun e => by have h1 := h.1; have e : g = r := e; rw [← e, hgg] at h1; cases h1)]
  exact hkeep g _ hgg (fun cur e => by cases e)
 refine ⟨⟨?_, ?_, fun y hy => ?_⟩, ?_, hr6⟩
 · rw [heap_setCell_same w6 r 0 _ _ _ hr6]; rfl
 · have e1 : (rs ++ [x]).length = rs.length + 1 := by simp
   have e2 : cells3 (rs ++ [x]) = cells3 rs ++ x.cells := by rw [cells3_append]; simp [cells3]
   rw [e1, e2]
   refine h6.kept (row := some r) ⟨rfl, rfl, rfl, by simp [World.setCell], fun k hk hne => Below.heap_setCell _ _ _ _ (fun e => hne (by rw [e]))⟩ (.inr (fun e => ?_))
   obtain ⟨cur, h2, h3⟩ := own_blk3 h6 e
   omega
 · rcases List.mem_append.1 hy with hy | hy
   · exact (h.2.2 y hy).keep hr2
   · rw [List.mem_singleton.1 hy]; exact hx.keep hr2
 · have h1 : Only (fun i => i = r ∨ B ≤ i) w w6 := ((Only.alloc _ w o)).then (.of_grown hg (fun j hj => .inr (by obtain ⟨cur, _, h2⟩ := own_blk3 h.2.1 hj; exact h2)))
   exact h1.then ((Only.setCell w6 r 0 v6).mono (fun i hi => .inl hi))
theorem Bld.kept {w w6 : World} {r B : Nat} {v : Value} {rs : List Rw} {o : Obj} (h : Bld w r B v rs) (hg : (w.alloc o).grownBy w6 v.ownBlock) (j : Nat) (ob : Obj) (hj : w.heap[j]? = some ob) (hno : ∀ cur : Array Value, ob ≠ Obj.cells cur 101 (0, 0)) : w6.heap[j]? = some ob := by
 have hlt := lt_of_get hj
 rw [hg.block j (by rw [World.size_alloc]; omega) (fun e => by
  obtain ⟨cur, h2, _⟩ := own_blk3 h.2.1 e.symm
  rw [hj] at h2
  exact hno cur (Option.some.inj h2)), Below.heap_alloc _ _ _ hlt]
 exact hj
theorem info89 : (Tryz.prog.info? 101).map (fun i => (i.zero.map (·.cells.size), i.size, i.bytes)) = some (some 3, 3, 40) := by kernel_rfl
theorem app3_run {W : World} {B n : Nat} {v u : Value} {xs : List Value} {qs : List Rw} (ho : W.ownsRow B 101 3 v n xs) (h : Sr W u qs) (hl : n + qs.length ≤ 1000000) (hB : B ≤ W.heap.size) (ty : TypeId) :
  ∃ v' w', (Builtin.append_ #[96, 96] ty #[v, u]).run Tryz.prog W = .ok v' w' ∧ w'.ownsRow B 101 3 v' (n + qs.length) (xs ++ cells3 qs) ∧ W.grownBy w' v.ownBlock := by
 obtain ⟨i0, hi, hz0, hz1, hz2⟩ : ∃ i0, Tryz.prog.info? 101 = some i0 ∧ (∃ z, i0.zero = some z ∧ z.cells.size = 3) ∧ i0.size = 3 ∧ i0.bytes = 40 := by
  have := info89
  cases hi : Tryz.prog.info? 101 with
  | none => rw [hi] at this; cases this
  | some i0 =>
   rw [hi] at this
   simp only [Option.map_some, Option.some.injEq, Prod.mk.injEq, Option.map_eq_some_iff] at this
   exact ⟨i0, rfl, this.1, this.2.1, this.2.2⟩
 obtain ⟨z, hz, hz3⟩ := hz0
 obtain ⟨a, c, rfl, h1, h2, h3, h4⟩ := h
 cases a with
 | none =>
  obtain rfl := h1 rfl
  have h0 : qs = [] := by
   cases qs with
   | nil => rfl
   | cons q qs => simp at h2
  subst h0
  refine ⟨v, W, run_append_owned_none W B 96 ty 101 i0 3 Tryz.underlying96 hi v n _ ho, by simpa [cells3_nil] using ho, ⟨rfl, rfl, rfl, Nat.le_refl _, fun _ _ _ => rfl⟩⟩
 | some ad =>
  obtain ⟨v', w', e1, e2, e3, _⟩ := run_append_own (P := Tryz.prog) W B 96 ty 101 i0 z 3 40 Tryz.underlying96 hi hz hz1 hz2 hz3 (by decide) v n xs ho ad qs.length c (cells3 qs) (cells3_len qs)
   (fun j u hu => by
    have hj : 0 < qs.length := by
     cases qs with
     | nil => simp [cells3_nil] at hu
     | cons => simp
    obtain ⟨g, o, cur, fr, h5, h6, h7⟩ := h4 hj
    obtain rfl := Option.some.inj h5
    have hadd : (⟨g, o, none⟩ : Addr).add j = ⟨g, o + j, none⟩ := by unfold Addr.add; split <;> simp_all
    rw [hadd]
    exact h7 j u hu) (cells3_one qs) (by unfold maxLen; omega) (by omega) hB
  exact ⟨v', w', e1, e2, e3⟩
theorem sr_new (W : World) (x : Rw) : Sr (W.alloc (.cells #[.int .i64 x.key, .int .i64 x.acc, .slice x.a x.ns.length x.cap] 101)) (.slice (some ⟨W.heap.size, 0, none⟩) 1 1) [x] := by
 refine ⟨_, 1, rfl, (fun e => by cases e), Nat.le_refl _, by decide, fun _ => ⟨W.heap.size, 0, _, _, rfl, Go.heap_alloc_new W _, fun j u hu => ?_⟩⟩
 rw [cell_of_row _ _ _ _ _ _ (Go.heap_alloc_new W _), Nat.zero_add]
 simp only [cells3, List.flatMap_cons, List.flatMap_nil, List.append_nil, Rw.cells] at hu
 simpa using hu
end
end Go.Proofs.YtepdecnegihhhaaGreatDoor.tbl.ref
