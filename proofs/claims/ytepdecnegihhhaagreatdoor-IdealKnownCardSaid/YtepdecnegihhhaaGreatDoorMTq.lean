/- Plain: what bytes begin with, number by number; the table whose bytes they are. No program in this .. -/
import Derived.Test.YtepdecnegihhhaaGreatDoorMTk
import Derived.Test.YtepdecnegihhhaaGreatDoorMTb
import Derived.Deep.Slices
set_option linter.unusedSimpArgs false
set_option linter.unusedVariables false
namespace Go.Proofs.YtepdecnegihhhaaGreatDoor.tbl
section
open Go.RowKit
open grp (gof gof_in fits)
open byt (sev tf fo flat)
abbrev St := List UInt8 × Int
def numO (s : St) : Int × St := if s.2 ≠ 0 then (0, s) else ((byt.take s.1).1, (s.1.drop (byt.take s.1).2.1, (byt.take s.1).2.2))
def withinO (most : Int) (s : St) : Int × St := if (numO s).1 < 0 ∨ most < (numO s).1 then (0, ((numO s).2.1, 21)) else numO s
def numsR : Nat → St → List Int × St
 | 0, s => ([], s)
 | m + 1, s => ((numO s).1 :: (numsR m (numO s).2).1, (numsR m (numO s).2).2)
def cellO (s : St) : Cl × St :=
 (((numO s).1, (numsR (withinO 16 (numO s).2).1.toNat (withinO 16 (numO s).2).2).1), (numsR (withinO 16 (numO s).2).1.toNat (withinO 16 (numO s).2).2).2)
def badB (L : Rows) (k : Int) : Bool := (match L.getLast? with | none => false | some p => !lessB p.1 k) || decide (40 ≤ cnt L (gof k))
def goO : Nat → Rows → St → Int × Rows × St
 | 0, L, s => (0, L, s)
 | m + 1, L, s =>
  if (cellO (numO s).2).2.2 ≠ 0 then ((cellO (numO s).2).2.2, [], (cellO (numO s).2).2)
  else if badB L (numO s).1 = true then (21, [], (cellO (numO s).2).2)
  else goO m (L ++ [((numO s).1, (cellO (numO s).2).1)]) (cellO (numO s).2).2
def endO (r : Int × Rows × St) : Int × Rows := if r.1 ≠ 0 then (r.1, []) else if r.2.2.2 ≠ 0 then (r.2.2.2, []) else if r.2.2.1 ≠ [] then (21, []) else (0, r.2.1)
def takeT (l : List UInt8) : Int × Rows := endO (goO (withinO 320 (l, 0)).1.toNat [] (withinO 320 (l, 0)).2)
theorem num_bad {s : St} (h : s.2 ≠ 0) : numO s = (0, s) := by unfold numO; rw [if_pos h]
theorem num_ok {s : St} (h : s.2 = 0) : numO s = ((byt.take s.1).1, (s.1.drop (byt.take s.1).2.1, (byt.take s.1).2.2)) := by unfold numO; rw [if_neg (by simp [h])]
theorem num_fits (s : St) : fits (numO s).1 := by
 by_cases h : s.2 = 0
 · rw [num_ok h]
   by_cases h2 : (byt.take s.1).2.2 = 0
   · have := byt.take_size h2; exact ⟨this.2.2.2.1, this.2.2.2.2⟩
   · rcases byt.take_bad h2 with e | e <;> (rw [e]; exact ⟨by simp, by simp⟩)
 · rw [num_bad h]; exact ⟨by simp, by simp⟩
theorem num_zero {s : St} (h : (numO s).2.2 ≠ 0) : (numO s).1 = 0 := by
 by_cases h1 : s.2 = 0
 · rw [num_ok h1] at h ⊢
   rcases byt.take_bad h with e | e <;> rw [e]
 · rw [num_bad h1]
theorem within_in {most : Int} (hm : 0 ≤ most) (s : St) : 0 ≤ (withinO most s).1 ∧ (withinO most s).1 ≤ most := by
 unfold withinO
 split
 · exact ⟨by simp, hm⟩
 · omega
theorem nums_snoc : ∀ (k : Nat) (s : St), numsR (k + 1) s = ((numsR k s).1 ++ [(numO (numsR k s).2).1], (numO (numsR k s).2).2)
 | 0, s => rfl
 | k + 1, s => by
  have h := nums_snoc k (numO s).2
  show ((numO s).1 :: (numsR (k + 1) (numO s).2).1, (numsR (k + 1) (numO s).2).2) = _
  rw [h]
  rfl
theorem nums_len : ∀ (k : Nat) (s : St), (numsR k s).1.length = k
 | 0, s => rfl
 | k + 1, s => by show ((numsR k (numO s).2).1.length + 1) = _; rw [nums_len k]
theorem nums_fits : ∀ (k : Nat) (s : St), ∀ x ∈ (numsR k s).1, fits x
 | 0, s => by simp [numsR]
 | k + 1, s => fun x hx => by
  rcases List.mem_cons.1 (show x ∈ (numO s).1 :: (numsR k (numO s).2).1 from hx) with rfl | hx
  · exact num_fits s
  · exact nums_fits k _ x hx
theorem cell_fine (s : St) : Fine (cellO s).1 := by
 refine ⟨num_fits s, nums_fits _ _, ?_⟩
 show (numsR _ _).1.length ≤ 16
 rw [nums_len]
 have := within_in (most := 16) (by omega) (numO s).2
 omega
theorem put_last {L : Rows} {k : Int} {c : Cl} (h : ∀ p ∈ L, lessB p.1 k = true) : putL L k c = L ++ [(k, c)] := by
 induction L with
 | nil => rfl
 | cons p L ih =>
  unfold putL
  rw [if_pos (h p (List.mem_cons_self ..)), ih (fun q hq => h q (List.mem_cons_of_mem _ hq))]
  rfl
theorem bad_not {L : Rows} (hL : Ord L) {k : Int} (h : badB L k = false) : (∀ p ∈ L, lessB p.1 k = true) ∧ cnt L (gof k) < 40 := by
 unfold badB at h
 rw [Bool.or_eq_false_iff] at h
 obtain ⟨h1, h2⟩ := h
 refine ⟨fun p hp => ?_, by simpa using h2⟩
 cases hl : L.getLast? with
 | none => rw [List.getLast?_eq_none_iff.1 hl] at hp; cases hp
 | some q =>
  rw [hl] at h1
  have h1 : lessB q.1 k = true := by simpa using h1
  obtain ⟨M, rfl⟩ := List.getLast?_eq_some_iff.1 hl
  rcases List.mem_append.1 hp with hp | hp
  · exact less_trans ((List.pairwise_append.1 hL).2.2 p hp q (by simp)) h1
  · rw [List.mem_singleton.1 hp]; exact h1
theorem Good.last {L : Rows} (hL : Good L) {k : Int} {c : Cl} (hk : fits k) (hc : Fine c) (h : badB L k = false) : Good (L ++ [(k, c)]) ∧ putO L k c = (0, L ++ [(k, c)]) := by
 obtain ⟨h1, h2⟩ := bad_not hL.ord h
 have e := put_last (c := c) h1
 refine ⟨by rw [← e]; exact hL.put hk hc (fun _ => h2), ?_⟩
 unfold putO
 rw [if_neg (by have := hc.few; omega), if_neg (fun e => by have := e.2; omega), e]
theorem Good.bad {L : Rows} (hL : Good L) {k : Int} {c : Cl} (hc : Fine c) (h : ∀ p, L.getLast? = some p → lessB p.1 k = true) : badB L k = decide ((putO L k c).1 ≠ 0) := by
 have hall : ∀ p ∈ L, lessB p.1 k = true := fun p hp => by
  cases hl : L.getLast? with
  | none => rw [List.getLast?_eq_none_iff.1 hl] at hp; cases hp
  | some q =>
   have h1 := h q hl
   obtain ⟨M, rfl⟩ := List.getLast?_eq_some_iff.1 hl
   rcases List.mem_append.1 hp with hp | hp
   · exact less_trans ((List.pairwise_append.1 hL.ord).2.2 p hp q (by simp)) h1
   · rw [List.mem_singleton.1 hp]; exact h1
 have hn : look L k = none := look_none.2 (fun p hp => less_ne (hall p hp))
 have hb : (match L.getLast? with | none => false | some p => !lessB p.1 k) = false := by
  cases hl : L.getLast? with
  | none => rfl
  | some q => simp [h q hl]
 unfold badB putO
 rw [hb, if_neg (by have := hc.few; omega)]
 by_cases h4 : 40 ≤ cnt L (gof k)
 · rw [if_pos ⟨hn, h4⟩]; simp [h4]
 · rw [if_neg (fun e => h4 e.2)]; simp [h4]
end
section
open Go.RowKit
attribute [local go_sem ↓] Go.wp_at_zero Go.wp_at_succ
open grp (gof gof_in fits fits_wf IRow intV below_on' below_made ret_bool own_below)
open byt (txt)
def RdAt (w : World) (R : Nat) (s : St) : Prop := w.heap[R]? = some (.cells #[.string (txt s.1), .int .i64 s.2] 87 (0, 0))
theorem RdAt.facts {w : World} {R : Nat} {s : St} (h : RdAt w R s) : w.cell? ⟨R, 0, none⟩ = some (.string (txt s.1)) ∧ w.cell? ⟨R, 1, none⟩ = some (.int .i64 s.2) ∧ w.frozen? ⟨R, 0, none⟩ = false ∧ w.frozen? ⟨R, 1, none⟩ = false :=
 ⟨by rw [cell_of_row w R 0 _ _ _ h]; rfl, by rw [cell_of_row w R 1 _ _ _ h]; rfl, frozen_of_row w R 0 _ _ h, frozen_of_row w R 1 _ _ h⟩
theorem RdAt.set {w : World} {R : Nat} {s : St} (h : RdAt w R s) (l : List UInt8) (c : Int) : RdAt ((w.setCell ⟨R, 0, none⟩ (.string (txt l))).setCell ⟨R, 1, none⟩ (.int .i64 c)) R (l, c) := by
 unfold RdAt at *
 rw [heap_setCell_same _ R 1 #[.string (txt l), .int .i64 s.2] 87 _ (by rw [heap_setCell_same w R 0 _ _ _ h]; rfl)]; rfl
theorem RdAt.setC {w : World} {R : Nat} {s : St} (h : RdAt w R s) (c : Int) : RdAt (w.setCell ⟨R, 1, none⟩ (.int .i64 c)) R (s.1, c) := by
 unfold RdAt at *
 rw [heap_setCell_same w R 1 _ _ _ h]; rfl
theorem RdAt.below {w w' : World} {R : Nat} {s : St} (h : RdAt w R s) (hb : Below w.heap.size w w') : RdAt w' R s := (hb.block R (lt_of_get h)).trans h
theorem only_two (w : World) (R : Nat) (u v : Value) : Only (· = R) w ((w.setCell ⟨R, 0, none⟩ u).setCell ⟨R, 1, none⟩ v) := (Only.setCell w R 0 u).then (Only.setCell _ R 1 v)
theorem txt_drop (l : List UInt8) (k : Nat) : (txt l).extract k (txt l).size = txt (l.drop k) := by
 apply ByteArray.ext
 apply Array.toList_inj.1
 simp [txt, ByteArray.size, List.take_of_length_le]
def NumPost (R : Nat) (s : St) (w : World) (e : Ending) (w' : World) : Prop := e = .returned (.int .i64 (numO s).1) ∧ RdAt w' R (numO s).2 ∧ Only (· = R) w w'
theorem rows_R {w w' : World} {R : Nat} {s : St} (h : RdAt w R s) (ho : Only (· = R) w w') : Rows2 w w' := .of_only ho (fun g cur fr hg he => by rw [hg, h] at he; cases he)
set_option maxHeartbeats 800000 in
theorem number_any {w : World} {R : Nat} {s : St} (h : RdAt w R s) (hl : s.1.length ≤ 140737488355328) : Calls Tryz.prog 33 #[.pointer (some ⟨R, 0, none⟩)] w (NumPost R s w) := by
 obtain ⟨c0, c1, f0, f1⟩ := h.facts
 have hP : NumPost R s w = fun e w' => e = .returned (.int .i64 (numO s).1) ∧ RdAt w' R (numO s).2 ∧ Only (· = R) w w' := rfl
 rw [hP]
 by_cases h2 : s.2 = 0
 · have hsz : (txt s.1).size ≤ 9223372036854775807 := by rw [byt.txt_size]; omega
   obtain ⟨n, hn⟩ : ∃ n, (byt.take s.1).1 = n := ⟨_, rfl⟩
   obtain ⟨k, hk⟩ : ∃ n, (byt.take s.1).2.1 = n := ⟨_, rfl⟩
   obtain ⟨c, hc⟩ : ∃ n, (byt.take s.1).2.2 = n := ⟨_, rfl⟩
   have ht : byt.take (byt.bl (txt s.1)) = (n, k, c) := by rw [byt.txt_bl, ← hn, ← hk, ← hc]
   have hks : k ≤ (txt s.1).size := by
    rw [byt.txt_size]
    by_cases e : c = 0
    · have := (byt.take_size (by rw [hc]; exact e)).2.2.1; omega
    · rcases byt.take_bad (by rw [hc]; exact e) with e2 | e2 <;> (rw [e2] at hk; simp at hk; omega)
   have hO : numO s = (n, (s.1.drop k, c)) := by rw [num_ok h2, hn, hk, hc]
   have HTA := Lib.hid (byt.take_of ht w hsz)
   have hki : (k : Int) ≤ ((txt s.1).size : Int) := by omega
   have he := txt_drop s.1 k
   have HF : Hid (RdAt ((w.setCell ⟨R, 0, none⟩ (.string (txt (s.1.drop k)))).setCell ⟨R, 1, none⟩ (.int .i64 c)) R (s.1.drop k, c)) := Lib.hid (h.set _ _)
   rw [hO]
   rw [h2] at c1
   obtain ⟨S, hS⟩ : ∃ S, txt s.1 = S := ⟨_, rfl⟩
   obtain ⟨T, hT⟩ : ∃ T, txt (s.1.drop k) = T := ⟨_, rfl⟩
   rw [hS] at c0 hks hki HTA he
   rw [hT] at he HF
   obtain ⟨Z, hZ⟩ : ∃ Z, S.size = Z := ⟨_, rfl⟩
   rw [hZ] at hks hki he
   clear hP h hl hsz hn hk hc ht hO h2 hS hT
   go_enter Tryz.func33, Tryz.ntmps33
   go_wp2_with fail
   refine HTA.out.mono ?_
   rintro e w1 ⟨rfl, rfl⟩
   go_wp2_with fail
   go_ret
   exact ⟨rfl, HF.out, only_two _ _ _ _⟩
 · have hne : (s.2 != 0) = true := by simp [h2]
   have HF := Lib.hid h
   rw [num_bad h2]
   obtain ⟨c, hc⟩ : ∃ c, s.2 = c := ⟨_, rfl⟩
   rw [hc] at c1 hne
   clear hP h hl h2 hc
   go_enter Tryz.func33, Tryz.ntmps33
   go_wp2_with fail
   go_ret
   exact ⟨rfl, HF.out, Only.refl _ _⟩
theorem num_rest (s : St) : (numO s).2.1.length ≤ s.1.length := by
 unfold numO
 split
 · exact Nat.le_refl _
 · simp
theorem within_any {w : World} {R : Nat} {s : St} (most : Int) (h : RdAt w R s) (hl : s.1.length ≤ 140737488355328) : Calls Tryz.prog 32 #[.pointer (some ⟨R, 0, none⟩), .int .i64 most] w fun e w' => e = .returned (.int .i64 (withinO most s).1) ∧ RdAt w' R (withinO most s).2 ∧ Only (· = R) w w' := by
 have HN := Lib.hid (number_any h hl)
 unfold NumPost at HN
 have HW : Hid (withinO most s = if (numO s).1 < 0 ∨ most < (numO s).1 then (0, ((numO s).2.1, 21)) else numO s) := Lib.hid rfl
 obtain ⟨n, hn⟩ : ∃ n, (numO s).1 = n := ⟨_, rfl⟩
 obtain ⟨s1, hs1⟩ : ∃ s1, (numO s).2 = s1 := ⟨_, rfl⟩
 have he : numO s = (n, s1) := by rw [← hn, ← hs1]
 rw [he] at HN HW
 dsimp only at HN HW
 rw [HW.out]
 clear h hl HW hn hs1 he
 by_cases h0 : n < 0
 · rw [if_pos (.inl h0)]
   go_enter Tryz.func32, Tryz.ntmps32
   go_wp2_with fail
   refine HN.out.mono ?_
   rintro e w1 ⟨rfl, hr, ho⟩
   obtain ⟨c0, c1, f0, f1⟩ := hr.facts
   have HF := Lib.hid (hr.setC 21)
   have HO := Lib.hid (ho.then (Only.setCell w1 R 1 (.int .i64 21)))
   clear hr ho
   go_wp2_with fail
   go_ret
   exact ⟨rfl, HF.out, HO.out⟩
 · by_cases h1 : most < n
   · rw [if_pos (.inr h1)]
     go_enter Tryz.func32, Tryz.ntmps32
     go_wp2_with fail
     refine HN.out.mono ?_
     rintro e w1 ⟨rfl, hr, ho⟩
     obtain ⟨c0, c1, f0, f1⟩ := hr.facts
     have HF := Lib.hid (hr.setC 21)
     have HO := Lib.hid (ho.then (Only.setCell w1 R 1 (.int .i64 21)))
     clear hr ho
     go_wp2_with fail
     go_ret
     exact ⟨rfl, HF.out, HO.out⟩
   · rw [if_neg (fun e => by rcases e with e | e; exact h0 e; exact h1 e)]
     go_enter Tryz.func32, Tryz.ntmps32
     go_wp2_with fail
     refine HN.out.mono ?_
     rintro e w1 ⟨rfl, hr, ho⟩
     have HR := Lib.hid hr
     have HO := Lib.hid ho
     clear hr ho
     go_wp2_with fail
     go_ret
     exact ⟨rfl, HR.out, HO.out⟩
end
section
open Go.RowKit
attribute [local go_sem ↓] Go.wp_at_zero Go.wp_at_succ
open grp (gof gof_in fits fits_wf IRow intV below_on' below_made ret_bool own_below)
open byt (txt)
theorem nums_rest : ∀ (k : Nat) (s : St), (numsR k s).2.1.length ≤ s.1.length
 | 0, s => Nat.le_refl _
 | k + 1, s => Nat.le_trans (nums_rest k (numO s).2) (num_rest s)
def CellRel (w wr : World) (B R N : Nat) (x : Int) (s : St) (k : Nat) : Prop :=
 ∃ v a cap, v = Value.slice a k cap ∧ Box2 wr N (x, a, k, cap) ∧ wr.ownsRow B 2 1 v k ((numsR k s).1.map intV) ∧ RdAt wr R (numsR k s).2 ∧ Only (· = R) w wr
theorem own_blk {w : World} {B e n : Nat} {v : Value} {xs : List Value} (h : w.ownsRow B e 1 v n xs) {j : Nat} (hj : v.ownBlock = some j) : ∃ cur, w.heap[j]? = some (.cells cur e (0, 0)) ∧ B ≤ j := by
 rcases h.2 with ⟨rfl, _⟩ | ⟨g, cap, cur, rfl, h1, h2, _⟩
 · simp [Value.ownBlock] at hj
 · simp [Value.ownBlock] at hj; subst hj; exact ⟨cur, h2, h1⟩
theorem only_box {w w' : World} {N : Nat} {R : Nat} (h : Only (· = R) w w') (hN : w.heap.size ≤ N) (u : Value) (o : Nat) : Only (· = R) w (w'.setCell ⟨N, o, none⟩ u) :=
 h.trans (Only.setCell w' N o u) (fun k hk hlt => by omega)
theorem Box2.setL {w : World} {N : Nat} {c : Cv} (h : Box2 w N c) (a : Option Addr) (n m : Nat) : Box2 (w.setCell ⟨N, 1, none⟩ (.slice a n m)) N (c.1, a, n, m) := by
 unfold Box2 at *
 rw [heap_setCell_same w N 1 _ _ _ h]; rfl
theorem own_cellset {w : World} {B e n : Nat} {v : Value} {xs : List Value} (h : w.ownsRow B e 1 v n xs) {N o : Nat} (hN : ∀ j, v.ownBlock = some j → j ≠ N) (u : Value) : (w.setCell ⟨N, o, none⟩ u).ownsRow B e 1 v n xs :=
 h.kept (row := some N) ⟨rfl, rfl, rfl, by simp [World.setCell], fun k hk hne => Below.heap_setCell _ _ _ _ (fun e => hne (by rw [e]))⟩ (.inr (fun e => hN N e rfl))
theorem cell_step {w wr W1 w6 : World} {B R N : Nat} {x : Int} {s : St} {k : Nat} {v v5 : Value} {n : Int} {c : Cv} (hw : w.heap.size ≤ N) (hB : w.heap.size ≤ B)
  (hn : n = (numO (numsR k s).2).1) (hv : wr.ownsRow B 2 1 v k ((numsR k s).1.map intV)) (ho : Only (· = R) w wr) (hNR : N ≠ R)
  (h1 : RdAt W1 R (numO (numsR k s).2).2) (h1o : Only (· = R) wr W1) (hbx : Box2 W1 N c) (hc : c.1 = x)
  (h5 : w6.ownsRow B 2 1 v5 (k + 1) (((numsR k s).1 ++ [n]).map intV)) (hg : (W1.alloc (.cells #[.int .i64 n] 2)).grownBy w6 v.ownBlock) (hvo : W1.ownsRow B 2 1 v k ((numsR k s).1.map intV)) :
  Box2 w6 N c ∧ ∀ a cap, v5 = .slice a (k + 1) cap → CellRel w (w6.setCell ⟨N, 1, none⟩ (.slice a (k + 1) cap)) B R N x s (k + 1) := by
 have hb6 : ∀ j o, W1.heap[j]? = some o → (∀ cur : Array Value, o ≠ Obj.cells cur 2 (0, 0)) → w6.heap[j]? = some o := fun j o hj hno => by
  have hlt := lt_of_get hj
  rw [hg.block j (by rw [World.size_alloc]; omega) (fun e => by
   obtain ⟨cur, h2, _⟩ := own_blk hvo e.symm
   rw [hj] at h2
   exact hno cur (Option.some.inj h2)), Below.heap_alloc _ _ _ hlt]
  exact hj
 have hx6 : Box2 w6 N c := hb6 N _ hbx (fun cur e => by cases e)
 have hr6 : RdAt w6 R (numO (numsR k s).2).2 := hb6 R _ h1 (fun cur e => by cases e)
 refine ⟨hx6, fun a cap e => ?_⟩
 subst e
 have hne : ∀ j, (Value.slice a (k + 1) cap).ownBlock = some j → j ≠ N := fun j hj e => by
  obtain ⟨cur, h2, _⟩ := own_blk h5 hj
  rw [e, hx6] at h2; cases h2
 have hr7 : RdAt (w6.setCell ⟨N, 1, none⟩ (.slice a (k + 1) cap)) R (numO (numsR k s).2).2 := (Below.heap_setCell _ _ _ _ (fun e => hNR e.symm)).trans hr6
 have hx7 := hx6.setL a (k + 1) cap
 rw [hc] at hx7
 refine ⟨_, a, cap, rfl, hx7, ?_, ?_, ?_⟩
 · rw [nums_snoc, ← hn]
   exact own_cellset h5 hne _
 · rw [nums_snoc]; exact hr7
 · have h6 : Only (fun i => i = R ∨ B ≤ i) wr w6 :=
    ((h1o.on (below_made _ _)).mono (fun i hi => .inl hi)).then (.of_grown hg (fun j hj => .inr (by obtain ⟨cur, _, h2⟩ := own_blk hvo hj; exact h2)))
   have h7 : Only (· = R) w w6 := ho.trans h6 (fun i hi hlt => by
    rcases hi with hi | hi
    · exact hi
    · omega)
   exact only_box h7 hw _ _
theorem own_only {w w' : World} {B e n R : Nat} {v : Value} {xs : List Value} (h : w.ownsRow B e 1 v n xs) (ho : Only (· = R) w w') (hR : ∀ j, v.ownBlock = some j → j ≠ R) : w'.ownsRow B e 1 v n xs :=
 h.kept (row := some R) ⟨ho.os, ho.tape, ho.output, ho.size, fun k hk hne => ho.block k hk (fun e => hne (by rw [e]))⟩ (.inr (fun e => hR R e rfl))
def CellPost (R : Nat) (s : St) (w : World) (e : Ending) (w' : World) : Prop := ∃ a cap, e = .returned (mkC ((cellO s).1.1, a, (cellO s).1.2.length, cap)) ∧ NA w' a cap (cellO s).1.2 ∧ RdAt w' R (cellO s).2 ∧ Only (· = R) w w'
set_option maxHeartbeats 1600000 in
set_option maxRecDepth 1000000 in
theorem cell_any {w : World} {R : Nat} {s : St} (h : RdAt w R s) (hl : s.1.length ≤ 140737488355328) : Calls Tryz.prog 34 #[.pointer (some ⟨R, 0, none⟩)] w (CellPost R s w) := by
 have hb0 : Below w.heap.size w (w.alloc (.cells #[.int .i64 0, .slice none 0 0] 77)) := below_made _ _
 have hx0 := Box2.new w (0, none, 0, 0)
 dsimp only at hx0
 obtain ⟨N0, hN0⟩ : ∃ N, w.heap.size = N := ⟨_, rfl⟩
 obtain ⟨W0, hW0⟩ : ∃ W, w.alloc (.cells #[.int .i64 0, .slice none 0 0] 77) = W := ⟨_, rfl⟩
 have HN0 := Lib.hid hN0
 rw [hW0] at hb0 hx0
 rw [hN0] at hx0
 have HX0 := Lib.hid hx0
 have HB0 := Lib.hid hb0
 have HNUM0 := Lib.hid (number_any (h.below hb0) hl)
 unfold NumPost at HNUM0
 obtain ⟨x, hx⟩ : ∃ x, (numO s).1 = x := ⟨_, rfl⟩
 obtain ⟨s1, hs1⟩ : ∃ s1, (numO s).2 = s1 := ⟨_, rfl⟩
 obtain ⟨m, hm⟩ : ∃ m, (withinO 16 s1).1 = m := ⟨_, rfl⟩
 obtain ⟨s2, hs2⟩ : ∃ s2, (withinO 16 s1).2 = s2 := ⟨_, rfl⟩
 have hin := within_in (most := 16) (by omega) s1
 rw [hm] at hin
 obtain ⟨M, hM⟩ : ∃ M : Nat, m = (M : Int) := ⟨m.toNat, by omega⟩
 subst hM
 have hM16 : M ≤ 16 := by omega
 have HCO : Hid (cellO s = ((x, (numsR M s2).1), (numsR M s2).2)) := Lib.hid (by
  unfold cellO
  rw [hx, hs1, hm, hs2, Int.toNat_natCast])
 have hl1 : s1.1.length ≤ 140737488355328 := by have := num_rest s; rw [hs1] at this; omega
 have hl2 : s2.1.length ≤ 140737488355328 := by
  rw [← hs2]; unfold withinO
  have := num_rest s1
  split <;> (first | (dsimp only; omega) | omega)
 rw [hx, hs1] at HNUM0
 have HM := Lib.hid hm
 have HS2 := Lib.hid hs2
 have HL1 := Lib.hid hl1
 have HL2 := Lib.hid hl2
 have HRW : Hid (R < w.heap.size) := Lib.hid (lt_of_get h)
 clear h hl hx hs1 hin hm hs2 hl1 hl2 hb0 hx0
 go_enter Tryz.func34, Tryz.ntmps34
 go_wp2_with fail
 refine HNUM0.out.mono ?_
 rintro e w1 ⟨rfl, hr1, ho1⟩
 have hbx := Box2.new w1 (x, none, 0, 0)
 dsimp only at hbx
 obtain ⟨W2, hW2⟩ : ∃ W, w1.alloc (.cells #[.int .i64 x, .slice none 0 0] 77) = W := ⟨_, rfl⟩
 have HW2 := Lib.hid hW2
 have hb2 : Below w1.heap.size w1 W2 := by rw [← hW2]; exact below_made _ _
 rw [hW2] at hbx
 obtain ⟨N, hN⟩ : ∃ N, w1.heap.size = N := ⟨_, rfl⟩
 have HNN := Lib.hid hN
 rw [hN] at hbx
 have HNW : Hid (W0.heap.size ≤ N) := Lib.hid (by rw [← hN]; exact ho1.size)
 have HWI := Lib.hid (within_any 16 (hr1.below hb2) HL1.out)
 rw [HM.out, HS2.out] at HWI
 have HO2 := Lib.hid (ho1.on hb2)
 have HBX2 := Lib.hid hbx
 clear hr1 ho1 hbx hW2 hb2 hN hW0 hN0
 go_wp2_with fail
 rw [HW2.out, HNN.out]
 refine HWI.out.mono ?_
 rintro e w3 ⟨rfl, hr3, ho3⟩
 have hRN : R < w.heap.size := HRW.out
 have HNR : Hid (¬ N = R) := Lib.hid (fun e => by have := HNW.out; have := HB0.out.size; omega)
 have hR0 : CellRel W0 w3 W0.heap.size R N x s2 0 := ⟨_, none, 0, rfl, (ho3.block N (lt_of_get HBX2.out) HNR.out).trans HBX2.out, World.ownsRow_nil _ _ _ _, hr3, HO2.out.then ho3⟩
 have HR0 := Lib.hid hR0
 clear hr3 ho3 hR0 hRN
 go_wp2_with fail
 go_loopg [9] M (fun g v9 wr => ∃ k : Nat, k + g = M ∧ v9 = .int .i64 k ∧ CellRel W0 wr W0.heap.size R N x s2 k)
 case atStart => exact ⟨0, by omega, rfl, HR0.out⟩
 case round =>
  obtain ⟨k, hkg, rfl, v, va, vc, rfl, hbx, hown, hrd, hon⟩ := hrel
  have HBX := Lib.hid hbx
  have HOWN := Lib.hid hown
  have HRD := Lib.hid hrd
  have HON := Lib.hid hon
  have HKG := Lib.hid hkg
  obtain ⟨x0, x1, y0, y1⟩ := hbx.facts
  dsimp only at x0 x1
  clear hbx hown hrd hon y0 y1
  cases gk with
  | zero =>
   have hkz : ¬ ((k : Int) < (M : Int)) := by omega
   obtain rfl : k = M := by omega
   have hx0 : Box2 wr N0 (0, none, 0, 0) := (HON.out.block N0 (lt_of_get HX0.out) (fun e => by have := HRW.out; rw [HN0.out] at this; omega)).trans HX0.out
   obtain ⟨c0, c1, f0, f1⟩ := hx0.facts
   dsimp only at c0 c1
   have hx9 := hx0.set x va k vc
   obtain ⟨e0, e1, -, -⟩ := hx9.facts
   dsimp only at e0 e1
   obtain ⟨-, a9, cap9, hv9, hna9⟩ := NR.own HOWN.out
   rw [nums_len] at hv9
   simp only [Value.slice.injEq, true_and] at hv9
   obtain ⟨rfl, rfl⟩ := hv9
   have HF : Hid (CellPost R s w (.returned (mkC (x, va, k, vc))) ((wr.setCell ⟨N0, 0, none⟩ (.int .i64 x)).setCell ⟨N0, 1, none⟩ (.slice va k vc))) := Lib.hid (by
    unfold CellPost
    rw [HCO.out]
    dsimp only
    rw [nums_len]
    have hN0R : N0 ≠ R := fun e => by have := HRW.out; rw [HN0.out] at this; omega
    refine ⟨va, vc, rfl, hna9.keep (rows_box hx0 _ _), ?_, ?_⟩
    · unfold RdAt
      rw [Below.heap_setCell _ _ _ _ (Ne.symm hN0R), Below.heap_setCell _ _ _ _ (Ne.symm hN0R)]
      exact HRD.out
    · exact only_box (only_box ((Only.of_below HB0.out).then ⟨HON.out.os, HON.out.tape, HON.out.output, HON.out.size, HON.out.block⟩) (by rw [HN0.out]; omega) _ 0) (by rw [HN0.out]; omega) _ 1)
   clear hx0 hx9 hna9
   go_wp2_with fail
   refine bodyPost_ret (v := mkC (x, va, k, vc)) (by simp [results, Tryz.f34, go_sem, e0, e1, mkC]) rfl ?_
   exact HF.out
  | succ g =>
   have hkz : (k : Int) < (M : Int) := by omega
   have HNUM := Lib.hid (number_any (w := wr.drew) (R := R) (s := (numsR k s2).2) HRD.out (Nat.le_trans (nums_rest k s2) HL2.out))
   unfold NumPost at HNUM
   have HWL : Hid (W0.heap.size ≤ wr.heap.size) := Lib.hid HON.out.size
   clear hkg
   go_wp2_with fail
   refine dsk.wp_region_peel2 (by kernel_rfl) (by simp only [List.dropLast_cons_cons, List.dropLast_singleton]; exact rfl) rfl (by kernel_rfl) ?_
   refine wpAny_of_held (S := fun w' => w'.cell? ⟨N, 1, none⟩ = some (.slice va k vc)) _ _ _ _ ?_
   have hHeld := (show wr.drew.cell? ⟨N, 1, none⟩ = some (.slice va k vc) from x1)
   refine wpAnyH_take (i := 0) (v := ?v1) rfl (by kernel_rfl) (by kernel_rfl) (by kernel_rfl) (fun _ _ _ h => h) (Or.inl ⟨by rfl, ?hy1⟩) (by assumption) ?rest1
   case hy1 => (intro w0 hSw; (try dsimp only at hSw); go_simp; try with_reducible rfl)
   try simp only [Act.put, List.getElem_toArray, List.getElem_cons_zero, List.getElem_cons_succ, List.setIfInBounds_toArray, List.set_cons_zero, List.set_cons_succ]
   refine wpAnyH_take (i := 1) (v := ?v2) rfl (by kernel_rfl) (by kernel_rfl) (by kernel_rfl) (fun _ _ _ h => h) (Or.inl ⟨by rfl, ?hy2⟩) (by assumption) ?rest2
   case hy2 => (intro w0 hSw; (try dsimp only at hSw); go_simp; try with_reducible rfl)
   try simp only [Act.put, List.getElem_toArray, List.getElem_cons_zero, List.getElem_cons_succ, List.setIfInBounds_toArray, List.set_cons_zero, List.set_cons_succ]
   refine wpAnyH_take (i := 2) (v := ?v3) rfl (by kernel_rfl) (by kernel_rfl) (by kernel_rfl) (fun _ _ _ h => h) (Or.inl ⟨by rfl, ?hy3⟩) (by assumption) ?rest3
   case hy3 => (intro w0 hSw; (try dsimp only at hSw); go_simp; try with_reducible rfl)
   try simp only [Act.put, List.getElem_toArray, List.getElem_cons_zero, List.getElem_cons_succ, List.setIfInBounds_toArray, List.set_cons_zero, List.set_cons_succ]
   refine wpAnyH_ready (rs := [3]) (by kernel_rfl) (by simp) ?_
   refine AllReadyH.cons rfl (fun KQ hKQ => ?_) AllReadyH.nil
   go_simp
   refine HNUM.out.mono ?_
   rintro e W1 ⟨rfl, hr1, ho1⟩
   have ho1 : Only (· = R) wr W1 := ⟨ho1.os, ho1.tape, ho1.output, ho1.size, ho1.block⟩
   have hbx1 : Box2 W1 N (x, va, k, vc) := (ho1.block N (lt_of_get HBX.out) HNR.out).trans HBX.out
   have hv1 : W1.ownsRow W0.heap.size 2 1 (.slice va k vc) k ((numsR k s2).1.map intV) := own_only HOWN.out ho1 (fun j hj e => by
   obtain ⟨cur, h2, _⟩ := own_blk HOWN.out hj
   rw [e, HRD.out] at h2; cases h2)
   refine hKQ.out _ _ ?_ (fun hHeld => ?_)
   · exact hbx1.facts.2.1
   clear hKQ KQ
   try simp only [Act.put, List.getElem_toArray, List.getElem_cons_zero, List.getElem_cons_succ, List.setIfInBounds_toArray, List.set_cons_zero, List.set_cons_succ]
   refine wpAnyH_ready (rs := [4]) (by kernel_rfl) (by simp) ?_
   refine AllReadyH.cons rfl (fun KQ hKQ => ?_) AllReadyH.nil
   go_simp
   refine hKQ.out _ _ ?_ (fun hHeld => ?_)
   · exact (Box2.below hbx1 (below_made _ _)).facts.2.1
   clear hKQ KQ
   try simp only [Act.put, List.getElem_toArray, List.getElem_cons_zero, List.getElem_cons_succ, List.setIfInBounds_toArray, List.set_cons_zero, List.set_cons_succ]
   refine wpAnyH_ready (rs := [5]) (by kernel_rfl) (by simp) ?_
   refine AllReadyH.cons rfl (fun KQ hKQ => ?_) AllReadyH.nil
   have hle1 : W0.heap.size ≤ W1.heap.size := Nat.le_trans HWL.out ho1.size
   obtain ⟨v5, w6, hr6, ho6, hg6⟩ := app_run (own_below hv1 (below_made W1 (.cells #[.int .i64 (numO (numsR k s2).2).1] 2))) (sl_new W1 [(numO (numsR k s2).2).1] 2 1) (by rw [nums_len]; simp only [List.length_cons, List.length_nil]; omega) (by rw [World.size_alloc]; omega) 74
   obtain ⟨hbx6, hst6⟩ := cell_step (w := W0) (N := N) (s := s2) HNW.out (Nat.le_refl _) rfl HOWN.out HON.out HNR.out hr1 ho1 hbx1 rfl ho6 hg6 hv1
   obtain ⟨-, a5, cap5, hv5, -⟩ := NR.own ho6
   rw [show ((numsR k s2).1 ++ [(numO (numsR k s2).2).1]).length = k + 1 by rw [List.length_append, nums_len]; rfl] at hv5
   subst hv5
   have hr6' : (Builtin.append_ #[74, 74] 74 #[.slice va k vc, .slice (some ⟨W1.heap.size, 0, none⟩) 1 1]).run Tryz.prog (W1.alloc (.cells #[.int .i64 (numO (numsR k s2).2).1] 2)) = .ok (.slice a5 (k + 1) cap5) w6 := hr6
   refine step_app rfl (.tmp 12) (.tmp 15) 74 rfl rfl (by rfl) hr6' ?_
   refine hKQ.out _ _ ?_ (fun hHeld => ?_)
   · exact hbx6.facts.2.1
   clear hKQ KQ
   try simp only [Act.put, List.getElem_toArray, List.getElem_cons_zero, List.getElem_cons_succ, List.setIfInBounds_toArray, List.set_cons_zero, List.set_cons_succ]
   refine wpAnyH_take (i := 6) (v := ?v4) rfl (by kernel_rfl) (by kernel_rfl) (by kernel_rfl) (fun _ _ _ h => h) (Or.inl ⟨by rfl, ?hy4⟩) (by assumption) ?rest4
   case hy4 => (intro w0 hSw; (try dsimp only at hSw); go_simp; try with_reducible rfl)
   try simp only [Act.put, List.getElem_toArray, List.getElem_cons_zero, List.getElem_cons_succ, List.setIfInBounds_toArray, List.set_cons_zero, List.set_cons_succ]
   refine wpAnyH_done (by kernel_rfl) ?_ _
   change wpList _ _ _ _ _ _
   have HREL := Lib.hid (hst6 a5 cap5 rfl)
   obtain ⟨z0, z1, y0, y1⟩ := hbx6.facts
   dsimp only at z0 z1
   clear hst6 hbx6 hr6' hr6 ho6 hg6 hr1 ho1 hbx1 hv1 hHeld x0 x1
   go_wp2_with fail
   go_roundg g
   case measure => omega
   case rel => exact ⟨k + 1, by have := HKG.out; omega, by go_num, HREL.out⟩
end
section
open Go.RowKit
attribute [local go_sem ↓] Go.wp_at_zero Go.wp_at_succ
open grp (gof gof_in fits fits_wf IRow intV below_on' below_made ret_bool own_below)
open byt (txt bl)
def TakePost (l : List UInt8) (w : World) (e : Ending) (w' : World) : Prop :=
 if (takeT l).1 = 0 then ∃ t b, e = .returned (.tuple #[.pointer (some ⟨t, 0, none⟩), .int .i64 0]) ∧ MadeT w.heap.size w w' t b (takeT l).2
 else e = .returned (.tuple #[.pointer none, .int .i64 (takeT l).1]) ∧ Below w.heap.size w w'
theorem take_fails {l : List UInt8} {c : Int} {L : Rows} {w w' : World} (h : takeT l = (c, L)) (hc : c ≠ 0) (hb : Below w.heap.size w w') : TakePost l w (.returned (.tuple #[.pointer none, .int .i64 c])) w' := by
 unfold TakePost
 rw [h, if_neg hc]
 exact ⟨rfl, hb⟩
theorem take_fine {l : List UInt8} {L : Rows} {w w' : World} {t b : Nat} (h : takeT l = (0, L)) (hm : MadeT w.heap.size w w' t b L) : TakePost l w (.returned (.tuple #[.pointer (some ⟨t, 0, none⟩), .int .i64 0])) w' := by
 unfold TakePost
 rw [h, if_pos rfl]
 exact ⟨t, b, rfl, hm⟩
def lastK (L : Rows) : Int := match L.getLast? with | none => 0 | some p => p.1
theorem lastK_snoc (L : Rows) (k : Int) (c : Cl) : lastK (L ++ [(k, c)]) = k := by unfold lastK; simp
theorem go_fault {g : Nat} {L : Rows} {st : St} (h : (cellO (numO st).2).2.2 ≠ 0) : goO (g + 1) L st = ((cellO (numO st).2).2.2, [], (cellO (numO st).2).2) := by
 show (if _ then _ else _) = _
 rw [if_pos h]
theorem go_bad {g : Nat} {L : Rows} {st : St} (h : (cellO (numO st).2).2.2 = 0) (hb : badB L (numO st).1 = true) : goO (g + 1) L st = (21, [], (cellO (numO st).2).2) := by
 show (if _ then _ else _) = _
 rw [if_neg (by rw [h]; simp), if_pos hb]
theorem go_next {g : Nat} {L : Rows} {st : St} (h : (cellO (numO st).2).2.2 = 0) (hb : badB L (numO st).1 = false) : goO (g + 1) L st = goO g (L ++ [((numO st).1, (cellO (numO st).2).1)]) (cellO (numO st).2).2 := by
 show (if _ then _ else _) = _
 rw [if_neg (by rw [h]; simp), if_neg (by rw [hb]; simp)]
theorem lastK_of {L : Rows} {p : Int × Cl} (h : L.getLast? = some p) : lastK L = p.1 := by unfold lastK; rw [h]
theorem last_some {L : Rows} (h : 0 < L.length) : ∃ p, L.getLast? = some p := by
 cases hl : L.getLast? with
 | none => rw [List.getLast?_eq_none_iff.1 hl] at h; simp at h
 | some p => exact ⟨p, rfl⟩
def TakeRel (w wr : World) (B t b R M k : Nat) (x : Int) (s1 : St) (v6 : Value) : Prop :=
 ∃ L st, v6 = .int .i64 (lastK L) ∧ IsTab wr t b L ∧ RdAt wr R st ∧ goO (M - k) L st = goO M [] s1 ∧ L.length = k ∧ st.1.length ≤ 140737488355328 ∧ Below B w wr
theorem cell_rest (s : St) : (cellO s).2.1.length ≤ s.1.length := by
 unfold cellO
 have h1 := num_rest s
 have h2 : (withinO 16 (numO s).2).2.1.length ≤ (numO s).2.1.length := by
  unfold withinO
  have := num_rest (numO s).2
  split <;> (first | (dsimp only; omega) | omega)
 have h3 := nums_rest (withinO 16 (numO s).2).1.toNat (withinO 16 (numO s).2).2
 dsimp only
 omega
theorem only_below {w0 w w' : World} {R : Nat} (h : Below w0.heap.size w0 w) (ho : Only (· = R) w w') (hR : w0.heap.size ≤ R) : Below w0.heap.size w0 w' :=
 h.trans (ho.below h.size (fun k hk => by rw [hk]; exact hR))
theorem IsTab.onlyR {w w' : World} {t b R : Nat} {L : Rows} {s : St} (h : IsTab w t b L) (hr : RdAt w R s) (ho : Only (· = R) w w') : IsTab w' t b L := by
 have h1 := h.obj
 unfold TabO at h1
 obtain ⟨es, ck, h2⟩ := h.map.isMap
 exact h.keep (ho.block t h.lt.1 (fun e => by rw [e, hr] at h1; cases h1)) (ho.block b h.lt.2.1 (fun e => by rw [e, hr] at h2; cases h2)) (rows_R hr ho)
theorem RdAt.tab {w w' : World} {t b R : Nat} {L : Rows} {s : St} (hr : RdAt w R s) (h : IsTab w t b L) (ho : Only (Two t b) w w') : RdAt w' R s := by
 have h1 := h.obj
 unfold TabO at h1
 obtain ⟨es, ck, h2⟩ := h.map.isMap
 refine (ho.block R (lt_of_get hr) (fun e => ?_)).trans hr
 rcases e with e | e
 · rw [← e, hr] at h1; cases h1
 · rw [← e, hr] at h2; cases h2
theorem tab_below {w0 w w' : World} {t b : Nat} (h : Below w0.heap.size w0 w) (ho : Only (Two t b) w w') (ht : w0.heap.size ≤ t) (hb : w0.heap.size ≤ b) : Below w0.heap.size w0 w' :=
 h.trans (ho.below h.size (fun k hk => by rcases hk with e | e <;> subst e <;> assumption))
theorem take_step {w W6 w7 : World} {t b R M k g : Nat} {L : Rows} {key : Int} {c : Cl} {s1 s5 : St} {z' : St} (h6 : IsTab W6 t b L) (hb : Below w.heap.size w W6) (ht : w.heap.size ≤ t) (hbb : w.heap.size ≤ b) (hk : fits key) (hc : Fine c)
  (hr : RdAt W6 R s5) (h2 : s5.2 = 0) (hn : s5.2 = 0 → badB L key = false → goO (g + 1) L z' = goO g (L ++ [(key, c)]) s5) (hg : goO (g + 1) L z' = goO M [] s1) (hs : s5.1.length ≤ 140737488355328) (hl : L.length = k) (hkg : k + (g + 1) = M)
  (hp : (putO L key c).1 = 0) (hbad : badB L key = false) (h7 : IsTab w7 t b (putO L key c).2) (ho : Only (Two t b) W6 w7) : TakeRel w w7 w.heap.size t b R M (k + 1) 0 s1 (.int .i64 key) := by
 have e := (h6.good.last hk hc hbad).2
 rw [e] at h7
 refine ⟨L ++ [(key, c)], s5, by rw [lastK_snoc], h7, hr.tab h6 ho, ?_, by simp [hl], hs, tab_below hb ho ht hbb⟩
 rw [← hg, hn h2 hbad]
 congr 1
 omega
set_option maxHeartbeats 3200000 in
set_option maxRecDepth 1000000 in
theorem take_any (s : ByteArray) (w : World) (hs : s.size ≤ 140737488355328) : Calls Tryz.prog 15 #[.string s] w (TakePost (bl s) w) := by
 obtain ⟨l, hl⟩ : ∃ l, bl s = l := ⟨_, rfl⟩
 have hsl : s = txt l := by rw [← hl]; rfl
 rw [hl]
 subst hsl
 have hll : l.length ≤ 140737488355328 := by rw [byt.txt_size] at hs; exact hs
 clear hl hs
 obtain ⟨S, hS⟩ : ∃ S, txt l = S := ⟨_, rfl⟩
 rw [hS]
 have HS := Lib.hid hS
 clear hS
 have HL := Lib.hid hll
 go_enter Tryz.func15, Tryz.ntmps15
 go_wp2_with fail
 refine (new_any w).mono ?_
 rintro e w1 ⟨t, b, rfl, ht, hwt, hwb, hb1⟩
 have hb2 : Below w1.heap.size w1 (w1.alloc (.cells #[.string S, .int .i64 0] 87)) := below_made _ _
 have hr2 : RdAt (w1.alloc (.cells #[.string S, .int .i64 0] 87)) w1.heap.size (l, 0) := by
  unfold RdAt
  rw [HS.out]
  exact Go.heap_alloc_new w1 _
 have HT2 := Lib.hid (ht.below hb2)
 have HB2 := Lib.hid (below_on' hb1 hb2)
 have HWI := Lib.hid (within_any 320 hr2 HL.out)
 obtain ⟨R, hR⟩ : ∃ R, w1.heap.size = R := ⟨_, rfl⟩
 have HWR : Hid (w.heap.size ≤ R) := Lib.hid (by rw [← hR]; exact hb1.size)
 have HRR := Lib.hid hR
 rw [hR] at HWI hr2
 have HRD2 := Lib.hid hr2
 obtain ⟨W2, hW2⟩ : ∃ W, w1.alloc (.cells #[.string S, .int .i64 0] 87) = W := ⟨_, rfl⟩
 have HW2 := Lib.hid hW2
 rw [hW2] at HT2 HB2 HWI HRD2
 obtain ⟨m, hm⟩ : ∃ m, (withinO 320 (l, 0)).1 = m := ⟨_, rfl⟩
 obtain ⟨s1, hs1⟩ : ∃ s1, (withinO 320 (l, 0)).2 = s1 := ⟨_, rfl⟩
 have hin := within_in (most := 320) (by omega) (l, 0)
 rw [hm] at hin
 obtain ⟨M, hM⟩ : ∃ M : Nat, m = (M : Int) := ⟨m.toNat, by omega⟩
 subst hM
 have hM320 : M ≤ 320 := by omega
 have HTK : Hid (takeT l = endO (goO M [] s1)) := Lib.hid (by unfold takeT; rw [hm, hs1, Int.toNat_natCast])
 have hl1 : s1.1.length ≤ 140737488355328 := by
  rw [← hs1]; unfold withinO
  have := num_rest (l, 0)
  simp only at this
  split <;> (first | (dsimp only; omega) | omega)
 rw [hm, hs1] at HWI
 have HL1 := Lib.hid hl1
 clear ht hb1 hb2 hr2 hR hW2 hm hs1 hin hl1 hll
 go_wp2_with fail
 rw [HW2.out, HRR.out]
 refine HWI.out.mono ?_
 rintro e w3 ⟨rfl, hr3, ho3⟩
 have HREL0 : Hid (TakeRel w w3 w.heap.size t b R M 0 0 s1 (.int .i64 0)) := Lib.hid ⟨[], s1, rfl, HT2.out.onlyR HRD2.out ho3, hr3, by rw [Nat.sub_zero], rfl, HL1.out, only_below HB2.out ho3 HWR.out⟩
 clear hr3 ho3
 go_wp2_with fail
 go_loopg [6, 16] M (fun g v6 v16 wr => ∃ k : Nat, k + g = M ∧ v16 = .int .i64 k ∧ TakeRel w wr w.heap.size t b R M k 0 s1 v6)
 case atStart => exact ⟨0, by omega, rfl, HREL0.out⟩
 case round =>
  obtain ⟨k, hkg, rfl, L, st, rfl, htb, hrd, hgo, hlk, hst, hbw⟩ := hrel
  have HTB := Lib.hid htb
  have HRD := Lib.hid hrd
  have HGO := Lib.hid hgo
  have HLK := Lib.hid hlk
  have HST := Lib.hid hst
  have HBW := Lib.hid hbw
  have HKG := Lib.hid hkg
  clear htb hrd hgo hlk hst hbw
  cases gk with
  | zero =>
   have hkz : ¬ ((k : Int) < (M : Int)) := by omega
   have hG0 : takeT l = endO (0, L, st) := by
    rw [HTK.out, ← HGO.out, show M - k = 0 by omega]; rfl
   obtain ⟨c0, c1, f0, f1⟩ := HRD.out.facts
   by_cases h2 : st.2 = 0
   · rw [h2] at c1
     by_cases h1 : st.1 = []
     · have hF : takeT l = (0, L) := by rw [hG0]; unfold endO; simp [h1, h2]
       have HF : Hid (TakePost l w (.returned (.tuple #[.pointer (some ⟨t, 0, none⟩), .int .i64 0])) wr) := Lib.hid (take_fine hF ⟨HTB.out, hwt, hwb, HBW.out⟩)
       rw [h1] at c0
       change wr.cell? ⟨R, 0, none⟩ = some (.string ⟨#[]⟩) at c0
       clear hG0 hF h1 h2 hkg
       go_wp2_with fail
       try rw [Exit.noGoto_ret]
       go_ret2
       exact HF.out
     · have hF : takeT l = (21, []) := by rw [hG0]; unfold endO; simp [h1, h2]
       have HF : Hid (TakePost l w (.returned (.tuple #[.pointer none, .int .i64 21])) wr) := Lib.hid (take_fails hF (by simp) HBW.out)
       obtain ⟨T, hT⟩ : ∃ T, txt st.1 = T := ⟨_, rfl⟩
       have hne : T ≠ ⟨#[]⟩ := fun e => h1 (by rw [e] at hT; exact (congrArg bl hT : bl (txt st.1) = bl ⟨#[]⟩))
       have hne2 := byt.str_ne hne
       have hne3 : T.toList.isEmpty = false := by
        cases hx : T.toList with
        | nil => rw [hx] at hne2; simp at hne2
        | cons => rfl
       rw [hT] at c0
       clear hG0 hF h1 h2 hkg hT
       go_wp2_with fail
       try rw [Exit.noGoto_ret]
       go_ret2
       exact HF.out
   · have hF : takeT l = (st.2, []) := by rw [hG0]; unfold endO; simp [h2]
     have HF : Hid (TakePost l w (.returned (.tuple #[.pointer none, .int .i64 st.2])) wr.drew) := Lib.hid (take_fails hF h2 HBW.out.drew)
     obtain ⟨c, hc⟩ : ∃ c, st.2 = c := ⟨_, rfl⟩
     rw [hc] at c1 HF h2
     have hne : (c != 0) = true := by simp [h2]
     clear hG0 hF h2 hkg hc
     go_wp2_with fail
     go_region
     go_wp2_with fail
     try rw [Exit.noGoto_ret]
     go_ret2
     exact HF.out
  | succ g =>
   have hkz : (k : Int) < (M : Int) := by omega
   have HNU := Lib.hid (number_any HRD.out HST.out)
   unfold NumPost at HNU
   clear hkg
   go_wp2_with fail
   refine HNU.out.mono ?_
   rintro e w4 ⟨rfl, hr4, ho4⟩
   have HTB4 := Lib.hid (HTB.out.onlyR HRD.out ho4)
   have HBW4 := Lib.hid (only_below HBW.out ho4 HWR.out)
   have HRD4 := Lib.hid hr4
   have HCE := Lib.hid (cell_any hr4 (Nat.le_trans (num_rest st) HST.out))
   unfold CellPost at HCE
   clear hr4 ho4
   go_wp2_with fail
   refine HCE.out.mono ?_
   rintro e w5 ⟨a, cap, rfl, hna5, hr5, ho5⟩
   have HTB5 := Lib.hid (HTB4.out.onlyR HRD4.out ho5)
   have HBW5 := Lib.hid (only_below HBW4.out ho5 HWR.out)
   have HRD5 := Lib.hid hr5
   have HNA5 := Lib.hid hna5
   have hb6 : Below w5.heap.size w5 (w5.alloc (.cells #[.int .i64 (cellO (numO st).2).1.1, .slice a (cellO (numO st).2).1.2.length cap] 77)) := below_made _ _
   have hbx := Box2.new w5 ((cellO (numO st).2).1.1, a, (cellO (numO st).2).1.2.length, cap)
   have HF16 := Lib.hid (cell_fine (numO st).2)
   have HKF := Lib.hid (num_fits st)
   have HGR := Lib.hid (show goO (g + 1) L st = goO M [] s1 by rw [← HGO.out]; congr 1; have := HKG.out; omega)
   have HFA := Lib.hid (go_fault (g := g) (L := L) (st := st))
   have HBA := Lib.hid (go_bad (g := g) (L := L) (st := st))
   have HNE := Lib.hid (go_next (g := g) (L := L) (st := st))
   have HRE : Hid ((cellO (numO st).2).2.1.length ≤ 140737488355328) := Lib.hid (Nat.le_trans (cell_rest _) (Nat.le_trans (num_rest st) HST.out))
   obtain ⟨key, hkey⟩ : ∃ x, (numO st).1 = x := ⟨_, rfl⟩
   obtain ⟨cx, hcx⟩ : ∃ x, (cellO (numO st).2).1.1 = x := ⟨_, rfl⟩
   obtain ⟨ns, hns⟩ : ∃ x, (cellO (numO st).2).1.2 = x := ⟨_, rfl⟩
   obtain ⟨s5, hs5⟩ : ∃ x, (cellO (numO st).2).2 = x := ⟨_, rfl⟩
   have hce : (cellO (numO st).2).1 = (cx, ns) := by rw [← hcx, ← hns]
   rw [hs5] at HFA HBA HNE HRE HRD5
   rw [hkey] at HBA HNE HKF
   rw [hce] at HNE HF16
   rw [hcx, hns] at hb6 hbx
   rw [hns] at HNA5
   obtain ⟨W6, hW6⟩ : ∃ W, w5.alloc (.cells #[.int .i64 cx, .slice a ns.length cap] 77) = W := ⟨_, rfl⟩
   dsimp only at hbx
   rw [hW6] at hb6 hbx
   have HW6 := Lib.hid hW6
   obtain ⟨N, hN⟩ : ∃ N, w5.heap.size = N := ⟨_, rfl⟩
   have HNN := Lib.hid hN
   rw [hN] at hbx
   have HTB6 := Lib.hid (HTB5.out.below hb6)
   have HBW6 := Lib.hid (below_on' HBW5.out hb6)
   have HRD6 := Lib.hid (HRD5.out.below hb6)
   have HNA6 := Lib.hid (HNA5.out.keep (.of_below hb6))
   obtain ⟨x0, x1, -, -⟩ := hbx.facts
   dsimp only at x0 x1
   have HPU := Lib.hid (put_any (k := key) HTB6.out HKF.out HF16.out.acc HF16.out.all HNA6.out.sl (HNA6.out.ne_tab HTB6.out) (Nat.le_trans HF16.out.few (by omega)))
   unfold PutPost at HPU
   unfold mkC
   rw [hkey, hcx, hns]
   obtain ⟨nl, hnl⟩ : ∃ n, ns.length = n := ⟨_, rfl⟩
   rw [hnl] at HW6 HPU x1
   rw [hnl]
   clear hr5 ho5 hna5 hb6 hbx hW6 hN hkey hcx hns hs5 hce hnl
   obtain ⟨c0, c1, -, -⟩ := HRD6.out.facts
   by_cases h2 : s5.2 = 0
   · rw [h2] at c1
     have hLT := HTB6.out.lt
     have HHIT := Lib.hid (fun w7 => take_step (w7 := w7) HTB6.out HBW6.out hwt hwb HKF.out HF16.out HRD6.out h2 HNE.out HGR.out HRE.out HLK.out HKG.out)
     have HMISS : Hid (∀ w', Below w.heap.size w w' → badB L key = true → TakePost l w (.returned (.tuple #[.pointer none, .int .i64 21])) w') := Lib.hid (fun w' hb hbad => by
      refine take_fails (L := []) ?_ (by simp) hb
      rw [HTK.out, ← HGR.out, HBA.out h2 hbad]; unfold endO; simp)
     have HGB := Lib.hid (HTB6.out.good.bad (k := key) (c := (cx, ns)) HF16.out)
     obtain ⟨pc, hpc⟩ : ∃ x, (putO L key (cx, ns)).1 = x := ⟨_, rfl⟩
     rw [hpc] at HPU HGB HHIT
     have c1' := c1
     have x0' := x0
     have x1' := x1
     rw [← HW6.out] at c1'
     by_cases hk0 : 0 < (k : Int)
     · obtain ⟨p, hp⟩ := last_some (L := L) (by have := HLK.out; omega)
       have HLA := Lib.hid (lastK_of hp)
       have HAH := Lib.hid (ahead_all (lastK L) key W6)
       have HB0 : Hid (lessB (lastK L) key = false → badB L key = true) := Lib.hid (fun e => by
        unfold badB; rw [hp]; rw [HLA.out] at e; simp [e])
       have HB1 : Hid (lessB (lastK L) key = true → badB L key = decide (pc ≠ 0)) := Lib.hid (fun e => HGB.out (fun q hq => by
        rw [hp] at hq; rw [HLA.out, Option.some.inj hq] at e; exact e))
       clear hp hpc hLT
       obtain ⟨lb, hlb⟩ : ∃ x, lessB (lastK L) key = x := ⟨_, rfl⟩
       rw [hlb] at HAH HB0 HB1
       clear hlb
       go_wp2_with fail
       rw [HW6.out, HNN.out]
       refine HAH.out.mono ?_
       rintro e w7 ⟨rfl, rfl⟩
       cases lb with
       | false =>
        go_wp2_with fail
        try rw [Exit.noGoto_ret]
        go_ret2
        exact HMISS.out _ HBW6.out (HB0.out (by first | rfl | trivial))
       | true =>
        go_wp2_with fail
        refine HPU.out.mono ?_
        rintro e w8 ⟨rfl, ht8, ho8⟩
        have HT8 := Lib.hid ht8
        have HO8 := Lib.hid ho8
        clear ht8 ho8
        by_cases hz : pc = 0
        · subst hz
          have HST := Lib.hid (HHIT.out w8 rfl (by simpa using HB1.out (by first | rfl | trivial)) HT8.out HO8.out)
          go_wp2_with fail
          go_roundg g
          case measure => omega
          case rel => exact ⟨k + 1, by have := HKG.out; omega, by go_num, HST.out⟩
        · have hne : (pc != 0) = true := by simp [hz]
          have HM := Lib.hid (HMISS.out w8 (tab_below HBW6.out HO8.out hwt hwb) (by simpa [hz] using HB1.out (by first | rfl | trivial)))
          go_wp2_with fail
          try rw [Exit.noGoto_ret]
          go_ret2
          exact HM.out
     · have hk00 : k = 0 := by omega
       have HB1 : Hid (badB L key = decide (pc ≠ 0)) := Lib.hid (HGB.out (fun q hq => by
        have h0 : L = [] := List.length_eq_zero_iff.1 (by rw [HLK.out, hk00])
        rw [h0] at hq; cases hq))
       clear hpc hLT hk00
       rw [← HW6.out] at x0' x1'
       rw [HNN.out.symm] at x0' x1'
       go_wp2_with fail
       rw [HW6.out]
       refine HPU.out.mono ?_
       rintro e w8 ⟨rfl, ht8, ho8⟩
       have HT8 := Lib.hid ht8
       have HO8 := Lib.hid ho8
       clear ht8 ho8
       by_cases hz : pc = 0
       · subst hz
         have HST := Lib.hid (HHIT.out w8 rfl (by simpa using HB1.out) HT8.out HO8.out)
         go_wp2_with fail
         go_roundg g
         case measure => omega
         case rel => exact ⟨k + 1, by have := HKG.out; omega, by go_num, HST.out⟩
       · have hne : (pc != 0) = true := by simp [hz]
         have HM := Lib.hid (HMISS.out w8 (tab_below HBW6.out HO8.out hwt hwb) (by simpa [hz] using HB1.out))
         go_wp2_with fail
         try rw [Exit.noGoto_ret]
         go_ret2
         exact HM.out
   · have hF : takeT l = (s5.2, []) := by rw [HTK.out, ← HGR.out, HFA.out h2]; unfold endO; simp [h2]
     have HF : Hid (TakePost l w (.returned (.tuple #[.pointer none, .int .i64 s5.2])) W6.drew) := Lib.hid (take_fails hF h2 HBW6.out.drew)
     obtain ⟨c, hc⟩ : ∃ c, s5.2 = c := ⟨_, rfl⟩
     rw [hc] at c1 HF h2
     have hne : (c != 0) = true := by simp [h2]
     clear hF h2 hc
     rw [← HW6.out] at c1
     go_wp2_with fail
     rw [HW6.out]
     rw [HW6.out] at c1
     go_region
     go_wp2_with fail
     try rw [Exit.noGoto_ret]
     go_ret2
     exact HF.out
end
section
open Go.RowKit
attribute [local go_sem ↓] Go.wp_at_zero Go.wp_at_succ
open grp (gof gof_in fits fits_wf IRow intV below_on' below_made ret_bool own_below irow_new below_drewN EqPost eq_yes eq_no)
open byt (txt bl)
structure Opn where
 kind : Int
 key : Int
 acc : Int
 a : Option Addr
 ns : List Int
 cap : Nat
def noOp : Opn := ⟨7, 0, 0, none, [], 0⟩
instance : Inhabited Opn := ⟨noOp⟩
end
end Go.Proofs.YtepdecnegihhhaaGreatDoor.tbl
