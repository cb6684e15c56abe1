/- One row of one record: what it is merged, what a node that is no union gets of it. What the job's three nodes do; what a node gets of one that it reads. -/
import Derived.Test.YtepdecnegihhhaaGreatDoorMOp
import Derived.Test.YtepdecnegihhhaaGreatDoorMOq
import Derived.Test.YtepdecnegihhhaaGreatDoorMIe
set_option linter.unusedSimpArgs false
set_option linter.unusedVariables false
namespace Go.Proofs.YtepdecnegihhhaaGreatDoor.idl
section
open Go.RowKit
open opr (Rc Own Lr Nv nodeV NBox)
open grp (below_on' below_made)
attribute [local go_sem ↓] Go.wp_at_zero Go.wp_at_succ
theorem insert_one (ad : Option Addr) (cc : Nat) (f : Value) (w : World) : Calls Tryz.prog 126 #[.slice ad 1 cc, .int .i64 0, .int .i64 1, f] w fun e w' => e = .returned (.tuple #[]) ∧ w' = w := by
 go_enter Tryz.func126, Tryz.ntmps126
 go_wp2
 refine wp_loop_rounds 1 ?_
 rw [rounds_succ]
 go_wp2
 go_end0
 exact ⟨rfl, rfl⟩
theorem stable_one (ad : Option Addr) (cc : Nat) (f : Value) (w : World) : Calls Tryz.prog 88 #[.slice ad 1 cc, .int .i64 1, f] w fun e w' => e = .returned (.tuple #[]) ∧ w' = w := by
 have HI := Lib.hid (fun w => insert_one ad cc f w)
 go_enter Tryz.func88, Tryz.ntmps88
 go_wp2
 refine wp_loop_rounds 1 ?_
 rw [rounds_succ]
 go_wp2_with fail
 refine (HI.out _).mono ?_
 rintro e w1 ⟨rfl, rfl⟩
 go_wp2
 refine wp_loop_rounds 1 ?_
 rw [rounds_succ]
 go_wp2
 go_end0
 exact ⟨rfl, rfl⟩
theorem sort_one (ad : Option Addr) (cc : Nat) (f : Value) (w : World) : Calls Tryz.prog 50 #[.slice ad 1 cc, f] w fun e w' => e = .returned (.tuple #[]) ∧ w' = w := by
 have HI := Lib.hid (fun w => stable_one ad cc f w)
 go_enter Tryz.func50, Tryz.ntmps50
 go_wp2_with fail
 refine (HI.out _).mono ?_
 rintro e w1 ⟨rfl, rfl⟩
 go_wp2
 go_end0
 exact ⟨rfl, rfl⟩
theorem merge_one {w : World} {v x : Value} {r : Rc} (h : Lr w v [x] [[r]]) : Calls Tryz.prog 21 #[v] w fun e w' => ∃ v', e = .returned v' ∧ Own w' w.heap.size v' [r] ∧ Below w.heap.size w w' := by
 have HC : Hid (Calls Tryz.prog 49 #[v] w fun e w' => ∃ v', e = .returned v' ∧ Own w' w.heap.size v' [r] ∧ Below w.heap.size w w') := Lib.hid (opr.concat_any h (show 1 ≤ 1000000 by decide) (show 1 ≤ 1000000 by decide))
 have HS := Lib.hid (fun ad cc w => sort_one ad cc (.func (.func 51) #[] #[]) w)
 clear h
 go_enter Tryz.func21, Tryz.ntmps21
 go_wp2_with fail
 refine HC.out.mono ?_
 rintro e w1 ⟨v1, rfl, ho1, hb1⟩
 obtain ⟨a1, c1, rfl⟩ := ho1.len
 have HF : Hid (∃ v', Ending.returned (.slice a1 1 c1) = .returned v' ∧ Own w1 w.heap.size v' [r] ∧ Below w.heap.size w w1) := Lib.hid ⟨_, rfl, ho1, hb1⟩
 rw [show ([r] : List Rc).length = 1 from rfl]
 clear ho1 hb1
 go_wp2_with fail
 refine (HS.out _ _ _).mono ?_
 rintro e w2 ⟨rfl, rfl⟩
 go_wp2
 go_ret
 exact HF.out
theorem gets_alone {w : World} {v x : Value} {r : Rc} (h : Lr w v [x] [[r]]) (nv : Nv) (hkd : nv.kd ≠ 8) :
  Calls Tryz.prog 47 #[nodeV nv, v] w fun e w' => ∃ v', e = .returned v' ∧ Own w' w.heap.size v' [r] ∧ Below w.heap.size w w' := by
 obtain ⟨a, c, rfl⟩ := h.len
 have hb0 := below_made w (.cells nv.cells 48)
 obtain ⟨c0, c1, c2, c3, c4, c5, c6⟩ := (NBox.new w nv).facts
 have HB0 := Lib.hid hb0
 have HM := Lib.hid (merge_one (h.below hb0))
 rw [show ([[r]] : List (List Rc)).length = 1 from rfl] at HM ⊢
 obtain ⟨s, kd, ia, il, ic, op, xn, xa, xl, xc, nn⟩ := nv
 unfold nodeV Nv.cells
 unfold Nv.cells at *
 dsimp only at *
 have hk : ((kd : Int) != 8) = true := by simp; omega
 clear h hb0 hkd
 go_enter Tryz.func47, Tryz.ntmps47
 go_wp2_with fail
 refine HM.out.mono ?_
 rintro e w1 ⟨v1, rfl, ho1, hb1⟩
 obtain ⟨a1, c1', rfl⟩ := ho1.len
 have HF : Hid (∃ v', Ending.returned (.slice a1 [r].length c1') = .returned v' ∧ Own w1 w.heap.size v' [r] ∧ Below w.heap.size w w1) := Lib.hid ⟨_, rfl, opr.Own.base ho1 HB0.out.size, below_on' HB0.out hb1⟩
 clear ho1 hb1
 go_wp2
 go_ret
 exact HF.out
end
section
open Go.RowKit
open opr (Rc rcA Sr Own Nv nodeV NBox Lr outsTo outsTo_succ do_any RedI picked_red red_step acc0 one_any rec_box)
open tbl (IsTab Only Two lt_of_get putO)
open grp (below_on' below_made fits)
open exp (Ex Lies intO)
attribute [local go_sem ↓] Go.wp_at_zero Go.wp_at_succ
def oneO (r : Rc) (k : Nat) : List Rc := match k with
 | 0 => [r]
 | _ => []
theorem oneO_len (r : Rc) (k : Nat) : (outsTo (oneO r) k).length ≤ 1000000 := by
 have h : ∀ m, outsTo (oneO r) (m + 1) = [r] := fun m => by
  induction m with
  | zero => rfl
  | succ m ih => rw [outsTo_succ, ih]; rfl
 match k with
 | 0 => exact Nat.zero_le _
 | k + 1 => rw [h]; show 1 ≤ 1000000; decide
theorem pass_step (r : Rc) (w : World) : Calls Tryz.prog 86 #[rcA r] w fun e w' => ∃ v', e = .returned v' ∧ Own w' w.heap.size v' [r] ∧ Below w.heap.size w w' := by
 have hb0 := below_made w (.cells #[.int .i64 r.1, .int .i64 r.2.1, .int .i64 r.2.2] 34)
 obtain ⟨q0, q1, q2⟩ := rec_box w r
 have HB := Lib.hid hb0
 have HO := Lib.hid (fun w => one_any r.1 r.2.1 r.2.2 w)
 obtain ⟨r1, r2, r3⟩ := r
 unfold rcA
 dsimp only at *
 clear hb0
 go_enter Tryz.func86, Tryz.ntmps86
 go_wp2_with fail
 refine (HO.out _).mono ?_
 rintro e w1 ⟨v', rfl, ho, hb1⟩
 obtain ⟨a1, c1, rfl⟩ := ho.len
 have HF : Hid (∃ v', Ending.returned (.slice a1 [(r1, r2, r3)].length c1) = .returned v' ∧ Own w1 w.heap.size v' [(r1, r2, r3)] ∧ Below w.heap.size w w1) := Lib.hid ⟨_, rfl, opr.Own.base ho HB.out.size, below_on' HB.out hb1⟩
 clear ho hb1
 go_wp2_with fail
 go_ret
 exact HF.out
theorem picked_pass (s : ByteArray) (kd : Nat) (hkd : kd = 1 ∨ kd = 9) (ia : Option Addr) (il ic op : Nat) (xn : Int) (xa : Option Addr) (xl xc : Nat) (nn : Int) (tv : Option Addr) (w : World) :
  Calls Tryz.prog 48 #[nodeV ⟨s, kd, ia, il, ic, op, xn, xa, xl, xc, nn⟩, .pointer tv] w fun e w' => e = .returned (.func (.func 86) #[] #[]) ∧ Below w.heap.size w w' := by
 have hn := NBox.new w ⟨s, kd, ia, il, ic, op, xn, xa, xl, xc, nn⟩
 have hb1 := below_made w (.cells (Nv.cells ⟨s, kd, ia, il, ic, op, xn, xa, xl, xc, nn⟩) 48)
 have hb2 := below_made (w.alloc (.cells (Nv.cells ⟨s, kd, ia, il, ic, op, xn, xa, xl, xc, nn⟩) 48)) (.cells #[.func (.func 76) #[] #[.pointer (some ⟨w.heap.size, 0, none⟩)]] 149)
 have hn2 := hn.below hb2
 obtain ⟨c0, c1, c2, c3, c4, c5, c6⟩ := hn.facts
 obtain ⟨d0, d1, d2, d3, d4, d5, d6⟩ := hn2.facts
 have HBW := Lib.hid (below_on' hb1 hb2)
 unfold nodeV
 unfold Nv.cells at c0 c1 c2 c3 c4 c5 c6 d0 d1 d2 d3 d4 d5 d6 HBW ⊢
 dsimp only at c0 c1 c2 c3 c4 c5 c6 d0 d1 d2 d3 d4 d5 d6 HBW ⊢
 clear hn hn2 hb1 hb2
 rcases hkd with rfl | rfl
 all_goals
  go_enter Tryz.func48, Tryz.ntmps48
  go_wp2_with fail
  go_ret
  exact ⟨rfl, HBW.out⟩
theorem pass_do {w : World} {s : ByteArray} {kd : Nat} (hkd : kd = 1 ∨ kd = 9) {ia : Option Addr} {il ic op : Nat} {xn : Int} {xa : Option Addr} {xl xc : Nat} {nn : Int} {tv : Option Addr} {u : Value} {r : Rc} (hu : Sr w u [r]) :
  Calls Tryz.prog 20 #[nodeV ⟨s, kd, ia, il, ic, op, xn, xa, xl, xc, nn⟩, .pointer tv, u] w fun e w' => ∃ v', e = .returned v' ∧ Own w' w.heap.size v' [r] ∧ Below w.heap.size w w' := by
 refine (do_any _ tv hu (by simp) (fun _ => False) (fun k hk => hk.elim) (fun _ _ _ _ => id) 86 (enters_of Tryz.func86 (by kernel_rfl) rfl) (fun bd _ _ => bd = #[]) (oneO r)
  (oneO_len r) (fun bd k w' w'' h hs => h) (fun w' hw => (picked_pass s kd hkd ia il ic op xn xa xl xc nn tv w').mono (fun e w'' h => ⟨#[], h.1, rfl, h.2⟩)) (fun bd k q w' hr hI => ?_)).mono ?_
 · match k, hr with
   | 0, hr =>
    injection hr with hr
    subst hr
    subst hI
    refine (pass_step _ w').mono ?_
    rintro e w'' ⟨v', h1, h2, h3⟩
    exact ⟨v', h1, h2, rfl, .of_below h3⟩
   | k + 1, hr => simp at hr
 · rintro e w' ⟨v', rfl, h1, -, h2⟩
   exact ⟨v', rfl, h1, ⟨h2.os, h2.tape, h2.output, h2.size, fun k hk => h2.block k hk id⟩⟩
def exSum : Ex := .mk 7 0 [.mk 4 0 [], .mk 3 0 []]
theorem size_sum : exSum.size ≤ 1000000 := by decide
def redL (L L' : tbl.Rows) (k : Nat) : tbl.Rows := match k with
 | 0 => L
 | _ => L'
theorem red_one {w : World} {s : ByteArray} {ia : Option Addr} {il ic : Nat} {xa : Option Addr} {xc : Nat} {nn : Int} {t b : Nat} {B : Nat → Prop} {L L' : tbl.Rows} {u : Value} {p key val x : Int} (hl : Lies w B (.slice xa 2 xc) [.mk 4 0 [], .mk 3 0 []]) (ht : IsTab w t b L) (hu : Sr w u [(p, key, val)]) (hne : ∀ a n c, u = .slice (some a) n c → ¬ Two t b a.block)
  (hk : fits key) (hx : intO exSum ⟨key, val, acc0 L key⟩ = x) (hfx : fits x) (hp : putO L key (x, []) = (0, L')) :
  Calls Tryz.prog 20 #[nodeV ⟨s, 6, ia, il, ic, 7, 0, xa, 2, xc, nn⟩, .pointer (some ⟨t, 0, none⟩), u] w fun e w' => ∃ v', e = .returned v' ∧ Own w' w.heap.size v' [(p, key, x)] ∧ IsTab w' t b L' ∧ Only (Two t b) w w' := by
 refine (do_any _ (some ⟨t, 0, none⟩) hu (by simp) (Two t b) (fun k hk => by obtain ⟨h1, h2, _⟩ := ht.lt; rcases hk with rfl | rfl <;> assumption) hne 122 (enters_of Tryz.func122 (by kernel_rfl) rfl) (fun bd k w' => RedI ⟨s, 6, ia, il, ic, 7, 0, xa, 2, xc, nn⟩ [.mk 4 0 [], .mk 3 0 []] B t b bd (redL L L' k) w') (oneO (p, key, x))
  (oneO_len _) (fun bd k w' w'' h hs => h.stay hs) (fun w' hw => picked_red _ _ _ _ _ _ _ _ _ _ (hl.under hw) (ht.below hw)) (fun bd k r w' hr hI => ?_)).mono ?_
 · match k, hr with
   | 0, hr =>
    injection hr with hr
    subst hr
    exact red_step hI size_sum (p, key, val) hk hx hfx hp
   | k + 1, hr => simp at hr
 · rintro e w' ⟨v', rfl, h1, ⟨bd, h3⟩, h2⟩
   exact ⟨v', rfl, h1, h3.tab, h2⟩
theorem info_rows : (Tryz.prog.info? 32).map (fun i => (i.zero, i.size, i.bytes)) = some (some (.slice none 0 0), 1, 24) := by kernel_rfl
theorem lr_one {w : World} {g : Nat} {v : Value} {l : List Rc} {ty : TypeId} (h : w.heap[g]? = some (.cells #[v] ty (0, 0))) (hs : Sr w v l) (c : Nat) (hc : 1 ≤ c) : Lr w (.slice (some ⟨g, 0, none⟩) 1 c) [v] [l] :=
 ⟨_, c, rfl, rfl, hc, fun _ => ⟨g, 0, rfl, lt_of_get h, fun i x hx => by
  match i, hx with
  | 0, hx => injection hx with hx; subst hx; exact exp.cell_of h rfl
  | i + 1, hx => simp at hx⟩, fun i x l' hx hl => by
  match i, hx, hl with
  | 0, hx, hl => injection hx with hx; injection hl with hl; subst hx hl; exact hs
  | i + 1, hx, hl => simp at hx⟩
theorem lr_row {w : World} {g cap : Nat} {v : Value} {l : List Rc} (h : lg.Row w 32 1 (.slice (some ⟨g, 0, none⟩) 1 cap) 1 [v]) (hs : Sr w v l) : Lr w (.slice (some ⟨g, 0, none⟩) 1 cap) [v] [l] := by
 have hc : 1 ≤ cap := by
  rcases h.form with ⟨e, _⟩ | ⟨g', cap', e, h1, _⟩
  · cases e
  · injection e with _ _ e3
    omega
 exact ⟨_, cap, rfl, rfl, hc, fun _ => ⟨g, 0, rfl, h.lt rfl, fun i x hx => by rw [Nat.zero_add]; exact h.cellAt hx⟩, fun i x l' hx hl => by
  match i, hx, hl with
  | 0, hx, hl => injection hx with hx; injection hl with hl; subst hx hl; exact hs
  | i + 1, hx, hl => simp at hx⟩
set_option maxHeartbeats 1600000 in
set_option maxRecDepth 1000000 in
theorem gets_one {w : World} {s : ByteArray} {kd : Nat} (hkd : kd ≠ 8) {ia : Option Addr} {ic op : Nat} {xn : Int} {xa : Option Addr} {xl xc : Nat} {nn : Int} {i : Nat} {g n c : Nat} {av : Option Addr} {cv : Nat} {r : Rc} (hn6 : n ≤ 1000)
  (hi : jb.IRow w (.slice ia 1 ic) [(i : Int)]) (hin : i < n) (hc : w.cell? ⟨g, i, none⟩ = some (.slice av 1 cv)) (hs : Sr w (.slice av 1 cv) [r]) (hg : g < w.heap.size) :
  Calls Tryz.prog 19 #[nodeV ⟨s, kd, ia, 1, ic, op, xn, xa, xl, xc, nn⟩, .slice (some ⟨g, 0, none⟩) n c] w fun e w' => ∃ v', e = .returned v' ∧ Own w' w.heap.size v' [r] ∧ Below w.heap.size w w' := by
 obtain ⟨i0, hio, hz0, hz1, hz2⟩ := info_parts info_rows
 have hb0 := below_made w (.cells (Nv.cells ⟨s, kd, ia, 1, ic, op, xn, xa, xl, xc, nn⟩) 48)
 have hnb := NBox.new w ⟨s, kd, ia, 1, ic, op, xn, xa, xl, xc, nn⟩
 obtain ⟨W, hW⟩ : ∃ W, w.alloc (.cells (Nv.cells ⟨s, kd, ia, 1, ic, op, xn, xa, xl, xc, nn⟩) 48) = W := ⟨_, rfl⟩
 obtain ⟨N, hN⟩ : ∃ N, w.heap.size = N := ⟨_, rfl⟩
 rw [hW] at hb0 hnb
 rw [hN] at hnb
 obtain ⟨a2, c2, ev, hir⟩ := hi.on hb0
 injection ev with e1 e2 e3
 subst e1 e3
 obtain ⟨ib, io, rfl, hib, hcell⟩ := hir (by simp)
 have y0 := hcell 0 (by simp)
 simp only [List.getElem_cons_zero, Nat.add_zero] at y0
 have m0 : W.cell? ⟨g, i, none⟩ = some (.slice av 1 cv) := (hb0.cell (p := ⟨g, i, none⟩) hg).trans hc
 have HS := Lib.hid (hs.below hb0)
 have HB0 := Lib.hid hb0
 have HNB := Lib.hid hnb
 obtain ⟨b0, b1, b2, b3, b4, b5, b6⟩ := hnb.facts
 have HNN := Lib.hid hN; have HWW := Lib.hid hW
 have HK := Lib.hid hkd
 have hin' : (i : Int) < (n : Int) := by omega
 have hi0 : (0 : Int) ≤ (i : Int) := by omega
 unfold nodeV
 unfold Nv.cells at *
 dsimp only at *
 clear hi hs hb0 hnb hN hW hir hcell hc hkd e2
 go_enter Tryz.func19, Tryz.ntmps19
 go_upto_region 1 with fail
 rw [HNN.out, HWW.out]
 go_wp2_with fail
 refine wp_loop_rounds 2 ?_
 rw [rounds_succ]
 go_wp2_with (at_builtin; refine lg.wpList_append_row _ rfl (.tmp 15) (.tmp 20) 60 rfl 32 i0 (.slice none 0 0) 1 24 Tryz.underlying60 hio hz0 hz1 hz2 rfl (by decide) (.slice none 0 0) 0 [] rfl (lg.Row.nil _ _ _) ⟨_, 0, none⟩ 1 1 [.slice av 1 cv] rfl rfl (World.news_of_block (cs := #[.slice av 1 cv]) (t := 32) (fr := (0, 0)) (heap_alloc_new _ _)) (by simp [Value.oneCell']) (by decide) (by unfold maxLen; omega) (by omega) _ rfl ?_)
 intro gb cap w2 hown hg2 hat hlt
 have hb2 : Below W.heap.size W w2 := (below_made W (.cells #[.slice av 1 cv] 32)).grown hg2 (by rw [World.size_alloc]; omega) (fun j hj => by simp [Value.ownBlock] at hj)
 have hlr := lr_row hown (HS.out.below hb2)
 have hga := gets_alone hlr ⟨s, kd, some ⟨ib, io, none⟩, 1, ic, op, xn, xa, xl, xc, nn⟩ HK.out
 have HGA : Hid (Calls Tryz.prog 47 #[.agg #[.string s, .int .u8 (kd : Int), .slice (some ⟨ib, io, none⟩) 1 ic, .int .u8 (op : Int), .int .i64 xn, .slice xa xl xc, .int .i64 nn], .slice (some ⟨gb, 0, none⟩) 1 cap] w2 fun e w' => ∃ v', e = .returned v' ∧ Own w' w2.heap.size v' [r] ∧ Below w2.heap.size w2 w') := Lib.hid hga
 obtain ⟨n0, n1, n2, n3, n4, n5, n6⟩ := (HNB.out.below hb2).facts
 dsimp only at n0 n1 n2 n3 n4 n5 n6
 have HB2 : Hid (Below w.heap.size w w2) := Lib.hid (below_on' HB0.out hb2)
 clear hown hg2 hat hlt hb2 hlr hga b0 b1 b2 b3 b4 b5 b6 y0 m0
 go_wp2_with fail
 rw [rounds_succ]
 go_wp2_with fail
 refine HGA.out.mono ?_
 rintro e w3 ⟨v', rfl, ho, hb3⟩
 obtain ⟨a3, c3, rfl⟩ := ho.len
 have HF : Hid (∃ v', Ending.returned (.slice a3 [r].length c3) = .returned v' ∧ Own w3 w.heap.size v' [r] ∧ Below w.heap.size w w3) := Lib.hid ⟨_, rfl, opr.Own.base ho HB2.out.size, below_on' HB2.out hb3⟩
 rw [← HNN.out]
 clear ho hb3 n0 n1 n2 n3 n4 n5 n6
 go_wp2_with fail
 go_ret
 exact HF.out
end
end Go.Proofs.YtepdecnegihhhaaGreatDoor.idl
