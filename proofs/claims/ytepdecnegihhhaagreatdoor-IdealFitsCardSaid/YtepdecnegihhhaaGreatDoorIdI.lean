/- What Feed answers of the job that puts numbers together. -/
import Derived.Test.YtepdecnegihhhaaGreatDoorMIh
import Derived.Deep.OwnRows
set_option linter.unusedSimpArgs false
set_option linter.unusedVariables false
namespace Go.Proofs.YtepdecnegihhhaaGreatDoor.idl
open Go.RowKit
open opr (Rc rcA Sr Own Nv nodeV NBox Lr acc0)
open tbl (IsTab Two lt_of_get putO)
open grp (below_on' below_made fits)
open exp (Ex Lies intO cell_of heap_last heap_old)
attribute [local go_sem ↓] Go.wp_at_zero Go.wp_at_succ
theorem IsSums.put {B : Nat} {w : World} {d t b q j : Nat} {L : tbl.Rows} {z : Value} (h : IsSums B w d t b L) {cs : Array Value} (hq : w.heap[q]? = some (.cells cs 32 (0, 0))) (hd : d < q) : IsSums B (w.setCell ⟨q, j, none⟩ z) d t b L := by
 obtain ⟨w0, m, n, a, c, h1, h2, h3, h4, h5⟩ := h.ex
 have hl : w0.heap.size ≤ q := by have := h1.lo.1; omega
 obtain ⟨es, ck, hm⟩ := h1.map.isMap
 have hne : ∀ k ob, w.heap[k]? = some ob → (∀ cs, ob ≠ Obj.cells cs 32 (0, 0)) → (w.setCell ⟨q, j, none⟩ z).heap[k]? = some ob := fun k ob hk hno => by
  rw [Below.heap_setCell _ _ _ _ (show k ≠ q from fun e => by rw [e, hq] at hk; exact hno _ (Option.some.inj hk).symm)]; exact hk
 refine ⟨⟨w0, m, n, a, c, ⟨h1.nodes, h1.bel.setCell (p := ⟨q, j, none⟩) hl _, hne _ _ h1.obj (fun cs e => by cases e), h1.map.keep ((hne _ _ hm (fun cs e => by cases e)).trans hm.symm), h1.lo⟩, h2, h3, h4, h5⟩, ?_⟩
 obtain ⟨es2, ck2, hm2⟩ := h.tab.map.isMap
 have h6 := h.tab.obj
 unfold tbl.TabO at h6
 exact h.tab.keep ((hne _ _ h6 (fun cs e => by cases e)).trans h6.symm) ((hne _ _ hm2 (fun cs e => by cases e)).trans hm2.symm) (fun g cur fr hg => hne _ _ hg (fun cs e => by cases e))
structure OnF (w : World) (B d t b MB : Nat) (L : tbl.Rows) (cs : Array Value) (W : World) : Prop where
 sums : IsSums B W d t b L
 made : W.heap[MB]? = some (.cells cs 32 (0, 0))
 only : tbl.Only (Two t b) w W
theorem OnF.below {w W W' : World} {B d t b MB : Nat} {L : tbl.Rows} {cs : Array Value} (h : OnF w B d t b MB L cs W) (hb : Below W.heap.size W W') : OnF w B d t b MB L cs W' :=
 ⟨h.sums.below hb, (hb.block _ (lt_of_get h.made)).trans h.made, h.only.on hb⟩
theorem OnF.put {w W : World} {B d t b MB j : Nat} {L : tbl.Rows} {cs : Array Value} {z : Value} (h : OnF w B d t b MB L cs W) (hd : d < MB) (hw : w.heap.size ≤ MB) : OnF w B d t b MB L (cs.setIfInBounds j z) (W.setCell ⟨MB, j, none⟩ z) :=
 ⟨h.sums.put h.made hd, sc.setCell_heap h.made, ⟨h.only.os, h.only.tape, h.only.output, by simpa using h.only.size, fun k hk hn => (Below.heap_setCell _ _ _ _ (show k ≠ MB by omega)).trans (h.only.block k hk hn)⟩⟩
theorem OnF.turn {w W W' : World} {B d t b MB : Nat} {L L' : tbl.Rows} {cs : Array Value} (h : OnF w B d t b MB L cs W) (ht : IsTab W' t b L') (ho : tbl.Only (Two t b) W W') (hm : t < MB ∧ b < MB) : OnF w B d t b MB L' cs W' :=
 ⟨h.sums.only ht ho, (ho.block MB (lt_of_get h.made) (fun e => by rcases e with e | e <;> omega)).trans h.made, h.only.then ho⟩
theorem own_put {W : World} {K MB j : Nat} {v z : Value} {l : List Rc} (h : Own W K v l) (hK : MB < K) : Own (W.setCell ⟨MB, j, none⟩ z) K v l :=
 opr.own_only h (tbl.Only.setCell W MB j z) (fun k e => by have e' : k = MB := e; omega)
theorem OnF.held {w W : World} {B d t b MB : Nat} {L : tbl.Rows} {cs : Array Value} (h : OnF w B d t b MB L cs W) : ∃ a c m, W.cell? ⟨d, 0, none⟩ = some (.slice a 3 c) ∧ W.cell? ⟨d, 1, none⟩ = some (.map (some m)) ∧
  jb.Nodes W (.slice a 3 c) sumsN ∧ ∀ k, fits k → (Instr.lookup 61 (.map (some m)) (.int .i64 k) false).run Tryz.prog W = .ok (ptrV (oneT t k)) W := by
 obtain ⟨w0, m, n, a, c, h1, _⟩ := h.sums.ex
 exact ⟨a, c, m, h1.cells.1, h1.cells.2, h1.on, fun k hk => h1.map.look hk⟩
set_option maxHeartbeats 6400000 in
set_option maxRecDepth 1000000 in
theorem feed_sums {B : Nat} {w : World} {d t b : Nat} {L L' : tbl.Rows} (h : IsSums B w d t b L) {key val x : Int} (hk : fits key) (hx : intO exSum ⟨key, val, acc0 L key⟩ = x) (hfx : fits x) (hp : putO L key (x, []) = (0, L')) :
  Calls Tryz.prog 9 #[.pointer (some ⟨d, 0, none⟩), .int .i64 key, .int .i64 val] w fun e w' => ∃ v', e = .returned v' ∧ Own w' w.heap.size v' [(1, key, x)] ∧ IsSums B w' d t b L' ∧ tbl.Only (Two t b) w w' := by
 obtain ⟨w0, m, n, a, c, hid, hmb, hlt, hlb, hB⟩ := h.ex
 obtain ⟨d0, d1⟩ := hid.cells
 have hmk : (Instr.makeSlice 60 (.int .i64 3) (.int .i64 3)).run Tryz.prog w = .ok (.slice (some ⟨w.heap.size, 0, none⟩) 3 3) (w.alloc (.cells #[.slice none 0 0, .slice none 0 0, .slice none 0 0] 32)) :=
  by
   have e3 : madeCells #[Value.slice none 0 0] 3 = #[.slice none 0 0, .slice none 0 0, .slice none 0 0] := by kernel_rfl
   have h1 := run_make_row' (P := Tryz.prog) 60 32 (.slice none 0 0) 24 Tryz.underlying60 info_rows rfl .i64 .i64 3 (by decide) (by decide) w
   rw [e3] at h1
   exact h1
 obtain ⟨MB, hMB⟩ : ∃ M, w.heap.size = M := ⟨_, rfl⟩
 obtain ⟨W2, hW2⟩ : ∃ W2, (w.alloc (.cells #[.slice none 0 0, .slice none 0 0, .slice none 0 0] 32)).alloc (.cells #[.int .i64 1, .int .i64 key, .int .i64 val] 34) = W2 := ⟨_, rfl⟩
 have hb2 : Below w.heap.size w W2 := by rw [← hW2]; exact (below_made _ _).alloc (by simp) _
 have hsr2 : Sr W2 (.slice (some ⟨MB + 1, 0, none⟩) 1 1) [(1, key, val)] := by
  have h1 := opr.sr_made (w.alloc (.cells #[.slice none 0 0, .slice none 0 0, .slice none 0 0] 32)) [(1, key, val)] (by simp) (by simp) #[.int .i64 1, .int .i64 key, .int .i64 val] rfl
  rw [World.size_alloc, hMB, hW2] at h1
  exact h1
 have hof : OnF w B d t b MB L #[.slice none 0 0, .slice none 0 0, .slice none 0 0] W2 := ⟨h.below hb2, by rw [← hW2]; exact heap_old (heap_last hMB.symm), tbl.Only.of_below hb2⟩
 have HTW : Hid (t < MB ∧ b < MB ∧ d < MB) := Lib.hid (by have := h.tab.lt; have := lt_of_get hid.obj; omega)
 have HO0 := Lib.hid hof
 have HS0 := Lib.hid hsr2
 have HMM := Lib.hid hMB
 have HW2 := Lib.hid hW2
 have HSZ2 : Hid (MB + 1 < W2.heap.size) := Lib.hid (by rw [← hW2, ← hMB]; simp)
 have HP := Lib.hid hp; have HX := Lib.hid hx; have HFX := Lib.hid hfx; have HK := Lib.hid hk
 clear h hid hb2 hsr2 hof hMB hW2 hp hx hfx hk hmb hlt hlb hB
 go_enter Tryz.func9, Tryz.ntmps9
 go_upto_region 5 with fail
 rw [HMM.out, HW2.out]
 clear d0 d1 hmk
 obtain ⟨av0, cv0, mx0, d0, d1, hnv, -⟩ := HO0.out.held
 obtain ⟨bv0, ia0_0, ia1_0, ia2_0, xa0_0, xa1_0, xa2_0, ic0_0, ic1_0, ic2_0, xc0_0, xc1_0, xc2_0, rfl, h3⟩ := three_of hnv
 obtain ⟨p0, p1, p2, p3, p4, p5, p6⟩ := h3.n0
 obtain ⟨WA0, hWA⟩ : ∃ WA, W2.alloc (.cells #[.string ⟨#[115]⟩, .int .u8 1, .slice ia0_0 0 ic0_0, .int .u8 0, .int .i64 0, .slice xa0_0 0 xc0_0, .int .i64 0] 48) = WA := ⟨_, rfl⟩
 have hba : Below W2.heap.size W2 WA0 := by rw [← hWA]; exact below_made _ _
 obtain ⟨Q0, hQ⟩ : ∃ Q, W2.heap.size = Q := ⟨_, rfl⟩
 have HQC0 : Hid (WA0.heap[Q0]? = some (.cells #[.string ⟨#[115]⟩, .int .u8 1, .slice ia0_0 0 ic0_0, .int .u8 0, .int .i64 0, .slice xa0_0 0 xc0_0, .int .i64 0] 48 (0, 0))) := Lib.hid (by rw [← hWA]; exact heap_last hQ.symm)
 have HOA0 := Lib.hid (HO0.out.below hba)
 have HSA0 := Lib.hid (HS0.out.below hba)
 have HTA0 := Lib.hid (h3.on hba)
 have HWS0 : Hid (WA0.heap.size = Q0 + 1) := Lib.hid (by rw [← hWA, ← hQ]; simp)
 have HMQ0 : Hid (MB < Q0) := Lib.hid (by rw [← hQ]; exact lt_of_get HO0.out.made)
 have HWA0 := Lib.hid hWA; have HQ0 := Lib.hid hQ
 clear hWA hba hQ h3 hnv
 go_wp2_with fail
 refine wp_loop_rounds 4 ?_
 rw [rounds_succ]
 go_upto_region 11 with fail
 rw [HQ0.out, HWA0.out]
 clear p0 p1 p2 p3 p4 p5 p6 d0 d1
 obtain ⟨w00, m0, n0, a0, c0, hid, hmb, hlt, hlb, -⟩ := HOA0.out.sums.ex
 have HI0 := Lib.hid hid; have HE0 := Lib.hid (And.intro hmb (And.intro hlt hlb))
 have HLK0 : Hid (∀ W n a c, IsId w00 W d m0 n a c (oneT t) → (Instr.lookup 61 (.map (some m0)) (.int .i64 0) false).run Tryz.prog W = .ok (.pointer none) W) := Lib.hid (fun W n a c h => by have := h.map.look (k := 0) ⟨by decide, by decide⟩; simpa [ptrV, oneT] using this)
 have hxd : Below WA0.heap.size WA0 WA0.drew := ⟨rfl, rfl, rfl, Nat.le_refl _, fun _ _ => rfl⟩
 have HXD0 := Lib.hid hxd
 have HXS0 : Hid (MB < WA0.heap.size) := Lib.hid (lt_of_get HOA0.out.made)
 have hdo := pass_do (s := ⟨#[115]⟩) (kd := 1) (.inl rfl) (ia := ia0_0) (il := 0) (ic := ic0_0) (op := 0) (xn := 0) (xa := xa0_0) (xl := 0) (xc := xc0_0) (nn := 0) (tv := none) (HSA0.out.below hxd)
 have HDO0 : Hid (Calls Tryz.prog 20 #[.agg #[.string ⟨#[115]⟩, .int .u8 1, .slice ia0_0 0 ic0_0, .int .u8 0, .int .i64 0, .slice xa0_0 0 xc0_0, .int .i64 0], .pointer none, (.slice (some ⟨MB + 1, 0, none⟩) 1 1)] WA0.drew fun e w' => ∃ v', e = .returned v' ∧ Own w' WA0.heap.size v' [(1, key, val)] ∧ Below WA0.heap.size WA0.drew w') := Lib.hid hdo
 clear hid hmb hlt hlb hxd hdo
 refine dsk.wp_region_peel2 (by kernel_rfl) (by simp only [List.dropLast_cons_cons, List.dropLast_singleton]; exact rfl) rfl (by kernel_rfl) ?_
 refine wpAny_of_held (S := fun w' => w'.rangeAt Q0 0 [.string ⟨#[115]⟩, .int .u8 1, .slice ia0_0 0 ic0_0, .int .u8 0, .int .i64 0, .slice xa0_0 0 xc0_0, .int .i64 0] ∧ w'.cell? ⟨d, 1, none⟩ = some (.map (some m0)) ∧ (Instr.lookup 61 (.map (some m0)) (.int .i64 0) false).run Tryz.prog w' = .ok (.pointer none) w') _ _ _ _ ?_
 have hHeld := (show WA0.drew.rangeAt Q0 0 [.string ⟨#[115]⟩, .int .u8 1, .slice ia0_0 0 ic0_0, .int .u8 0, .int .i64 0, .slice xa0_0 0 xc0_0, .int .i64 0] ∧ WA0.drew.cell? ⟨d, 1, none⟩ = some (.map (some m0)) ∧ (Instr.lookup 61 (.map (some m0)) (.int .i64 0) false).run Tryz.prog WA0.drew = .ok (.pointer none) WA0.drew from ⟨range_new HQC0.out, (HI0.out.below HXD0.out).cells.2, HLK0.out _ _ _ _ (HI0.out.below HXD0.out)⟩)
 refine wpAnyH_take (i := 0) (v := ?v1) rfl (by kernel_rfl) (by kernel_rfl) (by kernel_rfl) (fun _ _ _ h => h) (Or.inl ⟨by rfl, ?hy1⟩) (by assumption) ?rest1
 case hy1 => (intro w0 hSw; (try dsimp only at hSw); go_simp; try with_reducible rfl)
 try simp only [Act.put, List.getElem_toArray, List.getElem_cons_zero, List.getElem_cons_succ, List.setIfInBounds_toArray, List.set_cons_zero, List.set_cons_succ]
 refine wpAnyH_take (i := 1) (v := ?v2) rfl (by kernel_rfl) (by kernel_rfl) (by kernel_rfl) (fun _ _ _ h => h) (Or.inl ⟨by rfl, ?hy2⟩) (by assumption) ?rest2
 case hy2 => (intro w0 hSw; (try dsimp only at hSw); go_simp; try with_reducible rfl)
 try simp only [Act.put, List.getElem_toArray, List.getElem_cons_zero, List.getElem_cons_succ, List.setIfInBounds_toArray, List.set_cons_zero, List.set_cons_succ]
 refine wpAnyH_take (i := 2) (v := .agg ([.string ⟨#[115]⟩, .int .u8 1, .slice ia0_0 0 ic0_0, .int .u8 0, .int .i64 0, .slice xa0_0 0 xc0_0, .int .i64 0] : List Value).toArray) rfl (by kernel_rfl) (by kernel_rfl) (by kernel_rfl) (fun _ _ _ h => h) (yieldsIf_load_mid (by rfl) 48 (.tmp 10) rfl Q0 (0) rfl [.string ⟨#[115]⟩, .int .u8 1, .slice ia0_0 0 ic0_0, .int .u8 0, .int .i64 0, .slice xa0_0 0 xc0_0, .int .i64 0] _ (fun w0 hw0 => hw0.1) Tryz.underlying48 rfl (by kernel_rfl)) (by assumption) ?_
 try simp only [Act.put, List.getElem_toArray, List.getElem_cons_zero, List.getElem_cons_succ, List.setIfInBounds_toArray, List.set_cons_zero, List.set_cons_succ]
 refine wpAnyH_take (i := 3) (v := ?v3) rfl (by kernel_rfl) (by kernel_rfl) (by kernel_rfl) (fun _ _ _ h => h) (Or.inl ⟨by rfl, ?hy3⟩) (by assumption) ?rest3
 case hy3 => (intro w0 hSw; (try dsimp only at hSw); go_simp; try with_reducible rfl)
 try simp only [Act.put, List.getElem_toArray, List.getElem_cons_zero, List.getElem_cons_succ, List.setIfInBounds_toArray, List.set_cons_zero, List.set_cons_succ]
 refine wpAnyH_take (i := 4) (v := ?v4) rfl (by kernel_rfl) (by kernel_rfl) (by kernel_rfl) (fun _ _ _ h => h) (Or.inl ⟨by rfl, ?hy4⟩) (by assumption) ?rest4
 case hy4 => (intro w0 hSw; (try dsimp only at hSw); go_simp; try with_reducible rfl)
 try simp only [Act.put, List.getElem_toArray, List.getElem_cons_zero, List.getElem_cons_succ, List.setIfInBounds_toArray, List.set_cons_zero, List.set_cons_succ]
 refine wpAnyH_take (i := 5) (v := ?v5) rfl (by kernel_rfl) (by kernel_rfl) (by kernel_rfl) (fun _ _ _ h => h) (Or.inl ⟨by rfl, ?hy5⟩) (by assumption) ?rest5
 case hy5 => (intro w0 hSw; (try dsimp only at hSw); go_simp; try with_reducible rfl)
 try simp only [Act.put, List.getElem_toArray, List.getElem_cons_zero, List.getElem_cons_succ, List.setIfInBounds_toArray, List.set_cons_zero, List.set_cons_succ]
 refine wpAnyH_take (i := 6) (v := ?v6) rfl (by kernel_rfl) (by kernel_rfl) (by kernel_rfl) (fun _ _ _ h => h) (Or.inl ⟨by rfl, ?hy6⟩) (by assumption) ?rest6
 case hy6 => (intro w0 hSw; (try dsimp only at hSw); go_simp; try with_reducible rfl)
 try simp only [Act.put, List.getElem_toArray, List.getElem_cons_zero, List.getElem_cons_succ, List.setIfInBounds_toArray, List.set_cons_zero, List.set_cons_succ]
 refine wpAnyH_take (i := 7) (v := ?v7) rfl (by kernel_rfl) (by kernel_rfl) (by kernel_rfl) (fun _ _ _ h => h) (Or.inl ⟨by rfl, ?hy7⟩) (by assumption) ?rest7
 case hy7 => (intro w0 hSw; (try dsimp only at hSw); go_simp; try with_reducible rfl)
 try simp only [Act.put, List.getElem_toArray, List.getElem_cons_zero, List.getElem_cons_succ, List.setIfInBounds_toArray, List.set_cons_zero, List.set_cons_succ]
 refine wpAnyH_take (i := 8) (v := ?v8) rfl (by kernel_rfl) (by kernel_rfl) (by kernel_rfl) (fun _ _ _ h => h) (Or.inl ⟨by rfl, ?hy8⟩) (by assumption) ?rest8
 case hy8 => (intro w0 hSw; (try dsimp only at hSw); obtain ⟨-, -, hq⟩ := hSw; go_simp; try with_reducible rfl)
 try simp only [Act.put, List.getElem_toArray, List.getElem_cons_zero, List.getElem_cons_succ, List.setIfInBounds_toArray, List.set_cons_zero, List.set_cons_succ]
 refine wpAnyH_take (i := 9) (v := ?v9) rfl (by kernel_rfl) (by kernel_rfl) (by kernel_rfl) (fun _ _ _ h => h) (Or.inl ⟨by rfl, ?hy9⟩) (by assumption) ?rest9
 case hy9 => (intro w0 hSw; (try dsimp only at hSw); go_simp; try with_reducible rfl)
 try simp only [Act.put, List.getElem_toArray, List.getElem_cons_zero, List.getElem_cons_succ, List.setIfInBounds_toArray, List.set_cons_zero, List.set_cons_succ]
 refine wpAnyH_ready (rs := [10]) (by kernel_rfl) (by simp) ?_
 refine AllReadyH.cons rfl (fun KQ hKQ => ?_) AllReadyH.nil
 go_simp
 refine HDO0.out.mono ?_
 rintro e WC0 ⟨vd0, rfl, hod, hbd⟩
 obtain ⟨ad0, cd0, rfl⟩ := hod.len
 rw [show ([(1, key, val)] : List Rc).length = 1 from rfl] at hod ⊢
 have hbd2 : Below WA0.heap.size WA0 WC0 := ⟨hbd.os, hbd.tape, hbd.output, hbd.size, hbd.block⟩
 have HOC0 := Lib.hid (HOA0.out.below hbd2)
 have HIC0 := Lib.hid (HI0.out.below hbd2)
 have HQC0b := Lib.hid ((hbd2.block Q0 (lt_of_get HQC0.out)).trans HQC0.out)
 have HOD0 := Lib.hid hod
 clear hod hbd hbd2
 refine hKQ.out _ _ ?_ (fun hHeld => ?_)
 · exact ⟨range_new HQC0b.out, HIC0.out.cells.2, HLK0.out _ _ _ _ HIC0.out⟩
 clear hKQ KQ
 try simp only [Act.put, List.getElem_toArray, List.getElem_cons_zero, List.getElem_cons_succ, List.setIfInBounds_toArray, List.set_cons_zero, List.set_cons_succ]
 refine wpAnyH_take (i := 11) (v := ?v10) rfl (by kernel_rfl) (by kernel_rfl) (by kernel_rfl) (fun _ _ _ h => h) (Or.inl ⟨by rfl, ?hy10⟩) (by assumption) ?rest10
 case hy10 => (intro w0 hSw; (try dsimp only at hSw); go_simp; try with_reducible rfl)
 try simp only [Act.put, List.getElem_toArray, List.getElem_cons_zero, List.getElem_cons_succ, List.setIfInBounds_toArray, List.set_cons_zero, List.set_cons_succ]
 refine wpAnyH_done (by kernel_rfl) ?_ _
 change wpList _ _ _ _ _ _
 clear hHeld
 have hmade := HOC0.out.made
 have fz : WC0.frozen? ⟨MB, 0, none⟩ = false := by simp [World.frozen?, hmade]
 have cz : WC0.cell? ⟨MB, 0, none⟩ = some (.slice none 0 0) := cell_of hmade rfl
 obtain ⟨WD0, hWD⟩ : ∃ W, WC0.setCell ⟨MB, 0, none⟩ (.slice ad0 1 cd0) = W := ⟨_, rfl⟩
 have HWD0 := Lib.hid hWD
 have HO1 : Hid (OnF w B d t b MB L _ WD0) := Lib.hid (by rw [← hWD]; exact HOC0.out.put HTW.out.2.2 (by rw [HMM.out]; exact Nat.le_refl _))
 have HSO1 : Hid (Own WD0 WA0.heap.size (.slice ad0 1 cd0) [(1, key, val)]) := Lib.hid (by rw [← hWD]; exact own_put HOD0.out HXS0.out)
 have HS1 := Lib.hid HSO1.out.sr
 clear hWD hmade
 go_upto_region 12 with fail
 rw [HWD0.out]
 clear fz cz
 go_wp2_with fail
 rw [rounds_succ]
 obtain ⟨av1, cv1, mx1, d0, d1, hnv, -⟩ := HO1.out.held
 obtain ⟨bv1, ia0_1, ia1_1, ia2_1, xa0_1, xa1_1, xa2_1, ic0_1, ic1_1, ic2_1, xc0_1, xc1_1, xc2_1, rfl, h3⟩ := three_of hnv
 obtain ⟨p0, p1, p2, p3, p4, p5, p6⟩ := h3.n1
 obtain ⟨WA1, hWA⟩ : ∃ WA, WD0.alloc (.cells #[.string ⟨#[114]⟩, .int .u8 6, .slice ia1_1 1 ic1_1, .int .u8 7, .int .i64 0, .slice xa1_1 2 xc1_1, .int .i64 0] 48) = WA := ⟨_, rfl⟩
 have hba : Below WD0.heap.size WD0 WA1 := by rw [← hWA]; exact below_made _ _
 obtain ⟨Q1, hQ⟩ : ∃ Q, WD0.heap.size = Q := ⟨_, rfl⟩
 have HQC1 : Hid (WA1.heap[Q1]? = some (.cells #[.string ⟨#[114]⟩, .int .u8 6, .slice ia1_1 1 ic1_1, .int .u8 7, .int .i64 0, .slice xa1_1 2 xc1_1, .int .i64 0] 48 (0, 0))) := Lib.hid (by rw [← hWA]; exact heap_last hQ.symm)
 have HOA1 := Lib.hid (HO1.out.below hba)
 have HSA1 := Lib.hid (HS1.out.below hba)
 have HTA1 := Lib.hid (h3.on hba)
 have HWS1 : Hid (WA1.heap.size = Q1 + 1) := Lib.hid (by rw [← hWA, ← hQ]; simp)
 have HMQ1 : Hid (MB < Q1) := Lib.hid (by rw [← hQ]; exact lt_of_get HO1.out.made)
 have HWA1 := Lib.hid hWA; have HQ1 := Lib.hid hQ
 clear hWA hba hQ h3 hnv
 go_upto_region 10 with fail
 rw [HQ1.out, HWA1.out]
 clear p0 p1 p2 p3 p4 p5 p6 d0 d1
 have b0 : WA1.cell? ⟨Q1, 0, none⟩ = some (.string ⟨#[114]⟩) := cell_of HQC1.out rfl
 have b1 : WA1.cell? ⟨Q1, 1, none⟩ = some (.int .u8 6) := cell_of HQC1.out rfl
 have b2 : WA1.cell? ⟨Q1, 2, none⟩ = some (.slice ia1_1 1 ic1_1) := cell_of HQC1.out rfl
 have b3 : WA1.cell? ⟨Q1, 3, none⟩ = some (.int .u8 7) := cell_of HQC1.out rfl
 have b4 : WA1.cell? ⟨Q1, 4, none⟩ = some (.int .i64 0) := cell_of HQC1.out rfl
 have b5 : WA1.cell? ⟨Q1, 5, none⟩ = some (.slice xa1_1 2 xc1_1) := cell_of HQC1.out rfl
 have b6 : WA1.cell? ⟨Q1, 6, none⟩ = some (.int .i64 0) := cell_of HQC1.out rfl
 have HG1 := Lib.hid (gets_one (s := ⟨#[114]⟩) (kd := 6) (by decide) (ia := ia1_1) (ic := ic1_1) (op := 7) (xn := 0) (xa := xa1_1) (xl := 2) (xc := xc1_1) (nn := 0) (i := 0) (g := MB) (n := 3) (c := 3) (by decide) HTA1.out.i1 (by decide) (cell_of HOA1.out.made rfl) HSA1.out (lt_of_get HOA1.out.made))
 unfold nodeV Nv.cells at HG1
 dsimp only at HG1
 go_wp2_with fail
 refine HG1.out.mono ?_
 rintro e WB1 ⟨vg1, rfl, hog, hbg⟩
 obtain ⟨ag1, cg1, rfl⟩ := hog.len
 rw [show ([(1, key, val)] : List Rc).length = 1 from rfl] at hog ⊢
 have HOB1 := Lib.hid (HOA1.out.below hbg)
 have HSB1 := Lib.hid hog.sr
 have HQB1 := Lib.hid ((hbg.block Q1 (lt_of_get HQC1.out)).trans HQC1.out)
 have HGO1 := Lib.hid hog
 have HWB1 : Hid (Q1 < WB1.heap.size) := Lib.hid (by have := lt_of_get HQC1.out; have := hbg.size; omega)
 have HXB : Hid (Lies WB1 exp.Any (.slice xa1_1 2 xc1_1) [.mk 4 0 [], .mk 3 0 []]) := Lib.hid (HTA1.out.x1.under hbg)
 clear b0 b1 b2 b3 b4 b5 b6 hog hbg
 go_upto_region 11 with fail
 obtain ⟨w01, m1, n1, a1, c1, hid, hmb, hlt, hlb, -⟩ := HOB1.out.sums.ex
 have HI1 := Lib.hid hid; have HE1 := Lib.hid (And.intro hmb (And.intro hlt hlb))
 have HLK1 : Hid (∀ W n a c, IsId w01 W d m1 n a c (oneT t) → (Instr.lookup 61 (.map (some m1)) (.int .i64 1) false).run Tryz.prog W = .ok (.pointer (some ⟨t, 0, none⟩)) W) := Lib.hid (fun W n a c h => by have := h.map.look (k := 1) ⟨by decide, by decide⟩; simpa [ptrV, oneT] using this)
 have hxd : Below WB1.heap.size WB1 WB1.drew := ⟨rfl, rfl, rfl, Nat.le_refl _, fun _ _ => rfl⟩
 have HXD1 := Lib.hid hxd
 have HXS1 : Hid (MB < WB1.heap.size) := Lib.hid (lt_of_get HOB1.out.made)
 have HNE : Hid (∀ a n c, (Value.slice ag1 1 cg1) = .slice (some a) n c → ¬ Two t b a.block) := Lib.hid (fun a n c e => by
  rcases HGO1.out.2 with ⟨e1, _⟩ | ⟨g, cap, cur, e1, e2, _⟩
  · rw [e] at e1; cases e1
  · rw [e] at e1
    injection e1 with e3
    injection e3 with e3
    have h1 := HTW.out; have h2 := HWS1.out; have h3 := HMQ1.out
    rw [e3]
    rintro (e4 | e4)
    · have : g = t := e4; omega
    · have : g = b := e4; omega)
 have hdo := red_one (s := ⟨#[114]⟩) (ia := ia1_1) (il := 1) (ic := ic1_1) (xa := xa1_1) (xc := xc1_1) (nn := 0) (HXB.out.under hxd) (HOB1.out.sums.tab.below hxd) (HSB1.out.below hxd) HNE.out HK.out HX.out HFX.out HP.out
 have HDO1 : Hid (Calls Tryz.prog 20 #[.agg #[.string ⟨#[114]⟩, .int .u8 6, .slice ia1_1 1 ic1_1, .int .u8 7, .int .i64 0, .slice xa1_1 2 xc1_1, .int .i64 0], .pointer (some ⟨t, 0, none⟩), (.slice ag1 1 cg1)] WB1.drew fun e w' => ∃ v', e = .returned v' ∧ Own w' WB1.heap.size v' [(1, key, x)] ∧ IsTab w' t b L' ∧ tbl.Only (Two t b) WB1.drew w') := Lib.hid hdo
 clear hid hmb hlt hlb hxd hdo
 refine dsk.wp_region_peel2 (by kernel_rfl) (by simp only [List.dropLast_cons_cons, List.dropLast_singleton]; exact rfl) rfl (by kernel_rfl) ?_
 refine wpAny_of_held (S := fun w' => w'.rangeAt Q1 0 [.string ⟨#[114]⟩, .int .u8 6, .slice ia1_1 1 ic1_1, .int .u8 7, .int .i64 0, .slice xa1_1 2 xc1_1, .int .i64 0] ∧ w'.cell? ⟨d, 1, none⟩ = some (.map (some m1)) ∧ (Instr.lookup 61 (.map (some m1)) (.int .i64 1) false).run Tryz.prog w' = .ok (.pointer (some ⟨t, 0, none⟩)) w') _ _ _ _ ?_
 have hHeld := (show WB1.drew.rangeAt Q1 0 [.string ⟨#[114]⟩, .int .u8 6, .slice ia1_1 1 ic1_1, .int .u8 7, .int .i64 0, .slice xa1_1 2 xc1_1, .int .i64 0] ∧ WB1.drew.cell? ⟨d, 1, none⟩ = some (.map (some m1)) ∧ (Instr.lookup 61 (.map (some m1)) (.int .i64 1) false).run Tryz.prog WB1.drew = .ok (.pointer (some ⟨t, 0, none⟩)) WB1.drew from ⟨range_new HQB1.out, (HI1.out.below HXD1.out).cells.2, HLK1.out _ _ _ _ (HI1.out.below HXD1.out)⟩)
 refine wpAnyH_take (i := 0) (v := ?v11) rfl (by kernel_rfl) (by kernel_rfl) (by kernel_rfl) (fun _ _ _ h => h) (Or.inl ⟨by rfl, ?hy11⟩) (by assumption) ?rest11
 case hy11 => (intro w0 hSw; (try dsimp only at hSw); go_simp; try with_reducible rfl)
 try simp only [Act.put, List.getElem_toArray, List.getElem_cons_zero, List.getElem_cons_succ, List.setIfInBounds_toArray, List.set_cons_zero, List.set_cons_succ]
 refine wpAnyH_take (i := 1) (v := ?v12) rfl (by kernel_rfl) (by kernel_rfl) (by kernel_rfl) (fun _ _ _ h => h) (Or.inl ⟨by rfl, ?hy12⟩) (by assumption) ?rest12
 case hy12 => (intro w0 hSw; (try dsimp only at hSw); go_simp; try with_reducible rfl)
 try simp only [Act.put, List.getElem_toArray, List.getElem_cons_zero, List.getElem_cons_succ, List.setIfInBounds_toArray, List.set_cons_zero, List.set_cons_succ]
 refine wpAnyH_take (i := 2) (v := .agg ([.string ⟨#[114]⟩, .int .u8 6, .slice ia1_1 1 ic1_1, .int .u8 7, .int .i64 0, .slice xa1_1 2 xc1_1, .int .i64 0] : List Value).toArray) rfl (by kernel_rfl) (by kernel_rfl) (by kernel_rfl) (fun _ _ _ h => h) (yieldsIf_load_mid (by rfl) 48 (.tmp 10) rfl Q1 (0) rfl [.string ⟨#[114]⟩, .int .u8 6, .slice ia1_1 1 ic1_1, .int .u8 7, .int .i64 0, .slice xa1_1 2 xc1_1, .int .i64 0] _ (fun w0 hw0 => hw0.1) Tryz.underlying48 rfl (by kernel_rfl)) (by assumption) ?_
 try simp only [Act.put, List.getElem_toArray, List.getElem_cons_zero, List.getElem_cons_succ, List.setIfInBounds_toArray, List.set_cons_zero, List.set_cons_succ]
 refine wpAnyH_take (i := 3) (v := ?v13) rfl (by kernel_rfl) (by kernel_rfl) (by kernel_rfl) (fun _ _ _ h => h) (Or.inl ⟨by rfl, ?hy13⟩) (by assumption) ?rest13
 case hy13 => (intro w0 hSw; (try dsimp only at hSw); go_simp; try with_reducible rfl)
 try simp only [Act.put, List.getElem_toArray, List.getElem_cons_zero, List.getElem_cons_succ, List.setIfInBounds_toArray, List.set_cons_zero, List.set_cons_succ]
 refine wpAnyH_take (i := 4) (v := ?v14) rfl (by kernel_rfl) (by kernel_rfl) (by kernel_rfl) (fun _ _ _ h => h) (Or.inl ⟨by rfl, ?hy14⟩) (by assumption) ?rest14
 case hy14 => (intro w0 hSw; (try dsimp only at hSw); go_simp; try with_reducible rfl)
 try simp only [Act.put, List.getElem_toArray, List.getElem_cons_zero, List.getElem_cons_succ, List.setIfInBounds_toArray, List.set_cons_zero, List.set_cons_succ]
 refine wpAnyH_take (i := 5) (v := ?v15) rfl (by kernel_rfl) (by kernel_rfl) (by kernel_rfl) (fun _ _ _ h => h) (Or.inl ⟨by rfl, ?hy15⟩) (by assumption) ?rest15
 case hy15 => (intro w0 hSw; (try dsimp only at hSw); go_simp; try with_reducible rfl)
 try simp only [Act.put, List.getElem_toArray, List.getElem_cons_zero, List.getElem_cons_succ, List.setIfInBounds_toArray, List.set_cons_zero, List.set_cons_succ]
 refine wpAnyH_take (i := 6) (v := ?v16) rfl (by kernel_rfl) (by kernel_rfl) (by kernel_rfl) (fun _ _ _ h => h) (Or.inl ⟨by rfl, ?hy16⟩) (by assumption) ?rest16
 case hy16 => (intro w0 hSw; (try dsimp only at hSw); go_simp; try with_reducible rfl)
 try simp only [Act.put, List.getElem_toArray, List.getElem_cons_zero, List.getElem_cons_succ, List.setIfInBounds_toArray, List.set_cons_zero, List.set_cons_succ]
 refine wpAnyH_take (i := 7) (v := ?v17) rfl (by kernel_rfl) (by kernel_rfl) (by kernel_rfl) (fun _ _ _ h => h) (Or.inl ⟨by rfl, ?hy17⟩) (by assumption) ?rest17
 case hy17 => (intro w0 hSw; (try dsimp only at hSw); go_simp; try with_reducible rfl)
 try simp only [Act.put, List.getElem_toArray, List.getElem_cons_zero, List.getElem_cons_succ, List.setIfInBounds_toArray, List.set_cons_zero, List.set_cons_succ]
 refine wpAnyH_take (i := 8) (v := ?v18) rfl (by kernel_rfl) (by kernel_rfl) (by kernel_rfl) (fun _ _ _ h => h) (Or.inl ⟨by rfl, ?hy18⟩) (by assumption) ?rest18
 case hy18 => (intro w0 hSw; (try dsimp only at hSw); obtain ⟨-, -, hq⟩ := hSw; go_simp; try with_reducible rfl)
 try simp only [Act.put, List.getElem_toArray, List.getElem_cons_zero, List.getElem_cons_succ, List.setIfInBounds_toArray, List.set_cons_zero, List.set_cons_succ]
 refine wpAnyH_take (i := 9) (v := ?v19) rfl (by kernel_rfl) (by kernel_rfl) (by kernel_rfl) (fun _ _ _ h => h) (Or.inl ⟨by rfl, ?hy19⟩) (by assumption) ?rest19
 case hy19 => (intro w0 hSw; (try dsimp only at hSw); go_simp; try with_reducible rfl)
 try simp only [Act.put, List.getElem_toArray, List.getElem_cons_zero, List.getElem_cons_succ, List.setIfInBounds_toArray, List.set_cons_zero, List.set_cons_succ]
 refine wpAnyH_ready (rs := [10]) (by kernel_rfl) (by simp) ?_
 refine AllReadyH.cons rfl (fun KQ hKQ => ?_) AllReadyH.nil
 go_simp
 refine HDO1.out.mono ?_
 rintro e WC1 ⟨vd1, rfl, hod, htb, hon⟩
 obtain ⟨ad1, cd1, rfl⟩ := hod.len
 rw [show ([(1, key, x)] : List Rc).length = 1 from rfl] at hod ⊢
 have hon2 : tbl.Only (Two t b) WB1 WC1 := ⟨hon.os, hon.tape, hon.output, hon.size, hon.block⟩
 have HOC1 := Lib.hid (HOB1.out.turn htb hon2 ⟨HTW.out.1, HTW.out.2.1⟩)
 have HIC1 := Lib.hid (HI1.out.only HOB1.out.sums.tab HE1.out.1 HE1.out.2 hon2)
 have HQC1b := Lib.hid ((hon2.block Q1 (lt_of_get HQB1.out) (fun e => by have h1 := HTW.out; have h2 := HMQ1.out; rcases e with e | e <;> omega)).trans HQB1.out)
 have HOD1 := Lib.hid hod
 clear hod htb hon hon2
 refine hKQ.out _ _ ?_ (fun hHeld => ?_)
 · exact ⟨range_new HQC1b.out, HIC1.out.cells.2, HLK1.out _ _ _ _ HIC1.out⟩
 clear hKQ KQ
 try simp only [Act.put, List.getElem_toArray, List.getElem_cons_zero, List.getElem_cons_succ, List.setIfInBounds_toArray, List.set_cons_zero, List.set_cons_succ]
 refine wpAnyH_take (i := 11) (v := ?v20) rfl (by kernel_rfl) (by kernel_rfl) (by kernel_rfl) (fun _ _ _ h => h) (Or.inl ⟨by rfl, ?hy20⟩) (by assumption) ?rest20
 case hy20 => (intro w0 hSw; (try dsimp only at hSw); go_simp; try with_reducible rfl)
 try simp only [Act.put, List.getElem_toArray, List.getElem_cons_zero, List.getElem_cons_succ, List.setIfInBounds_toArray, List.set_cons_zero, List.set_cons_succ]
 refine wpAnyH_done (by kernel_rfl) ?_ _
 change wpList _ _ _ _ _ _
 clear hHeld
 have hmade := HOC1.out.made
 have fz : WC1.frozen? ⟨MB, 1, none⟩ = false := by simp [World.frozen?, hmade]
 have cz : WC1.cell? ⟨MB, 1, none⟩ = some (.slice none 0 0) := cell_of hmade rfl
 obtain ⟨WD1, hWD⟩ : ∃ W, WC1.setCell ⟨MB, 1, none⟩ (.slice ad1 1 cd1) = W := ⟨_, rfl⟩
 have HWD1 := Lib.hid hWD
 have HO2 : Hid (OnF w B d t b MB L' _ WD1) := Lib.hid (by rw [← hWD]; exact HOC1.out.put HTW.out.2.2 (by rw [HMM.out]; exact Nat.le_refl _))
 have HSO2 : Hid (Own WD1 WB1.heap.size (.slice ad1 1 cd1) [(1, key, x)]) := Lib.hid (by rw [← hWD]; exact own_put HOD1.out HXS1.out)
 have HS2 := Lib.hid HSO2.out.sr
 clear hWD hmade
 go_upto_region 12 with fail
 rw [HWD1.out]
 clear fz cz
 go_wp2_with fail
 rw [rounds_succ]
 obtain ⟨av2, cv2, mx2, d0, d1, hnv, -⟩ := HO2.out.held
 obtain ⟨bv2, ia0_2, ia1_2, ia2_2, xa0_2, xa1_2, xa2_2, ic0_2, ic1_2, ic2_2, xc0_2, xc1_2, xc2_2, rfl, h3⟩ := three_of hnv
 obtain ⟨p0, p1, p2, p3, p4, p5, p6⟩ := h3.n2
 obtain ⟨WA2, hWA⟩ : ∃ WA, WD1.alloc (.cells #[.string ⟨#[116]⟩, .int .u8 9, .slice ia2_2 1 ic2_2, .int .u8 0, .int .i64 0, .slice xa2_2 0 xc2_2, .int .i64 0] 48) = WA := ⟨_, rfl⟩
 have hba : Below WD1.heap.size WD1 WA2 := by rw [← hWA]; exact below_made _ _
 obtain ⟨Q2, hQ⟩ : ∃ Q, WD1.heap.size = Q := ⟨_, rfl⟩
 have HQC2 : Hid (WA2.heap[Q2]? = some (.cells #[.string ⟨#[116]⟩, .int .u8 9, .slice ia2_2 1 ic2_2, .int .u8 0, .int .i64 0, .slice xa2_2 0 xc2_2, .int .i64 0] 48 (0, 0))) := Lib.hid (by rw [← hWA]; exact heap_last hQ.symm)
 have HOA2 := Lib.hid (HO2.out.below hba)
 have HSA2 := Lib.hid (HS2.out.below hba)
 have HTA2 := Lib.hid (h3.on hba)
 have HWS2 : Hid (WA2.heap.size = Q2 + 1) := Lib.hid (by rw [← hWA, ← hQ]; simp)
 have HMQ2 : Hid (MB < Q2) := Lib.hid (by rw [← hQ]; exact lt_of_get HO2.out.made)
 have HWA2 := Lib.hid hWA; have HQ2 := Lib.hid hQ
 clear hWA hba hQ h3 hnv
 go_upto_region 10 with fail
 rw [HQ2.out, HWA2.out]
 clear p0 p1 p2 p3 p4 p5 p6 d0 d1
 have b0 : WA2.cell? ⟨Q2, 0, none⟩ = some (.string ⟨#[116]⟩) := cell_of HQC2.out rfl
 have b1 : WA2.cell? ⟨Q2, 1, none⟩ = some (.int .u8 9) := cell_of HQC2.out rfl
 have b2 : WA2.cell? ⟨Q2, 2, none⟩ = some (.slice ia2_2 1 ic2_2) := cell_of HQC2.out rfl
 have b3 : WA2.cell? ⟨Q2, 3, none⟩ = some (.int .u8 0) := cell_of HQC2.out rfl
 have b4 : WA2.cell? ⟨Q2, 4, none⟩ = some (.int .i64 0) := cell_of HQC2.out rfl
 have b5 : WA2.cell? ⟨Q2, 5, none⟩ = some (.slice xa2_2 0 xc2_2) := cell_of HQC2.out rfl
 have b6 : WA2.cell? ⟨Q2, 6, none⟩ = some (.int .i64 0) := cell_of HQC2.out rfl
 have HG2 := Lib.hid (gets_one (s := ⟨#[116]⟩) (kd := 9) (by decide) (ia := ia2_2) (ic := ic2_2) (op := 0) (xn := 0) (xa := xa2_2) (xl := 0) (xc := xc2_2) (nn := 0) (i := 1) (g := MB) (n := 3) (c := 3) (by decide) HTA2.out.i2 (by decide) (cell_of HOA2.out.made rfl) HSA2.out (lt_of_get HOA2.out.made))
 unfold nodeV Nv.cells at HG2
 dsimp only at HG2
 go_wp2_with fail
 refine HG2.out.mono ?_
 rintro e WB2 ⟨vg2, rfl, hog, hbg⟩
 obtain ⟨ag2, cg2, rfl⟩ := hog.len
 rw [show ([(1, key, x)] : List Rc).length = 1 from rfl] at hog ⊢
 have HOB2 := Lib.hid (HOA2.out.below hbg)
 have HSB2 := Lib.hid hog.sr
 have HQB2 := Lib.hid ((hbg.block Q2 (lt_of_get HQC2.out)).trans HQC2.out)
 have HGO2 := Lib.hid hog
 have HWB2 : Hid (Q2 < WB2.heap.size) := Lib.hid (by have := lt_of_get HQC2.out; have := hbg.size; omega)
 clear b0 b1 b2 b3 b4 b5 b6 hog hbg
 go_upto_region 11 with fail
 obtain ⟨w02, m2, n2, a2, c2, hid, hmb, hlt, hlb, -⟩ := HOB2.out.sums.ex
 have HI2 := Lib.hid hid; have HE2 := Lib.hid (And.intro hmb (And.intro hlt hlb))
 have HLK2 : Hid (∀ W n a c, IsId w02 W d m2 n a c (oneT t) → (Instr.lookup 61 (.map (some m2)) (.int .i64 2) false).run Tryz.prog W = .ok (.pointer none) W) := Lib.hid (fun W n a c h => by have := h.map.look (k := 2) ⟨by decide, by decide⟩; simpa [ptrV, oneT] using this)
 have hxd : Below WB2.heap.size WB2 WB2.drew := ⟨rfl, rfl, rfl, Nat.le_refl _, fun _ _ => rfl⟩
 have HXD2 := Lib.hid hxd
 have HXS2 : Hid (MB < WB2.heap.size) := Lib.hid (lt_of_get HOB2.out.made)
 have hdo := pass_do (s := ⟨#[116]⟩) (kd := 9) (.inr rfl) (ia := ia2_2) (il := 1) (ic := ic2_2) (op := 0) (xn := 0) (xa := xa2_2) (xl := 0) (xc := xc2_2) (nn := 0) (tv := none) (HSB2.out.below hxd)
 have HDO2 : Hid (Calls Tryz.prog 20 #[.agg #[.string ⟨#[116]⟩, .int .u8 9, .slice ia2_2 1 ic2_2, .int .u8 0, .int .i64 0, .slice xa2_2 0 xc2_2, .int .i64 0], .pointer none, (.slice ag2 1 cg2)] WB2.drew fun e w' => ∃ v', e = .returned v' ∧ Own w' WB2.heap.size v' [(1, key, x)] ∧ Below WB2.heap.size WB2.drew w') := Lib.hid hdo
 clear hid hmb hlt hlb hxd hdo
 refine dsk.wp_region_peel2 (by kernel_rfl) (by simp only [List.dropLast_cons_cons, List.dropLast_singleton]; exact rfl) rfl (by kernel_rfl) ?_
 refine wpAny_of_held (S := fun w' => w'.rangeAt Q2 0 [.string ⟨#[116]⟩, .int .u8 9, .slice ia2_2 1 ic2_2, .int .u8 0, .int .i64 0, .slice xa2_2 0 xc2_2, .int .i64 0] ∧ w'.cell? ⟨d, 1, none⟩ = some (.map (some m2)) ∧ (Instr.lookup 61 (.map (some m2)) (.int .i64 2) false).run Tryz.prog w' = .ok (.pointer none) w') _ _ _ _ ?_
 have hHeld := (show WB2.drew.rangeAt Q2 0 [.string ⟨#[116]⟩, .int .u8 9, .slice ia2_2 1 ic2_2, .int .u8 0, .int .i64 0, .slice xa2_2 0 xc2_2, .int .i64 0] ∧ WB2.drew.cell? ⟨d, 1, none⟩ = some (.map (some m2)) ∧ (Instr.lookup 61 (.map (some m2)) (.int .i64 2) false).run Tryz.prog WB2.drew = .ok (.pointer none) WB2.drew from ⟨range_new HQB2.out, (HI2.out.below HXD2.out).cells.2, HLK2.out _ _ _ _ (HI2.out.below HXD2.out)⟩)
 refine wpAnyH_take (i := 0) (v := ?v21) rfl (by kernel_rfl) (by kernel_rfl) (by kernel_rfl) (fun _ _ _ h => h) (Or.inl ⟨by rfl, ?hy21⟩) (by assumption) ?rest21
 case hy21 => (intro w0 hSw; (try dsimp only at hSw); go_simp; try with_reducible rfl)
 try simp only [Act.put, List.getElem_toArray, List.getElem_cons_zero, List.getElem_cons_succ, List.setIfInBounds_toArray, List.set_cons_zero, List.set_cons_succ]
 refine wpAnyH_take (i := 1) (v := ?v22) rfl (by kernel_rfl) (by kernel_rfl) (by kernel_rfl) (fun _ _ _ h => h) (Or.inl ⟨by rfl, ?hy22⟩) (by assumption) ?rest22
 case hy22 => (intro w0 hSw; (try dsimp only at hSw); go_simp; try with_reducible rfl)
 try simp only [Act.put, List.getElem_toArray, List.getElem_cons_zero, List.getElem_cons_succ, List.setIfInBounds_toArray, List.set_cons_zero, List.set_cons_succ]
 refine wpAnyH_take (i := 2) (v := .agg ([.string ⟨#[116]⟩, .int .u8 9, .slice ia2_2 1 ic2_2, .int .u8 0, .int .i64 0, .slice xa2_2 0 xc2_2, .int .i64 0] : List Value).toArray) rfl (by kernel_rfl) (by kernel_rfl) (by kernel_rfl) (fun _ _ _ h => h) (yieldsIf_load_mid (by rfl) 48 (.tmp 10) rfl Q2 (0) rfl [.string ⟨#[116]⟩, .int .u8 9, .slice ia2_2 1 ic2_2, .int .u8 0, .int .i64 0, .slice xa2_2 0 xc2_2, .int .i64 0] _ (fun w0 hw0 => hw0.1) Tryz.underlying48 rfl (by kernel_rfl)) (by assumption) ?_
 try simp only [Act.put, List.getElem_toArray, List.getElem_cons_zero, List.getElem_cons_succ, List.setIfInBounds_toArray, List.set_cons_zero, List.set_cons_succ]
 refine wpAnyH_take (i := 3) (v := ?v23) rfl (by kernel_rfl) (by kernel_rfl) (by kernel_rfl) (fun _ _ _ h => h) (Or.inl ⟨by rfl, ?hy23⟩) (by assumption) ?rest23
 case hy23 => (intro w0 hSw; (try dsimp only at hSw); go_simp; try with_reducible rfl)
 try simp only [Act.put, List.getElem_toArray, List.getElem_cons_zero, List.getElem_cons_succ, List.setIfInBounds_toArray, List.set_cons_zero, List.set_cons_succ]
 refine wpAnyH_take (i := 4) (v := ?v24) rfl (by kernel_rfl) (by kernel_rfl) (by kernel_rfl) (fun _ _ _ h => h) (Or.inl ⟨by rfl, ?hy24⟩) (by assumption) ?rest24
 case hy24 => (intro w0 hSw; (try dsimp only at hSw); go_simp; try with_reducible rfl)
 try simp only [Act.put, List.getElem_toArray, List.getElem_cons_zero, List.getElem_cons_succ, List.setIfInBounds_toArray, List.set_cons_zero, List.set_cons_succ]
 refine wpAnyH_take (i := 5) (v := ?v25) rfl (by kernel_rfl) (by kernel_rfl) (by kernel_rfl) (fun _ _ _ h => h) (Or.inl ⟨by rfl, ?hy25⟩) (by assumption) ?rest25
 case hy25 => (intro w0 hSw; (try dsimp only at hSw); go_simp; try with_reducible rfl)
 try simp only [Act.put, List.getElem_toArray, List.getElem_cons_zero, List.getElem_cons_succ, List.setIfInBounds_toArray, List.set_cons_zero, List.set_cons_succ]
 refine wpAnyH_take (i := 6) (v := ?v26) rfl (by kernel_rfl) (by kernel_rfl) (by kernel_rfl) (fun _ _ _ h => h) (Or.inl ⟨by rfl, ?hy26⟩) (by assumption) ?rest26
 case hy26 => (intro w0 hSw; (try dsimp only at hSw); go_simp; try with_reducible rfl)
 try simp only [Act.put, List.getElem_toArray, List.getElem_cons_zero, List.getElem_cons_succ, List.setIfInBounds_toArray, List.set_cons_zero, List.set_cons_succ]
 refine wpAnyH_take (i := 7) (v := ?v27) rfl (by kernel_rfl) (by kernel_rfl) (by kernel_rfl) (fun _ _ _ h => h) (Or.inl ⟨by rfl, ?hy27⟩) (by assumption) ?rest27
 case hy27 => (intro w0 hSw; (try dsimp only at hSw); go_simp; try with_reducible rfl)
 try simp only [Act.put, List.getElem_toArray, List.getElem_cons_zero, List.getElem_cons_succ, List.setIfInBounds_toArray, List.set_cons_zero, List.set_cons_succ]
 refine wpAnyH_take (i := 8) (v := ?v28) rfl (by kernel_rfl) (by kernel_rfl) (by kernel_rfl) (fun _ _ _ h => h) (Or.inl ⟨by rfl, ?hy28⟩) (by assumption) ?rest28
 case hy28 => (intro w0 hSw; (try dsimp only at hSw); obtain ⟨-, -, hq⟩ := hSw; go_simp; try with_reducible rfl)
 try simp only [Act.put, List.getElem_toArray, List.getElem_cons_zero, List.getElem_cons_succ, List.setIfInBounds_toArray, List.set_cons_zero, List.set_cons_succ]
 refine wpAnyH_take (i := 9) (v := ?v29) rfl (by kernel_rfl) (by kernel_rfl) (by kernel_rfl) (fun _ _ _ h => h) (Or.inl ⟨by rfl, ?hy29⟩) (by assumption) ?rest29
 case hy29 => (intro w0 hSw; (try dsimp only at hSw); go_simp; try with_reducible rfl)
 try simp only [Act.put, List.getElem_toArray, List.getElem_cons_zero, List.getElem_cons_succ, List.setIfInBounds_toArray, List.set_cons_zero, List.set_cons_succ]
 refine wpAnyH_ready (rs := [10]) (by kernel_rfl) (by simp) ?_
 refine AllReadyH.cons rfl (fun KQ hKQ => ?_) AllReadyH.nil
 go_simp
 refine HDO2.out.mono ?_
 rintro e WC2 ⟨vd2, rfl, hod, hbd⟩
 obtain ⟨ad2, cd2, rfl⟩ := hod.len
 rw [show ([(1, key, x)] : List Rc).length = 1 from rfl] at hod ⊢
 have hbd2 : Below WB2.heap.size WB2 WC2 := ⟨hbd.os, hbd.tape, hbd.output, hbd.size, hbd.block⟩
 have HOC2 := Lib.hid (HOB2.out.below hbd2)
 have HIC2 := Lib.hid (HI2.out.below hbd2)
 have HQC2b := Lib.hid ((hbd2.block Q2 (lt_of_get HQB2.out)).trans HQB2.out)
 have HOD2 := Lib.hid hod
 clear hod hbd hbd2
 refine hKQ.out _ _ ?_ (fun hHeld => ?_)
 · exact ⟨range_new HQC2b.out, HIC2.out.cells.2, HLK2.out _ _ _ _ HIC2.out⟩
 clear hKQ KQ
 try simp only [Act.put, List.getElem_toArray, List.getElem_cons_zero, List.getElem_cons_succ, List.setIfInBounds_toArray, List.set_cons_zero, List.set_cons_succ]
 refine wpAnyH_take (i := 11) (v := ?v30) rfl (by kernel_rfl) (by kernel_rfl) (by kernel_rfl) (fun _ _ _ h => h) (Or.inl ⟨by rfl, ?hy30⟩) (by assumption) ?rest30
 case hy30 => (intro w0 hSw; (try dsimp only at hSw); go_simp; try with_reducible rfl)
 try simp only [Act.put, List.getElem_toArray, List.getElem_cons_zero, List.getElem_cons_succ, List.setIfInBounds_toArray, List.set_cons_zero, List.set_cons_succ]
 refine wpAnyH_done (by kernel_rfl) ?_ _
 change wpList _ _ _ _ _ _
 clear hHeld
 have hmade := HOC2.out.made
 have fz : WC2.frozen? ⟨MB, 2, none⟩ = false := by simp [World.frozen?, hmade]
 have cz : WC2.cell? ⟨MB, 2, none⟩ = some (.slice none 0 0) := cell_of hmade rfl
 obtain ⟨WD2, hWD⟩ : ∃ W, WC2.setCell ⟨MB, 2, none⟩ (.slice ad2 1 cd2) = W := ⟨_, rfl⟩
 have HWD2 := Lib.hid hWD
 have HO3 : Hid (OnF w B d t b MB L' _ WD2) := Lib.hid (by rw [← hWD]; exact HOC2.out.put HTW.out.2.2 (by rw [HMM.out]; exact Nat.le_refl _))
 have HSO3 : Hid (Own WD2 WB2.heap.size (.slice ad2 1 cd2) [(1, key, x)]) := Lib.hid (by rw [← hWD]; exact own_put HOD2.out HXS2.out)
 have HS3 := Lib.hid HSO3.out.sr
 clear hWD hmade
 go_upto_region 12 with fail
 rw [HWD2.out]
 clear fz cz
 go_wp2_with fail
 rw [rounds_succ]
 have m2 : WD2.cell? ⟨MB, 2, none⟩ = some (.slice ad2 1 cd2) := cell_of HO3.out.made rfl
 have hbf : Below WD2.heap.size WD2 (WD2.alloc (.cells #[.slice ad2 1 cd2] 32)) := below_made _ _
 have hlr : Lr (WD2.alloc (.cells #[.slice ad2 1 cd2] 32)) (.slice (some ⟨WD2.heap.size, 0, none⟩) 1 1) [.slice ad2 1 cd2] [[(1, key, x)]] := lr_one (heap_last rfl) (HS3.out.below hbf) 1 (Nat.le_refl _)
 have hmg := merge_one hlr
 have HMG : Hid (Calls Tryz.prog 21 #[.slice (some ⟨WD2.heap.size, 0, none⟩) 1 1] (WD2.alloc (.cells #[.slice ad2 1 cd2] 32)) fun e w' => ∃ v', e = .returned v' ∧ Own w' (WD2.alloc (.cells #[.slice ad2 1 cd2] 32)).heap.size v' [(1, key, x)] ∧ Below (WD2.alloc (.cells #[.slice ad2 1 cd2] 32)).heap.size (WD2.alloc (.cells #[.slice ad2 1 cd2] 32)) w') := Lib.hid hmg
 have HOF := Lib.hid (HO3.out.below hbf)
 have HZF : Hid (w.heap.size ≤ (WD2.alloc (.cells #[.slice ad2 1 cd2] 32)).heap.size) := Lib.hid (HOF.out.only.size)
 clear hbf hlr hmg
 go_wp2_with fail
 refine HMG.out.mono ?_
 rintro e w9 ⟨v9, rfl, ho9, hb9⟩
 obtain ⟨a9, c9, rfl⟩ := ho9.len
 have HF : Hid (∃ v', Ending.returned (.slice a9 ([(1, key, x)] : List Rc).length c9) = .returned v' ∧ Own w9 w.heap.size v' [(1, key, x)] ∧ IsSums B w9 d t b L' ∧ tbl.Only (Two t b) w w9) := Lib.hid ⟨_, rfl, opr.Own.base ho9 HZF.out, (HOF.out.below hb9).sums, (HOF.out.below hb9).only⟩
 clear ho9 hb9 m2
 go_wp2_with fail
 go_ret
 exact HF.out
end Go.Proofs.YtepdecnegihhhaaGreatDoor.idl
