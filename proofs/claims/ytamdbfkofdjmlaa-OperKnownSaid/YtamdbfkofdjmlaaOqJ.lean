/- A node that flattens; a node with a window; the document's examples. -/
import Derived.Test.YtamdbfkofdjmlaaOqI
import Derived.Test.YtamdbfkofdjmlaaOpZ
namespace Go.Proofs.Ytamdbfkofdjmlaa.opr
set_option linter.unusedSimpArgs false
set_option linter.unusedVariables false
open Go.RowKit
attribute [local go_sem ↓] Go.wp_at_zero Go.wp_at_succ
open Go.Proofs.Ytamdbfkofdjmlaa.tbl (Only lt_of_get IsTab Two putO delL)
open Go.Proofs.Ytamdbfkofdjmlaa.grp (below_on' below_made fits)
open Go.Proofs.Ytamdbfkofdjmlaa.exp (Ex Lies En intO exV enV)
theorem gathers_any (t m : Nat) (w : World) : Calls Try.prog 42 #[.pointer (some ⟨t, 0, none⟩), .int .i64 m] w fun e w' =>
    ∃ b1 b2, e = .returned (.func (.func 61) #[] #[.pointer (some ⟨b1, 0, none⟩), .pointer (some ⟨b2, 0, none⟩)]) ∧ One w' b1 33 (.pointer (some ⟨t, 0, none⟩)) ∧ One w' b2 3 (.int .i64 (m : Int)) ∧ Below w.heap.size w w' := by
  have hb1 := below_made w (.cells #[.pointer (some ⟨t, 0, none⟩)] 33)
  have hb2 := below_made (w.alloc (.cells #[.pointer (some ⟨t, 0, none⟩)] 33)) (.cells #[.int .i64 (m : Int)] 3)
  have ho1 := (One.new w 33 (.pointer (some ⟨t, 0, none⟩))).below hb2
  have ho2 := One.new (w.alloc (.cells #[.pointer (some ⟨t, 0, none⟩)] 33)) 3 (.int .i64 (m : Int))
  rw [World.size_alloc] at ho2
  have HF := Lib.hid (And.intro ho1 (And.intro ho2 (below_on' hb1 hb2)))
  clear hb1 hb2 ho1 ho2
  go_enter Try.func42, Try.ntmps42
  go_wp2
  go_ret
  exact ⟨_, _, rfl, HF.out⟩
theorem picked_win (s : ByteArray) (ia : Option Addr) (il ic op : Nat) (xn : Int) (xa : Option Addr) (xl xc : Nat) (m : Nat) {t b : Nat} {L : tbl.Rows} {w : World} (ht : IsTab w t b L) :
    Calls Try.prog 21 #[nodeV ⟨s, 7, ia, il, ic, op, xn, xa, xl, xc, m⟩, .pointer (some ⟨t, 0, none⟩)] w fun e w' => ∃ bd, e = .returned (.func (.func 61) #[] bd) ∧ GatI t b m bd L w' ∧ Below w.heap.size w w' := by
  have hn := NBox.new w ⟨s, 7, ia, il, ic, op, xn, xa, xl, xc, (m : Int)⟩
  have hb1 := below_made w (.cells (Nv.cells ⟨s, 7, ia, il, ic, op, xn, xa, xl, xc, (m : Int)⟩) 29)
  have hb2 := below_made (w.alloc (.cells (Nv.cells ⟨s, 7, ia, il, ic, op, xn, xa, xl, xc, (m : Int)⟩) 29)) (.cells #[.func (.func 33) #[] #[.pointer (some ⟨w.heap.size, 0, none⟩)]] 80)
  have hn2 := hn.below hb2
  obtain ⟨c0, c1, c2, c3, c4, c5, c6⟩ := hn.facts
  obtain ⟨d0, d1, d2, d3, d4, d5, d6⟩ := hn2.facts
  have hbw := below_on' hb1 hb2
  have HF := Lib.hid (fun (b1 b2 : Nat) (w' : World) (h1 : One w' b1 33 (.pointer (some ⟨t, 0, none⟩))) (h2 : One w' b2 3 (.int .i64 (m : Int))) (hb : Below _ _ w') =>
    (show GatI t b m #[.pointer (some ⟨b1, 0, none⟩), .pointer (some ⟨b2, 0, none⟩)] L w' ∧ Below w.heap.size w w' from ⟨⟨(ht.below hbw).below hb, b1, b2, rfl, h1, h2⟩, below_on' hbw hb⟩))
  have HR := Lib.hid (fun W => gathers_any t m W)
  unfold nodeV
  unfold Nv.cells at c0 c1 c2 c3 c4 c5 c6 d0 d1 d2 d3 d4 d5 d6 HF ⊢
  dsimp only at c0 c1 c2 c3 c4 c5 c6 d0 d1 d2 d3 d4 d5 d6 HF ⊢
  clear hn hn2 hb1 hb2 hbw ht
  go_enter Try.func21, Try.ntmps21
  go_wp2_with fail
  refine (HR.out _).mono ?_
  rintro e w1 ⟨b1, b2, rfl, h1, h2, hb⟩
  have HF2 := Lib.hid (HF.out b1 b2 w1 h1 h2 hb)
  clear h1 h2 hb
  go_wp2
  go_ret
  exact ⟨_, rfl, HF2.out⟩
/-- What stands of a node that flattens. -/
def FlI (nv : Nv) (args : List Ex) (B : Nat → Prop) (bd : Array Value) (w : World) : Prop :=
  ∃ bx nb, bd = #[.pointer (some ⟨bx, 0, none⟩)] ∧ One w bx 80 (.func (.func 33) #[] #[.pointer (some ⟨nb, 0, none⟩)]) ∧ NBox w nb nv ∧ Lies w B (.slice nv.xa nv.xl nv.xc) args
theorem FlI.stay {nv : Nv} {args : List Ex} {B : Nat → Prop} {bd : Array Value} {w w' : World} (h : FlI nv args B bd w) (hs : Stay w w') : FlI nv args B bd w' := by
  obtain ⟨b2, nb, e, h2, h3, h4⟩ := h
  exact ⟨b2, nb, e, hs _ _ h2 (fun cur fr e => by cases e), hs _ _ h3 (fun cur fr e => by cases e), h4.frame (fun k c _ hk => (hs k _ hk (fun cur fr e => by cases e)).trans hk.symm)⟩
theorem picked_flat (s : ByteArray) (ia : Option Addr) (il ic op : Nat) (xn : Int) (xa : Option Addr) (xl xc : Nat) (nn : Int) (tv : Option Addr) {args : List Ex} {B : Nat → Prop} {w : World} (hl : Lies w B (.slice xa xl xc) args) :
    Calls Try.prog 21 #[nodeV ⟨s, 4, ia, il, ic, op, xn, xa, xl, xc, nn⟩, .pointer tv] w fun e w' => ∃ bd, e = .returned (.func (.func 40) #[] bd) ∧ FlI ⟨s, 4, ia, il, ic, op, xn, xa, xl, xc, nn⟩ args B bd w' ∧ Below w.heap.size w w' := by
  have hn := NBox.new w ⟨s, 4, ia, il, ic, op, xn, xa, xl, xc, nn⟩
  have hb1 := below_made w (.cells (Nv.cells ⟨s, 4, ia, il, ic, op, xn, xa, xl, xc, nn⟩) 29)
  have hb2 := below_made (w.alloc (.cells (Nv.cells ⟨s, 4, ia, il, ic, op, xn, xa, xl, xc, nn⟩) 29)) (.cells #[.func (.func 33) #[] #[.pointer (some ⟨w.heap.size, 0, none⟩)]] 80)
  have hn2 := hn.below hb2
  have ho := One.new (w.alloc (.cells (Nv.cells ⟨s, 4, ia, il, ic, op, xn, xa, xl, xc, nn⟩) 29)) 80 (.func (.func 33) #[] #[.pointer (some ⟨w.heap.size, 0, none⟩)])
  rw [World.size_alloc] at ho
  obtain ⟨c0, c1, c2, c3, c4, c5, c6⟩ := hn.facts
  obtain ⟨d0, d1, d2, d3, d4, d5, d6⟩ := hn2.facts
  have hbw := below_on' hb1 hb2
  have HF : Hid (∃ bd, Ending.returned (.func (.func 40) #[] #[.pointer (some ⟨w.heap.size + 1, 0, none⟩)]) = .returned (.func (.func 40) #[] bd) ∧ FlI ⟨s, 4, ia, il, ic, op, xn, xa, xl, xc, nn⟩ args B bd _ ∧ Below w.heap.size w _) :=
    Lib.hid ⟨_, rfl, ⟨w.heap.size + 1, w.heap.size, rfl, ho, hn2, hl.under hbw⟩, hbw⟩
  unfold nodeV
  unfold Nv.cells at c0 c1 c2 c3 c4 c5 c6 d0 d1 d2 d3 d4 d5 d6 HF ⊢
  dsimp only at c0 c1 c2 c3 c4 c5 c6 d0 d1 d2 d3 d4 d5 d6 HF ⊢
  clear hn hn2 hb1 hb2 hbw hl ho
  go_enter Try.func21, Try.ntmps21
  go_wp2
  go_ret
  exact HF.out
theorem app_rec {w : World} {B : Nat} {v : Value} {l : List Rc} (h : Own w B v l) (x : Rc) (hl : l.length ≤ 1000) (hB : B ≤ w.heap.size) :
    ∃ v' w', (∀ ty, (Builtin.append_ #[22, 22] ty #[v, .slice (some ⟨w.heap.size, 0, none⟩) 1 1]).run Try.prog (w.alloc (.cells #[.int .i64 x.1, .int .i64 x.2.1, .int .i64 x.2.2] 32)) = .ok v' w') ∧ Own w' B v' (l ++ [x]) ∧ Below B w w' := by
  have hbm := below_made w (.cells #[.int .i64 x.1, .int .i64 x.2.1, .int .i64 x.2.2] 32)
  obtain ⟨v', w', r1, o1, g1, b1⟩ := (h.below hbm).app (srR_new w x) (by simp only [List.length_cons, List.length_nil]; omega) (Nat.le_trans hB hbm.size) 0
  exact ⟨v', w', fun _ => r1, o1, (hbm.mono hB).grown g1 (Nat.le_trans hB hbm.size) b1⟩
set_option maxHeartbeats 6400000 in
set_option maxRecDepth 1000000 in
theorem flat_step {w : World} {nv : Nv} {args : List Ex} {B : Nat → Prop} {bd : Array Value} (h : FlI nv args B bd w) (hs : (Ex.mk nv.op nv.xn args).size ≤ 1000000) (hx : intO (Ex.mk nv.op nv.xn args) ⟨5, 2, 0⟩ = 2) :
    Calls Try.prog 40 (#[rcA (1, 5, 2)] ++ bd) w fun e w' => ∃ v', e = .returned v' ∧ Own w' w.heap.size v' [(8, 5, 2), (9, 5, 3)] ∧ FlI nv args B bd w' ∧ Below w.heap.size w w' := by
  have HFI := Lib.hid h
  obtain ⟨bx, nb, rfl, h2, h3, h4⟩ := id h
  have hb0 := below_made w (.cells #[.int .i64 1, .int .i64 5, .int .i64 2] 32)
  obtain ⟨q0, q1, q2⟩ := rec_box w (1, 5, 2)
  have z2 := (h2.below hb0).cell
  have HX := Lib.hid (x_any (h3.below hb0) (h4.under hb0) hs (1, 5, 2) 0)
  have HB0 := Lib.hid hb0
  have HREC := Lib.hid (fun W (hW : Below (w.alloc (.cells #[.int .i64 1, .int .i64 5, .int .i64 2] 32)).heap.size (w.alloc (.cells #[.int .i64 1, .int .i64 5, .int .i64 2] 32)) W) =>
    (show W.cell? ⟨w.heap.size, 0, none⟩ = some (.int .i64 1) ∧ W.cell? ⟨w.heap.size, 1, none⟩ = some (.int .i64 5) ∧ W.cell? ⟨w.heap.size, 2, none⟩ = some (.int .i64 2) from
      ⟨(hW.cell (p := ⟨w.heap.size, 0, none⟩) (by simp)).trans q0, (hW.cell (p := ⟨w.heap.size, 1, none⟩) (by simp)).trans q1, (hW.cell (p := ⟨w.heap.size, 2, none⟩) (by simp)).trans q2⟩))
  unfold rcA at HX ⊢
  dsimp only at HX q0 q1 q2 ⊢
  rw [hx] at HX
  clear h h2 h3 h4 hb0 hs hx
  go_enter Try.func40, Try.ntmps40
  go_wp2_with fail
  (with_reducible refine HX.out.mono ?_)
  rintro e w1 ⟨rfl, hb1⟩
  obtain ⟨p0, p1, p2⟩ := HREC.out w1 hb1
  have hbw1 := below_on' HB0.out hb1
  obtain ⟨v2, w2, r2, o2, b2⟩ := app_rec (Own.nil w1 w1.heap.size) (8, 5, 2) (by simp) (Nat.le_refl _)
  obtain ⟨v3, w3, r3, o3, b3⟩ := app_rec o2 (9, 5, 3) (by simp) b2.size
  obtain ⟨a3, c3, rfl⟩ := o3.len
  obtain ⟨a2, c2, rfl⟩ := o2.len
  obtain ⟨p3, p4, p5⟩ := HREC.out w2 (hb1.trans (b2.mono hb1.size))
  have hf3 : Below w.heap.size w w3 := (hbw1.trans (b2.mono hbw1.size)).trans (b3.mono hbw1.size)
  have HF := Lib.hid (show ∃ v', Ending.returned (.slice a3 ([] ++ [(8, 5, 2)] ++ [(9, 5, 3)] : List Rc).length c3) = .returned v' ∧ Own w3 w.heap.size v' [(8, 5, 2), (9, 5, 3)] ∧ FlI nv args B #[.pointer (some ⟨bx, 0, none⟩)] w3 ∧ Below w.heap.size w w3 from
    ⟨_, rfl, o3.base hbw1.size, HFI.out.stay (.of_below hf3), hf3⟩)
  have HR2 := Lib.hid r2
  have HR3 := Lib.hid r3
  dsimp only at HR2 HR3
  clear hb1 hbw1 r2 o2 b2 r3 o3 b3 hf3
  go_wp2
  refine wp_loop_rounds 3 ?_
  rw [rounds_succ]
  go_wp2_with (at_builtin; refine wpList_appR rfl (.tmp 13) (.tmp 26) 22 rfl rfl rfl (HR2.out _) ?_)
  rw [rounds_succ]
  go_wp2_with (at_builtin; refine wpList_appR rfl (.tmp 13) (.tmp 26) 22 rfl rfl rfl (HR3.out _) ?_)
  rw [rounds_succ]
  go_wp2
  go_ret
  exact HF.out
end Go.Proofs.Ytamdbfkofdjmlaa.opr
