/- The statements' own check: numbers are put together by their key. -/
import Derived.Test.YtamdbfkofdjmlaaOpU
namespace Go.Proofs.Ytamdbfkofdjmlaa.opr
set_option linter.unusedSimpArgs false
set_option linter.unusedVariables false
open Go.RowKit
attribute [local go_sem ↓] Go.wp_at_zero Go.wp_at_succ
open Go.Proofs.Ytamdbfkofdjmlaa.tbl (Only lt_of_get IsTab Two putO TabO Rows2 mkC GetPost PutPost)
open Go.Proofs.Ytamdbfkofdjmlaa.grp (below_on' below_made fits)
open Go.Proofs.Ytamdbfkofdjmlaa.exp (Ex Lies En intO exV enV)
theorem reduces_any (t : Nat) (c : Value) (nb : Nat) (w : World) : Calls Try.prog 41 #[.pointer (some ⟨t, 0, none⟩), .func (.func 33) #[] #[.pointer (some ⟨nb, 0, none⟩)]] w fun e w' =>
    ∃ b1 b2, e = .returned (.func (.func 59) #[] #[.pointer (some ⟨b1, 0, none⟩), .pointer (some ⟨b2, 0, none⟩)]) ∧ One w' b1 33 (.pointer (some ⟨t, 0, none⟩)) ∧
      One w' b2 80 (.func (.func 33) #[] #[.pointer (some ⟨nb, 0, none⟩)]) ∧ Below w.heap.size w w' := by
  have hb1 := below_made w (.cells #[.pointer (some ⟨t, 0, none⟩)] 33)
  have hb2 := below_made (w.alloc (.cells #[.pointer (some ⟨t, 0, none⟩)] 33)) (.cells #[.func (.func 33) #[] #[.pointer (some ⟨nb, 0, none⟩)]] 80)
  have ho1 := (One.new w 33 (.pointer (some ⟨t, 0, none⟩))).below hb2
  have ho2 := One.new (w.alloc (.cells #[.pointer (some ⟨t, 0, none⟩)] 33)) 80 (.func (.func 33) #[] #[.pointer (some ⟨nb, 0, none⟩)])
  rw [World.size_alloc] at ho2
  have HF := Lib.hid (And.intro ho1 (And.intro ho2 (below_on' hb1 hb2)))
  clear hb1 hb2 ho1 ho2
  go_enter Try.func41, Try.ntmps41
  go_wp2
  go_ret
  exact ⟨_, _, rfl, HF.out⟩
theorem picked_red (s : ByteArray) (ia : Option Addr) (il ic op : Nat) (xn : Int) (xa : Option Addr) (xl xc : Nat) (nn : Int) {args : List Ex} {B : Nat → Prop} {t b : Nat} {L : tbl.Rows} {w : World} (hl : Lies w B (.slice xa xl xc) args) (ht : IsTab w t b L) :
    Calls Try.prog 21 #[nodeV ⟨s, 6, ia, il, ic, op, xn, xa, xl, xc, nn⟩, .pointer (some ⟨t, 0, none⟩)] w fun e w' => ∃ bd, e = .returned (.func (.func 59) #[] bd) ∧ RedI ⟨s, 6, ia, il, ic, op, xn, xa, xl, xc, nn⟩ args B t b bd L w' ∧ Below w.heap.size w w' := by
  have hn := NBox.new w ⟨s, 6, ia, il, ic, op, xn, xa, xl, xc, nn⟩
  have hb1 := below_made w (.cells (Nv.cells ⟨s, 6, ia, il, ic, op, xn, xa, xl, xc, nn⟩) 29)
  have hb2 := below_made (w.alloc (.cells (Nv.cells ⟨s, 6, ia, il, ic, op, xn, xa, xl, xc, nn⟩) 29)) (.cells #[.func (.func 33) #[] #[.pointer (some ⟨w.heap.size, 0, none⟩)]] 80)
  have hn2 := hn.below hb2
  have hc := (One.new (w.alloc (.cells (Nv.cells ⟨s, 6, ia, il, ic, op, xn, xa, xl, xc, nn⟩) 29)) 80 (.func (.func 33) #[] #[.pointer (some ⟨w.heap.size, 0, none⟩)])).cell
  rw [World.size_alloc] at hc
  obtain ⟨c0, c1, c2, c3, c4, c5, c6⟩ := hn.facts
  obtain ⟨d0, d1, d2, d3, d4, d5, d6⟩ := hn2.facts
  have hbw := below_on' hb1 hb2
  have HF := Lib.hid (fun (b1 b2 : Nat) (w' : World) (h1 : One w' b1 33 (.pointer (some ⟨t, 0, none⟩))) (h2 : One w' b2 80 (.func (.func 33) #[] #[.pointer (some ⟨w.heap.size, 0, none⟩)])) (hb : Below _ _ w') =>
    (show RedI ⟨s, 6, ia, il, ic, op, xn, xa, xl, xc, nn⟩ args B t b #[.pointer (some ⟨b1, 0, none⟩), .pointer (some ⟨b2, 0, none⟩)] L w' ∧ Below w.heap.size w w' from
      ⟨⟨(ht.below hbw).below hb, b1, b2, w.heap.size, rfl, h1, h2, hn2.below hb, (hl.under hbw).under hb⟩, below_on' hbw hb⟩))
  have HR := Lib.hid (fun W => reduces_any t (.pointer none) w.heap.size W)
  unfold nodeV
  unfold Nv.cells at c0 c1 c2 c3 c4 c5 c6 d0 d1 d2 d3 d4 d5 d6 hc HF ⊢
  dsimp only at c0 c1 c2 c3 c4 c5 c6 d0 d1 d2 d3 d4 d5 d6 hc HF ⊢
  clear hn hn2 hb1 hb2 hbw hl ht
  go_enter Try.func21, Try.ntmps21
  go_wp2_with fail
  refine (HR.out _).mono ?_
  rintro e w1 ⟨b1, b2, rfl, h1, h2, hb⟩
  have HF2 := Lib.hid (HF.out b1 b2 w1 h1 h2 hb)
  clear h1 h2 hb
  go_wp2
  go_ret
  exact ⟨_, rfl, HF2.out⟩
/-- A row that was written out. -/
theorem sr_made (w : World) (l : List Rc) (h0 : 0 < l.length) (hl : l.length ≤ 1000) (cs : Array Value) (hc : cs = (cellsR l).toArray) : Sr (w.alloc (.cells cs 32)) (.slice (some ⟨w.heap.size, 0, none⟩) l.length l.length) l := by
  subst hc
  refine ⟨_, _, rfl, (fun e => by cases e), Nat.le_refl _, by unfold maxLen; omega, fun _ => ⟨w.heap.size, 0, rfl, by simp, fun j u hu => ?_⟩⟩
  rw [cell_of_row _ _ _ _ _ _ (Go.heap_alloc_new w _), Nat.zero_add]
  simpa using hu
end Go.Proofs.Ytamdbfkofdjmlaa.opr
