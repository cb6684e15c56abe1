/- What frame.All hands back: it goes over the frames that a text begins with, in whatever loop. -/
import Derived.Test.YtbnnbaoimidfnaaFrC
import Derived.Test.YtbnnbaoimidfnaaFrQ
import Derived.Test.YtbnnbaoimidfnaaFrR
import Derived.Shelf.Abstract
import Derived.Shelf.RegionOpen
import Derived.OwnWalkIn
import Derived.TacticsInMore
import Derived.LoopNIn
import Derived.LoopIn
namespace Go.Proofs.Ytbnnbaoimidfnaa.frm
open Go.RowKit Go.Shelf byt
attribute [local go_sem] Oper.semAt_some

abbrev encs (x : Fr) : Array Value := #[.int .u8 x.1.1, .string x.1.2]
theorem grown_of_below {W W' : World} (hb : Below W.heap.size W W') : W.grownBy W' none := ⟨hb.os, hb.tape, hb.output, hb.size, fun k hk _ => hb.block k hk⟩
def strSize : Value → Nat
  | .string s => s.size
  | _ => 0

theorem all_in (s : ByteArray) (w : World) : Calls Try.prog 20 #[.string s] w fun e w' => e = .returned (.func (.func 29) #[] #[.pointer (some ⟨w.heap.size, 0, none⟩)]) ∧ w' = w.alloc (.cells #[.string s] 9) := by
  go_enter Try.func20, Try.ntmps20
  go_wp2
  go_ret
  exact ⟨rfl, rfl⟩

set_option maxRecDepth 1000000 in
set_option maxHeartbeats 2000000 in
theorem all1_in (n : Nat) (l Bn N : Nat) (s : ByteArray) (hs : s.size ≤ 9223372036854775807) (J Jx : List Fr → World → Prop) (W : World) (hJ : AbidesFrom W.heap.size J)
    (hY : ∀ pre x W1, J pre W1 → pre.length < N → YieldAt Fence.wide (n - 1) Try.prog l (encs x) W1 fun e W' =>
      (e = .returned (.bool true) ∧ J (pre ++ [x]) W' ∧ True) ∨ (e = .returned (.bool false) ∧ Jx (pre ++ [x]) W'))
    (hN : (all s).length ≤ N) (hBn : W.cell? ⟨Bn, 0, none⟩ = some (.string s)) (h0 : J [] W) :
    CallsIn Fence.wide n Try.prog 29 #[.func (.yield l) #[] #[], .pointer (some ⟨Bn, 0, none⟩)] W fun e W' => (∃ v, e = .returned v) ∧
      ((∃ ys, ys = all s ∧ J ys W') ∨ (∃ pre, pre <+: all s ∧ Jx pre W')) := by
  refine callsIn_of_wp Try.func29 rfl trivial ?_ rfl
  simp only [Try.ntmps29, List.size_toArray, List.length_cons, List.length_nil, Nat.reduceAdd, Nat.reduceSub, Array.replicate_succ, Array.replicate_zero, List.push_toArray, List.append_toArray, List.nil_append, List.cons_append]
  gi_wp2
  gi_loopw [3] (fun p wr => ∃ (pre : List Fr) (r : ByteArray), p = .string r ∧ all s = pre ++ all r ∧ r.size ≤ s.size ∧ J pre wr) (fun p _ => strSize p)
  case atStart => exact ⟨[], s, rfl, rfl, Nat.le_refl _, h0⟩
  case round =>
    obtain ⟨pre, r, rfl, hx, hr, hj⟩ := hrel
    have hr' : r.size ≤ 9223372036854775807 := by omega
    obtain ⟨k, p, m, c, ht⟩ : ∃ k p m c, takeF r = (k, p, m, c) := ⟨_, _, _, _, rfl⟩
    by_cases hc : c = 0
    · subst hc
      obtain ⟨hp, h1, h2, h3, h4⟩ := all_step ht
      have hlen : pre.length < N := by
        have := congrArg List.length hx
        rw [List.length_append, h1, List.length_cons] at this
        omega
      have hm1 : (m : Int) ≤ (r.size : Int) := by omega
      have HT := Lib.hid ht
      have HM := Lib.hid h4
      have HX := Lib.hid (show all s = (pre ++ [⟨(k, p), hp⟩]) ++ all (r.extract m r.size) by rw [hx, h1, List.append_assoc]; rfl)
      have HY := Lib.hid hY; have HJ := Lib.hid hJ; have HJ0 := Lib.hid hj
      have HZ := Lib.hid (rest_size r m)
      clear ht h1 hx hY hJ hj h4
      gi_wp2_with (refine ⟨trivial, fun e => (by cases e), ?_⟩; gi_at_call 30; ((with_reducible refine (callsIn_wide.2 (take_at HT.out _ hr')).mono ?_); rintro e w2 ⟨rfl, hb⟩; have HJ2 := Lib.hid (HJ.out pre wr w2 none HJ0.out (grown_of_below hb) (fun r e => by cases e)); obtain ⟨fn, tmps, assign, body, hy, hR⟩ := HY.out pre ⟨(k, p), hp⟩ w2 HJ2.out hlen; clear hb; dsimp only [encs] at hy))
      refine ⟨fun e => (by cases e), hR.mono ?_⟩
      clear hR hy
      rintro e W3 (⟨rfl, hJ3, -⟩ | ⟨rfl, hJx3⟩)
      · have HJ3 := Lib.hid hJ3; clear hJ3
        gi_wp2
        go_roundw
        case rel => exact ⟨_, _, rfl, HX.out, by rw [HZ.out]; omega, HJ3.out⟩
        case measure =>
          have e1 := HZ.out
          have e2 := HM.out
          show (r.extract m r.size).size < r.size
          omega
      · have HJ3 := Lib.hid hJx3; clear hJx3
        gi_wp2
        refine bodyPost_ret (results_none rfl _ _ _) rfl ?_
        exact ⟨⟨_, rfl⟩, .inr ⟨_, ⟨_, HX.out.symm⟩, HJ3.out⟩⟩
    · have hc' : (c == 0) = false := by simp [hc]
      have hc2 : (c != 0) = true := by simp [hc]
      have hx' : all s = pre := by rw [hx, all_end (by rw [ht]; exact hc), List.append_nil]
      have HT := Lib.hid ht
      have HX := Lib.hid hx'
      have HJ := Lib.hid hJ; have HJ0 := Lib.hid hj
      clear ht hx hY hJ hj hc hx'
      gi_wp2_with (refine ⟨trivial, fun e => (by cases e), ?_⟩; gi_at_call 30; ((with_reducible refine (callsIn_wide.2 (take_at HT.out _ hr')).mono ?_); rintro e w2 ⟨rfl, hb⟩; have HJ2 := Lib.hid (HJ.out pre wr w2 none HJ0.out (grown_of_below hb) (fun r e => by cases e)); clear hb))
      refine ⟨fun _ h => (by cases h), ?_⟩
      gi_wp2
      refine bodyPost_ret (results_none rfl _ _ _) rfl ?_
      exact ⟨⟨_, rfl⟩, .inl ⟨pre, HX.out.symm, HJ2.out⟩⟩
/-- frame.All hands back a value that goes over the frames, all of them, or up to where a round has said 'no more'. -/
theorem all_stops (n Bn : Nat) (s : ByteArray) (hs : s.size ≤ 9223372036854775807) (w : World) (hB : Bn < w.heap.size) (hc : w.cell? ⟨Bn, 0, none⟩ = some (.string s)) :
    SeqStopsK Fence.wide n Try.prog 29 #[.pointer (some ⟨Bn, 0, none⟩)] encs (fun _ _ => True) (fun ys => ys = all s) (fun pre => pre <+: all s) (all s).length w := fun l J Jx W hW hJ _ hY h0 =>
  all1_in n l Bn _ s hs J Jx W hJ hY (Nat.le_refl _) ((hW.cell (p := ⟨Bn, 0, none⟩) hB).trans hc) h0
end Go.Proofs.Ytbnnbaoimidfnaa.frm
