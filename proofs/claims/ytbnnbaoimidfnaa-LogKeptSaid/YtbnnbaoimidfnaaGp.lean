/- What frame.All hands back, once more: each frame that comes has a kind above 0, and the loop's body may know it. -/
import Derived.Test.YtbnnbaoimidfnaaFrG
import Derived.Test.YtbnnbaoimidfnaaP
namespace Go.Proofs.Ytbnnbaoimidfnaa.lg
set_option linter.unusedSimpArgs false
set_option linter.unusedVariables false
open Go.RowKit Go.Shelf byt frm
attribute [local go_sem] Oper.semAt_some

set_option maxRecDepth 1000000 in
set_option maxHeartbeats 2000000 in
theorem all1_pos (n : Nat) (l Bn N : Nat) (s : ByteArray) (hs : s.size ≤ 9223372036854775807) (J Jx : List Fr → World → Prop) (W : World) (hJ : AbidesFrom W.heap.size J)
    (hY : ∀ pre x W1, J pre W1 → pre.length < N → 0 < x.1.1 → YieldAt Fence.wide (n - 1) Try.prog l (encs x) W1 fun e W' =>
      (e = .returned (.bool true) ∧ J (pre ++ [x]) W' ∧ True) ∨ (e = .returned (.bool false) ∧ Jx (pre ++ [x]) W'))
    (hN : (all s).length ≤ N) (hBn : W.cell? ⟨Bn, 0, none⟩ = some (.string s)) (h0 : J [] W) :
    CallsIn Fence.wide n Try.prog 29 #[.func (.yield l) #[] #[], .pointer (some ⟨Bn, 0, none⟩)] W fun e W' => (∃ v, e = .returned v) ∧
      ((∃ ys, ys = all s ∧ J ys W') ∨ (∃ pre, pre <+: all s ∧ Jx pre W')) := by
  refine callsIn_of_wp Try.func29 rfl trivial ?_ rfl
  simp only [Try.ntmps29, List.size_toArray, List.length_cons, List.length_nil, Nat.reduceAdd, Nat.reduceSub, Array.replicate_succ, Array.replicate_zero, List.push_toArray, List.append_toArray, List.nil_append, List.cons_append]
  gi_wp2
  gi_loopw [3] (fun p wr => ∃ (pre : List Fr) (r : ByteArray), p = .string r ∧ all s = pre ++ all r ∧ r.size ≤ s.size ∧ J pre wr) (fun p _ => strSize p)
  case atStart => exact ⟨[], s, rfl, rfl, Nat.le_refl _, h0⟩
  case round =>
    obtain ⟨pre, r, rfl, hx, hr, hj⟩ := hrel
    have hr' : r.size ≤ 9223372036854775807 := by omega
    obtain ⟨k, p, m, c, ht⟩ : ∃ k p m c, takeF r = (k, p, m, c) := ⟨_, _, _, _, rfl⟩
    by_cases hc : c = 0
    · subst hc
      have hk0 : 0 < k := (take_put ht).1
      obtain ⟨hp, h1, h2, h3, h4⟩ := all_step ht
      have hlen : pre.length < N := by
        have := congrArg List.length hx
        rw [List.length_append, h1, List.length_cons] at this
        omega
      have hm1 : (m : Int) ≤ (r.size : Int) := by omega
      have HT := Lib.hid ht
      have HM := Lib.hid h4
      have HX := Lib.hid (show all s = (pre ++ [⟨(k, p), hp⟩]) ++ all (r.extract m r.size) by rw [hx, h1, List.append_assoc]; rfl)
      have HY := Lib.hid hY; have HJ := Lib.hid hJ; have HJ0 := Lib.hid hj
      have HZ := Lib.hid (rest_size r m)
      clear ht h1 hx hY hJ hj h4
      gi_wp2_with (refine ⟨trivial, fun e => (by cases e), ?_⟩; gi_at_call 30; ((with_reducible refine (callsIn_wide.2 (take_at HT.out _ hr')).mono ?_); rintro e w2 ⟨rfl, hb⟩; have HJ2 := Lib.hid (HJ.out pre wr w2 none HJ0.out (grown_of_below hb) (fun r e => by cases e)); obtain ⟨fn, tmps, assign, body, hy, hR⟩ := HY.out pre ⟨(k, p), hp⟩ w2 HJ2.out hlen hk0; clear hb; dsimp only [encs] at hy))
      refine ⟨fun e => (by cases e), hR.mono ?_⟩
      clear hR hy
      rintro e W3 (⟨rfl, hJ3, -⟩ | ⟨rfl, hJx3⟩)
      · have HJ3 := Lib.hid hJ3; clear hJ3
        gi_wp2
        go_roundw
        case rel => exact ⟨_, _, rfl, HX.out, by rw [HZ.out]; omega, HJ3.out⟩
        case measure =>
          have e1 := HZ.out
          have e2 := HM.out
          show (r.extract m r.size).size < r.size
          omega
      · have HJ3 := Lib.hid hJx3; clear hJx3
        gi_wp2
        refine bodyPost_ret (results_none rfl _ _ _) rfl ?_
        exact ⟨⟨_, rfl⟩, .inr ⟨_, ⟨_, HX.out.symm⟩, HJ3.out⟩⟩
    · have hc' : (c == 0) = false := by simp [hc]
      have hc2 : (c != 0) = true := by simp [hc]
      have hx' : all s = pre := by rw [hx, all_end (by rw [ht]; exact hc), List.append_nil]
      have HT := Lib.hid ht
      have HX := Lib.hid hx'
      have HJ := Lib.hid hJ; have HJ0 := Lib.hid hj
      clear ht hx hY hJ hj hc hx'
      gi_wp2_with (refine ⟨trivial, fun e => (by cases e), ?_⟩; gi_at_call 30; ((with_reducible refine (callsIn_wide.2 (take_at HT.out _ hr')).mono ?_); rintro e w2 ⟨rfl, hb⟩; have HJ2 := Lib.hid (HJ.out pre wr w2 none HJ0.out (grown_of_below hb) (fun r e => by cases e)); clear hb))
      refine ⟨fun _ h => (by cases h), ?_⟩
      gi_wp2
      refine bodyPost_ret (results_none rfl _ _ _) rfl ?_
      exact ⟨⟨_, rfl⟩, .inl ⟨pre, HX.out.symm, HJ2.out⟩⟩
/-- Frames with a kind above 0. -/
abbrev Fp := { x : Fr // 0 < x.1.1 }
abbrev encp (x : Fp) : Array Value := encs x.1
theorem all_pos (n Bn : Nat) (s : ByteArray) (hs : s.size ≤ 9223372036854775807) (w : World) (hB : Bn < w.heap.size) (hc : w.cell? ⟨Bn, 0, none⟩ = some (.string s)) :
    SeqStopsK Fence.wide n Try.prog 29 #[.pointer (some ⟨Bn, 0, none⟩)] encp (fun _ _ => True) (fun ys => ys.map (·.1) = all s) (fun _ => True) (all s).length w := fun l J Jx W hW hJ hJx hY h0 => by
  refine CallsIn.mono (all1_pos n l Bn (all s).length s hs (fun pre W => ∃ q : List Fp, q.map (·.1) = pre ∧ J q W) (fun pre W => ∃ q : List Fp, q.map (·.1) = pre ∧ Jx q W) W ?_ ?_ (Nat.le_refl _) ((hW.cell (p := ⟨Bn, 0, none⟩) hB).trans hc) ⟨[], rfl, h0⟩) ?_
  · rintro pre A B row ⟨q, hq, hj⟩ hg hr
    exact ⟨q, hq, hJ q A B row hj hg hr⟩
  · rintro pre x W1 ⟨q, rfl, hj⟩ hlen hk
    obtain ⟨fn, tmps, assign, body, hy, hR⟩ := hY q ⟨x, hk⟩ W1 hj (by rwa [List.length_map] at hlen)
    refine ⟨fn, tmps, assign, body, hy, hR.mono ?_⟩
    rintro e W' (⟨h1, h2, h3⟩ | ⟨h1, h2⟩)
    · exact .inl ⟨h1, ⟨_, by rw [List.map_append]; rfl, h2⟩, h3⟩
    · exact .inr ⟨h1, ⟨_, by rw [List.map_append]; rfl, h2⟩⟩
  · rintro e W' ⟨he, h⟩
    refine ⟨he, ?_⟩
    rcases h with ⟨ys, hys, q, hq, hj⟩ | ⟨pre, hp, q, hq, hj⟩
    · exact .inl ⟨q, hq.trans hys, hj⟩
    · exact .inr ⟨q, trivial, hj⟩
end Go.Proofs.Ytbnnbaoimidfnaa.lg
