/- What changelingref09.Of and changelingref12.typed answer. -/
import Derived.Test.YtnelfokfgnikfaaDoorMRa
import Derived.BigQuiet
import Derived.Deep.LoopGhost
namespace Go.Proofs.YtnelfokfgnikfaaDoor.rf
set_option linter.unusedSimpArgs false
set_option linter.unusedVariables false
open Go.RowKit nam exp jb

set_option maxHeartbeats 1600000 in
set_option maxRecDepth 1000000 in
theorem raccs_any : ∀ (s : Nat), s ≤ 1000000 → ∀ (x : Ex), x.size ≤ s → ∀ (va : Value) (w : World), Lies w Any va x.args →
    Calls Tryd.prog 95 #[exV x va] w fun e w' => e = .returned (.bool x.acc) ∧ Below w.heap.size w w' := by
  intro s
  induction s with
  | zero => intro _ x hx; have := size_pos x; omega
  | succ s ih =>
    intro hs x hx va w hla
    obtain ⟨aa, ca, rfl, hfx⟩ := hla.form
    obtain ⟨N, hN⟩ : ∃ N, w.heap.size = N := ⟨_, rfl⟩
    obtain ⟨W, hW⟩ : ∃ W, w.alloc (.cells #[.int .u8 (x.op : Int), .int .i64 x.n, .slice aa x.args.length ca] 50) = W := ⟨_, rfl⟩
    have hwb : Below w.heap.size w W := by rw [← hW]; exact below_made _ _
    obtain ⟨c0, c1, c2⟩ := box_cells hW
    rw [hN] at c0 c1 c2
    have HB := Lib.hid hwb; have HX := Lib.hid hfx; have HNN := Lib.hid hN
    have HAC := Lib.hid (acc_eq x)
    have hlen : (x.args.length : Int) ≤ 1000000 := by have := sizes_len x.args; have := size_eq x; omega
    obtain ⟨r, hr⟩ : ∃ b, x.acc = b := ⟨_, rfl⟩
    rw [hr] at HAC ⊢
    have HIH : Hid (∀ k (hk : k < x.args.length) (v : Value) (w' : World), Lies w' Any v x.args[k].args → Calls Tryd.prog 95 #[exV x.args[k] v] w' fun e w'' => e = .returned (.bool x.args[k].acc) ∧ Below w'.heap.size w' w'') := Lib.hid (fun k hk v w' h => ih (by omega) x.args[k] (by have := size_arg (List.getElem_mem hk); omega) v w' h)
    unfold exV
    clear hla hfx hwb hs hx ih hr
    go_enter Tryd.func95, Tryd.ntmps95
    go_wp2_with fail
    go_loopg [3] x.args.length (fun g v3 wr => ∃ k : Nat, k + g = x.args.length ∧ v3 = .int .i64 (k : Int) ∧ (∀ i (h : i < x.args.length), i < k → x.args[i].acc = false) ∧ Below W.heap.size W wr)
    case atStart => exact ⟨0, by omega, rfl, fun i h h2 => by omega, Below.refl _ _⟩
    case round =>
      rename World => wr
      obtain ⟨k, hk, rfl, hall, hb⟩ := hrel
      have HAL := Lib.hid hall
      have HBR := Lib.hid hb
      have c0r := cell_on c0 hb
      have c2r := cell_on c2 hb
      by_cases hk' : k < x.args.length
      · have hkn : (k : Int) < (x.args.length : Int) := by omega
        obtain ⟨b1, rfl, hat⟩ := HX.out (by omega)
        obtain ⟨a1, d1, p0, p1, p2, hlp, -⟩ := ((hat k hk').below (HB.out.trans (hb.mono HB.out.size))).cells
        have HC := Lib.hid (HIH.out k hk' _ wr hlp)
        unfold exV at HC
        have HRR : Hid (∀ h : k < x.args.length, x.args[k].acc = x.args[k].acc) := Lib.hid (fun _ => rfl)
        obtain ⟨Y, hY⟩ : ∃ Y, x.args[k] = Y := ⟨_, rfl⟩
        have HYY : Hid (∀ h : k < x.args.length, x.args[k] = Y) := Lib.hid (fun _ => hY)
        rw [hY] at p0 p1 p2 HC
        obtain ⟨q, hq⟩ : ∃ b, Y.acc = b := ⟨_, rfl⟩
        rw [hq] at HC
        have HQ := Lib.hid hq
        clear hall hb hat hlp hY hq HRR
        cases q with
        | true =>
          obtain rfl : r = true := by
            rw [HAC.out, accs_any, Bool.or_eq_true]
            right
            rw [List.any_eq_true]
            exact ⟨x.args[k], List.getElem_mem hk', by rw [HYY.out hk', HQ.out]⟩
          go_wp2_with fail
          refine HC.out.mono ?_
          rintro e w5 ⟨rfl, hb5⟩
          have HB5 := Lib.hid (HB.out.trans ((HBR.out.trans (hb5.mono HBR.out.size)).mono HB.out.size))
          clear hb5
          go_wp2_with fail
          try rw [Exit.noGoto_ret]
          go_ret
          exact ⟨rfl, by first | exact HB5.out | (rw [← hN]; exact HB5.out)⟩
        | false =>
          go_wp2_with fail
          refine HC.out.mono ?_
          rintro e w5 ⟨rfl, hb5⟩
          have HB5 := Lib.hid (HBR.out.trans (hb5.mono HBR.out.size))
          have HAL2 : Hid (∀ i (h : i < x.args.length), i < k + 1 → x.args[i].acc = false) := Lib.hid (fun i h h2 => by
            by_cases hik : i = k
            · subst hik; rw [HYY.out h]; exact HQ.out
            · exact HAL.out i h (by omega))
          clear hb5
          go_wp2_with fail
          go_roundg (gk - 1)
          case measure => omega
          case rel => exact ⟨k + 1, by omega, by go_num, HAL2.out, HB5.out⟩
      · have hkn : ¬ (k : Int) < (x.args.length : Int) := by omega
        have HX1 : Hid (r = (x.op == 4)) := Lib.hid (by
          rw [HAC.out, accs_any]
          have : x.args.any Ex.acc = false := by
            rw [List.any_eq_false]
            intro y hy
            obtain ⟨i, hi, rfl⟩ := List.mem_iff_getElem.1 hy
            rw [hall i hi (by omega)]; simp
          rw [this]; simp)
        clear hall hb
        by_cases h4 : x.op = 4
        · have hd : ((x.op : Int) == 4) = true := by simp; omega
          obtain rfl : r = true := by rw [HX1.out]; simp [h4]
          clear h4
          go_wp2_with fail
          try rw [Exit.noGoto_ret]
          go_ret
          exact ⟨rfl, by first | exact HB.out.trans (HBR.out.mono HB.out.size) | (rw [← hN]; exact HB.out.trans (HBR.out.mono HB.out.size))⟩
        · have hd : ((x.op : Int) == 4) = false := by simp; omega
          obtain rfl : r = false := by rw [HX1.out]; simp [h4]
          clear h4
          go_wp2_with fail
          try rw [Exit.noGoto_ret]
          go_ret
          exact ⟨rfl, by first | exact HB.out.trans (HBR.out.mono HB.out.size) | (rw [← hN]; exact HB.out.trans (HBR.out.mono HB.out.size))⟩
end Go.Proofs.YtnelfokfgnikfaaDoor.rf
