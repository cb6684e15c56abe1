/- What Of answers. -/
import Derived.Test.YtjmfneljgogohaaDoorKdG
namespace Go.Proofs.YtjmfneljgogohaaDoor.exp
set_option linter.unusedSimpArgs false
set_option linter.unusedVariables false
open Go.RowKit nam

theorem kind_any {x : Ex} {v : Value} {B : Nat → Prop} {w : World} (h : Lies w B v x.args) (hs : x.size ≤ 1000000) (acc : Bool) :
    Calls Tryd.prog 52 #[exV x v, .bool acc] w fun e w' => e = .returned (.tuple #[.int .u8 ((kindO x acc).1 : Int), .int .i64 (kindO x acc).2]) ∧ Below w.heap.size w w' := by
  obtain ⟨N, hN⟩ : ∃ N, w.heap.size = N := ⟨_, rfl⟩
  obtain ⟨W, hW⟩ : ∃ W, w.alloc (.cells #[.int .u8 (x.op : Int), .int .i64 x.n, v] 28) = W := ⟨_, rfl⟩
  have hwb : Below w.heap.size w W := by rw [← hW]; exact (Below.refl _ _).alloc (Nat.le_refl _) _
  have hW0 : W.heap[N]? = some (.cells #[.int .u8 (x.op : Int), .int .i64 x.n, v] 28 (0, 0)) := by rw [← hW]; exact heap_last hN.symm
  have hat : At W Any N 0 x := ⟨_, v, trivial, hW0, rfl, rfl, rfl, (h.mono (fun _ _ => trivial)).under hwb⟩
  obtain ⟨c0, c1, c2⟩ := box_cells hW
  rw [hN] at c0 c1 c2
  have HM := Lib.hid (may_any (h.under hwb) hs)
  have HB := Lib.hid hwb; have HA := Lib.hid hat; have HN := Lib.hid hN
  clear h hwb hat hW0
  obtain ⟨r, hr⟩ : ∃ r, kindO x acc = r := ⟨_, rfl⟩
  rw [hr]
  unfold exV at *
  obtain ⟨g, hg⟩ : ∃ g, good FM x 1 = g := ⟨_, rfl⟩
  rw [hg] at HM
  cases g with
  | false =>
    obtain rfl : r = (0, 2) := by rw [← hr, kindO, if_pos hg]
    clear hr hg
    go_enter Tryd.func52, Tryd.ntmps52
    go_wp2_with fail
    refine HM.out.mono ?_
    rintro e w1 ⟨rfl, hb1⟩
    have HX := Lib.hid (HB.out.trans (hb1.mono HB.out.size)); clear hb1
    go_wp2_with fail
    go_ret2
    exact ⟨rfl, HX.out⟩
  | true =>
    have hfit := ((good_FM x 1).1 hg).2
    obtain ⟨ax, hax⟩ : ∃ c, x.acc = c := ⟨_, rfl⟩
    obtain ⟨tx, htx⟩ : ∃ c : Nat, x.ty = c := ⟨_, rfl⟩
    have hk : r = if ax = true ∧ acc = false then (0, 90) else if tx = 0 then (0, 91) else (tx, 0) := by
      rw [← hr, kindO, if_neg (by rw [hg]; simp), hax, htx]
    have HF := Lib.hid hfit; have HAX := Lib.hid hax; have HTX := Lib.hid htx
    clear hr hg hfit hax htx
    have hcase : ∃ (z : Bool), ((tx : Int) == 0) = z ∧ r = if ax = true ∧ acc = false then (0, 90) else if z = true then (0, 91) else (tx, 0) := by
      refine ⟨_, rfl, ?_⟩
      rw [hk]
      by_cases h0 : tx = 0
      · simp [h0]
      · have : ((tx : Int) == 0) = false := by rw [beq_eq_false_iff_ne]; omega
        simp [h0, this]
    obtain ⟨z, hz, hk'⟩ := hcase
    clear hk
    go_enter Tryd.func52, Tryd.ntmps52
    go_wp2_with fail
    refine HM.out.mono ?_
    rintro e w1 ⟨rfl, hb1⟩
    have HL := Lib.hid (look_any (w := w1) (HA.out.under' hb1) hs HF.out)
    rw [HAX.out, HTX.out] at HL
    have HX := Lib.hid (HB.out.trans (hb1.mono HB.out.size)); clear hb1
    go_wp2_with fail
    refine HL.out.mono ?_
    rintro e w2 ⟨rfl, hb2⟩
    have HX2 := Lib.hid (HX.out.trans (hb2.mono HX.out.size)); clear hb2
    cases ax with
    | true =>
      cases acc with
      | false =>
        rw [if_pos ⟨rfl, rfl⟩] at hk'
        subst hk'
        go_wp2_with fail
        go_ret2
        exact ⟨rfl, by first | exact HX2.out | exact HN.out ▸ HX2.out⟩
      | true =>
        rw [if_neg (by simp)] at hk'
        cases z <;> (simp only [if_true, Bool.false_eq_true, if_false] at hk'; subst hk'; go_wp2_with fail; go_ret2; exact ⟨rfl, by first | exact HX2.out | exact HN.out ▸ HX2.out⟩)
    | false =>
      rw [if_neg (by simp)] at hk'
      cases z <;> (simp only [if_true, Bool.false_eq_true, if_false] at hk'; subst hk'; go_wp2_with fail; go_ret2; exact ⟨rfl, by first | exact HX2.out | exact HN.out ▸ HX2.out⟩)
end Go.Proofs.YtjmfneljgogohaaDoor.exp
