/- What a kind asks for. -/
import Derived.Test.YtjmfneljgogohaaDoorJbM
namespace Go.Proofs.YtjmfneljgogohaaDoor.jb
set_option linter.unusedSimpArgs false
set_option linter.unusedVariables false
open Go.RowKit nam exp

theorem askR_out {k : Nat} (h : kindOk k = false) : askR k = ask0 := by
  unfold kindOk at h
  simp at h
  match k, h with
  | 0, _ => rfl
  | k + 10, _ => rfl
theorem kind_is {x : Ex} {v : Value} {B : Nat → Prop} {w : World} (h : Lies w B v x.args) (hs : x.size ≤ 1000000) (acc : Bool) (ty : Nat) :
    Calls Tryd.prog 51 #[exV x v, .bool acc, .int .u8 (ty : Int)] w fun e w' => e = .returned (.bool (decide (kindO x acc = (ty, 0)))) ∧ Below w.heap.size w w' := by
  obtain ⟨W, hW⟩ : ∃ W, w.alloc (.cells #[.int .u8 (x.op : Int), .int .i64 x.n, v] 28) = W := ⟨_, rfl⟩
  have hwb : Below w.heap.size w W := by rw [← hW]; exact below_made _ _
  have HK := Lib.hid (kind_any (h.under hwb) hs acc)
  obtain ⟨c0, c1, c2⟩ := box_cells hW
  have HB := Lib.hid hwb
  obtain ⟨t, ht⟩ : ∃ t : Nat, (kindO x acc).1 = t := ⟨_, rfl⟩
  obtain ⟨q, hq⟩ : ∃ q : Int, (kindO x acc).2 = q := ⟨_, rfl⟩
  rw [ht, hq] at HK
  have HR : Hid (∀ b : Bool, (b = true ↔ t = ty ∧ q = 0) → decide (kindO x acc = (ty, 0)) = b) := Lib.hid (fun b hb => by
    rw [Bool.eq_iff_iff, hb, decide_eq_true_eq, ← ht, ← hq, Prod.ext_iff])
  clear h hwb ht hq
  unfold exV at *
  by_cases hq0 : q = 0
  · subst hq0
    by_cases htt : t = ty
    · subst htt
      have e := HR.out true (by simp)
      rw [e]
      clear HR e
      go_enter Tryd.func51, Tryd.ntmps51
      go_wp2_with fail
      refine HK.out.mono ?_
      rintro e w1 ⟨rfl, hb1⟩
      have HX := Lib.hid (HB.out.trans (hb1.mono HB.out.size)); clear hb1
      go_wp2_with fail
      go_ret
      exact ⟨ret_bool (by simp), HX.out⟩
    · have e := HR.out false (by simp [htt])
      rw [e]
      have hne : ((t : Int) == (ty : Int)) = false := by rw [beq_eq_false_iff_ne]; omega
      clear HR e
      go_enter Tryd.func51, Tryd.ntmps51
      go_wp2_with fail
      refine HK.out.mono ?_
      rintro e w1 ⟨rfl, hb1⟩
      have HX := Lib.hid (HB.out.trans (hb1.mono HB.out.size)); clear hb1
      go_wp2_with fail
      go_ret
      exact ⟨ret_bool (by simp [htt]), HX.out⟩
  · have e := HR.out false (by simp [hq0])
    rw [e]
    have hne : (q == 0) = false := by rw [beq_eq_false_iff_ne]; exact hq0
    clear HR e hq0
    go_enter Tryd.func51, Tryd.ntmps51
    go_wp2_with fail
    refine HK.out.mono ?_
    rintro e w1 ⟨rfl, hb1⟩
    have HX := Lib.hid (HB.out.trans (hb1.mono HB.out.size)); clear hb1
    go_wp2_with fail
    go_ret
    exact ⟨ret_bool (by simp), HX.out⟩
end Go.Proofs.YtjmfneljgogohaaDoor.jb
