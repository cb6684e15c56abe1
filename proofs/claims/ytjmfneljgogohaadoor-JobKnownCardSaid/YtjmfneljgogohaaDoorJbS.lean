/- What comes of the law's own jobs. No program's run in this file. -/
import Derived.Test.YtjmfneljgogohaaDoorJbR
import Derived.KernelRfl
namespace Go.Proofs.YtjmfneljgogohaaDoor.jb
set_option linter.unusedSimpArgs false
set_option linter.unusedVariables false
open Go.RowKit nam exp

def endS : Nd := ⟨⟨#[115]⟩, 9, [0], Ex.zero, 0⟩
def L2 : List Nd := [srcN, endS]
theorem zeroX (a : Ask) (h : a.ty = 0) : takesXB a Ex.zero = true := by
  unfold takesXB
  rw [if_pos h]
  rfl
theorem may_src : mayB srcN 0 = true := mayB_iff.2 ⟨by kernel_rfl, by kernel_rfl, by kernel_rfl, zeroX _ (by kernel_rfl), by decide, by decide⟩
theorem may_map : mayB mapN 1 = true := mayB_iff.2 ⟨by kernel_rfl, by kernel_rfl, by kernel_rfl, by
  unfold takesXB
  rw [if_neg (by decide)]
  exact decide_eq_true (by kernel_rfl), by decide, by decide⟩
theorem may_end0 : mayB (endN 0) 2 = true := mayB_iff.2 ⟨by kernel_rfl, by kernel_rfl, by kernel_rfl, zeroX _ (by kernel_rfl), by decide, by decide⟩
theorem may_end1 : mayB (endN 1) 2 = true := mayB_iff.2 ⟨by kernel_rfl, by kernel_rfl, by kernel_rfl, zeroX _ (by kernel_rfl), by decide, by decide⟩
theorem may_endS : mayB endS 1 = true := mayB_iff.2 ⟨by kernel_rfl, by kernel_rfl, by kernel_rfl, zeroX _ (by kernel_rfl), by decide, by decide⟩
theorem err0 (l : List Nd) (nd : Nd) (k : Nat) (h : l[k]? = some nd) (hm : mayB nd k = true) (hf : findI (l.take k) nd.uid < 0) : errAt l k = 0 := by
  unfold errAt
  rw [h]
  simp only [hm]
  rw [if_neg (by simp), if_neg (by omega)]
theorem alone3 (p : Int) (hm : mayB (endN p) 2 = true) : aloneO (L3 p) = (0, 0) := by
  refine firstErr_all fun j _ hj => ?_
  have hl : (L3 p).length = 3 := rfl
  rw [hl] at hj
  match j, hj with
  | 0, _ => exact err0 _ srcN 0 rfl may_src (of_decide_eq_true (by kernel_rfl))
  | 1, _ => exact err0 _ mapN 1 rfl may_map (of_decide_eq_true (by kernel_rfl))
  | 2, _ => exact err0 _ (endN p) 2 rfl hm (of_decide_eq_true (by kernel_rfl))
theorem may31 : mayO 2 (L3 1) = (0, 0) := by
  unfold mayO
  rw [if_neg (by rw [show boundedB 2 (L3 1) = true by kernel_rfl]; simp), if_neg (by rw [alone3 1 may_end1]; simp)]
  kernel_rfl
theorem may30 : mayO 2 (L3 0) = (1, 122) := by
  unfold mayO
  rw [if_neg (by rw [show boundedB 2 (L3 0) = true by kernel_rfl]; simp), if_neg (by rw [alone3 0 may_end0]; simp)]
  kernel_rfl
theorem alone2 : aloneO L2 = (1, 121) := by
  have e0 : errAt L2 0 = 0 := err0 _ srcN 0 rfl may_src (by decide)
  have e1 : errAt L2 1 = 121 := by
    unfold errAt
    rw [show L2[1]? = some endS from rfl]
    simp only [may_endS]
    rw [if_neg (by simp), if_pos (of_decide_eq_true (by kernel_rfl))]
  show firstErr (errAt L2) 2 0 = _
  rw [firstErr_step e0, firstErr_stop (by rw [e1]; decide), e1]
  rfl
theorem may2 : mayO 1 L2 = (1, 121) := by
  unfold mayO
  rw [if_neg (by rw [show boundedB 1 L2 = true by kernel_rfl]; simp), if_pos (by rw [alone2]; simp), alone2]
theorem reads31 : readersO 2 (L3 1) 0 = [1] := by
  unfold readersO
  rw [if_neg (by rw [may31]; simp)]
  kernel_rfl
theorem reads30 : readersO 2 (L3 0) 0 = [] := by
  unfold readersO
  rw [if_pos (by rw [may30]; simp)]
theorem find31 : findI (L3 1) ⟨#[116]⟩ = 2 := by kernel_rfl
theorem find30 : findI (L3 0) ⟨#[122, 122]⟩ = -1 := by kernel_rfl
end Go.Proofs.YtjmfneljgogohaaDoor.jb
