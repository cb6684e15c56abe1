/-
IdealFits (P18.1, whether a table may be a node's): of any node and any bytes, table.Take and the document's own reading of them give one error; where there is one, Fits of the node and no table is false; else Fits of the node and the table is what the document says of them. IdealFits returns true, the variables that the row lists standing as their texts lay them; texts that came in have at most 2^47 - 4096 bytes.
-/
import Derived.Test.YtepdecnegihhhaaGreatDoorIdV
import Derived.Test.YtepdecnegihhhaaGreatDoorIdY
import Derived.JoinedOf
set_option linter.unusedSimpArgs false
set_option linter.unusedVariables false
namespace Go.Proofs.YtepdecnegihhhaaGreatDoor.idealFits
open Go.ChangeShapes Go.WideShapes Go.ChangeAt Go.RowKit
theorem over : Rows.idealFitsRow.holds Tryz.pinned (OpenSpec.ofChange Rows.idealFitsSpec) :=
 OpenClaim.holds_of_wide 4 Tryz.f4 rfl rfl rfl rfl rfl rfl rfl ⟨rfl, rfl, rfl, rfl, rfl⟩ rfl rfl rfl rfl rfl (by kernel_rfl) Tryz.func4 closed
  (of_decide_eq_true (by kernel_rfl)) (by unfold Func.isWrapper; first | (rw [if_pos (by decide +kernel)]; kernel_rfl) | (rw [if_neg (by decide +kernel)]; exact ⟨rfl, rfl⟩))
  (fun os started H enc _ => lifted os started H enc)
theorem proved : Rows.IdealFitsSaid :=
 over
end Go.Proofs.YtepdecnegihhhaaGreatDoor.idealFits
namespace Go.Proofs.YtepdecnegihhhaaGreatDoor
theorem idealFits_holds : Rows.IdealFitsSaid := idealFits.proved
theorem idealFitsCard_holds : Rows.IdealFitsCardSaid :=
 Claim7.holds_tied_plain_at .later [] [.data, .data, .data, .pinned] true (true, "31de1b9786f3bcfae54fa18086f427817bae17c8854e2340ef062a73ff58403f") true
  idealFits_holds (fun _ h => by cases h) (by kernel_rfl) (fun _ h => by cases h) idealFits_row_tie rfl ⟨rfl, rfl⟩ (by kernel_rfl) rfl
  (fun f fn hf hfn => by
   obtain rfl : f = 4 := Option.some.inj ((show Tryz.prog.funcNamed "changeling/changelinglaw18.IdealFits" = some 4 by kernel_rfl).symm.trans hf) |>.symm
   obtain rfl : fn = Tryz.f4 := (Option.some.inj (Tryz.func4.symm.trans hfn)).symm
   exact ⟨by kernel_rfl, fun j t ht => by
    rw [Tryz.params4] at ht
    have hm : t ∈ [48, 9] := by
     rcases j with _ | _ | _ | _ | j <;> simp at ht <;> subst ht <;> simp
    have hall : ([48, 9].all fun u => !Tryz.prog.wantsStandIn u) = true := by kernel_rfl
    exact (show Tryz.prog.wantsStandIn t = false by simpa using List.all_eq_true.1 hall t hm)⟩)
  (by kernel_rfl)
end Go.Proofs.YtepdecnegihhhaaGreatDoor
