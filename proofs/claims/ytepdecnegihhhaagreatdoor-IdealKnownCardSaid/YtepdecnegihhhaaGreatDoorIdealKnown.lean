/-
The call of IdealKnown returns true at every start at which the row's listed tables are laid: the chapter's examples of an ideal (Feed, States), what Load refuses (a state of a node that keeps nothing, a table that may not be the node's), a job that may not be, a node of no kind, and what none answers. Conditions: the listed package variables are laid as the program's text lays them.
-/
import Derived.Test.YtepdecnegihhhaaGreatDoorIdU
import Derived.Test.YtepdecnegihhhaaGreatDoorIdX
import Derived.JoinedOf
set_option linter.unusedSimpArgs false
set_option linter.unusedVariables false
namespace Go.Proofs.YtepdecnegihhhaaGreatDoor.idealKnown
open Go.ChangeShapes Go.WideShapes Go.ChangeAt Go.RowKit
open Go.ChangeMaps (open_string shut_string)
theorem over : Rows.idealKnownRow.holds Tryz.pinned (OpenSpec.ofChange Rows.idealKnownSpec) :=
 OpenClaim.holds_of_wide 3 Tryz.f3 rfl rfl rfl rfl rfl rfl rfl ⟨rfl, rfl, rfl, rfl, rfl⟩ rfl rfl rfl rfl rfl (by kernel_rfl) Tryz.func3 closed
  (of_decide_eq_true (by kernel_rfl)) (by unfold Func.isWrapper; first | (rw [if_pos (by decide +kernel)]; kernel_rfl) | (rw [if_neg (by decide +kernel)]; exact ⟨rfl, rfl⟩))
  (fun os started H enc _ => lifted os started H enc)
theorem proved : Rows.IdealKnownSaid :=
 over
end Go.Proofs.YtepdecnegihhhaaGreatDoor.idealKnown
namespace Go.Proofs.YtepdecnegihhhaaGreatDoor
theorem idealKnown_holds : Rows.IdealKnownSaid := idealKnown.proved
theorem idealKnownCard_holds : Rows.IdealKnownCardSaid :=
 Claim7.holds_tied_plain_at .later [] [.data, .data, .data, .pinned] true (true, "31de1b9786f3bcfae54fa18086f427817bae17c8854e2340ef062a73ff58403f") true
  idealKnown_holds (fun _ h => by cases h) (by kernel_rfl) (fun _ h => by cases h) idealKnown_row_tie rfl ⟨rfl, rfl⟩ (by kernel_rfl) rfl
  (fun f fn hf hfn => by
   obtain rfl : f = 3 := Option.some.inj ((show Tryz.prog.funcNamed "changeling/changelinglaw18.IdealKnown" = some 3 by kernel_rfl).symm.trans hf) |>.symm
   obtain rfl : fn = Tryz.f3 := (Option.some.inj (Tryz.func3.symm.trans hfn)).symm
   exact ⟨by kernel_rfl, fun j t ht => by
    rw [Tryz.params3] at ht
    simp at ht⟩)
  (by kernel_rfl)
end Go.Proofs.YtepdecnegihhhaaGreatDoor
