/- The closed facts that the row of IdealKnown asks of the program. -/
import Derived.Test.YtepdecnegihhhaaGreatDoorRows
import Derived.Test.YtepdecnegihhhaaGreatDoorChecked
import Derived.JoinedOf
import Derived.KernelRfl
set_option linter.unusedSimpArgs false
set_option linter.unusedVariables false
namespace Go.Proofs.YtepdecnegihhhaaGreatDoor.idealKnown
theorem factA : (Rows.idealKnownRow.inPlace == Tryz.prog.inPlace 3) = true := by kernel_rfl
theorem factB : (Rows.idealKnownRow.unfollowed == Tryz.prog.unfollowed 3) = true := by kernel_rfl
theorem factC : (Rows.idealKnownRow.recurses == Tryz.prog.recurses 3) = true := by kernel_rfl
theorem factD : (Rows.idealKnownRow.named == Tryz.prog.varsNamed 3) = true := by kernel_rfl
theorem closed : joinedFacts Tryz.prog 3 Tryz.f3 Rows.idealKnownSpec Rows.idealKnownRow = true := by
 unfold joinedFacts
 rw [factA, factB, factC, factD]
 kernel_rfl
end Go.Proofs.YtepdecnegihhhaaGreatDoor.idealKnown
