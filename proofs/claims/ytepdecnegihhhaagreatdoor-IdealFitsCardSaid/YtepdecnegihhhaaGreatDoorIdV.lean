/- The closed facts that the row of IdealFits asks of the program. -/
import Derived.Test.YtepdecnegihhhaaGreatDoorRows
import Derived.Test.YtepdecnegihhhaaGreatDoorChecked
import Derived.JoinedOf
import Derived.KernelRfl
set_option linter.unusedSimpArgs false
set_option linter.unusedVariables false
namespace Go.Proofs.YtepdecnegihhhaaGreatDoor.idealFits
theorem factA : (Rows.idealFitsRow.inPlace == Tryz.prog.inPlace 4) = true := by kernel_rfl
theorem factB : (Rows.idealFitsRow.unfollowed == Tryz.prog.unfollowed 4) = true := by kernel_rfl
theorem factC : (Rows.idealFitsRow.recurses == Tryz.prog.recurses 4) = true := by kernel_rfl
theorem factD : (Rows.idealFitsRow.named == Tryz.prog.varsNamed 4) = true := by kernel_rfl
theorem closed : joinedFacts Tryz.prog 4 Tryz.f4 Rows.idealFitsSpec Rows.idealFitsRow = true := by
 unfold joinedFacts
 rw [factA, factB, factC, factD]
 kernel_rfl
end Go.Proofs.YtepdecnegihhhaaGreatDoor.idealFits
