import Derived.Test.YtdfbjmkmiaembaaGreatDoorRows
import Derived.Test.YtdfbjmkmiaembaaGreatDoorChecked
import Derived.JoinedOf
import Derived.KernelRfl
namespace Go.Proofs.YtdfbjmkmiaembaaGreatDoor.idealFits
theorem factA : (Rows.idealFitsRow.inPlace == Tryz.prog.inPlace 5) = true := by kernel_rfl
theorem factB : (Rows.idealFitsRow.unfollowed == Tryz.prog.unfollowed 5) = true := by kernel_rfl
theorem factC : (Rows.idealFitsRow.recurses == Tryz.prog.recurses 5) = true := by kernel_rfl
theorem factD : (Rows.idealFitsRow.named == Tryz.prog.varsNamed 5) = true := by kernel_rfl
theorem closed : joinedFacts Tryz.prog 5 Tryz.f5 Rows.idealFitsSpec Rows.idealFitsRow = true := by
  unfold joinedFacts
  rw [factA, factB, factC, factD]
  kernel_rfl
end Go.Proofs.YtdfbjmkmiaembaaGreatDoor.idealFits
