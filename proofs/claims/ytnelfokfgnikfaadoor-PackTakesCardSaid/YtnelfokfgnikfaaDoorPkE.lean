/- Plain facts on the document's examples. -/
import Derived.Test.YtnelfokfgnikfaaDoorPkP
import Derived.Test.YtnelfokfgnikfaaDoorJbR
import Derived.KernelRfl
namespace Go.Proofs.YtnelfokfgnikfaaDoor.pk
set_option linter.unusedSimpArgs false
set_option linter.unusedVariables false
open Go.RowKit nam exp jb

def two : List Nd := [srcN, endN 0]
def twoB : ByteArray := ⟨#[2, 4, 2, 115, 2, 0, 0, 0, 0, 0, 2, 116, 18, 0, 2, 0, 0, 0, 0]⟩
theorem pack_two : packO 1 two = (twoB, 0) := by kernel_rfl
theorem take_two : takeO twoB = ((1, two), 0) := by kernel_rfl
theorem take_none : takeO ⟨#[]⟩ = ((0, []), 20) := by kernel_rfl
theorem take_short : takeO ⟨#[2, 2]⟩ = ((0, []), 20) := by kernel_rfl
theorem pack_none : packO 0 [] = (ByteArray.empty, 2) := by kernel_rfl
end Go.Proofs.YtnelfokfgnikfaaDoor.pk
