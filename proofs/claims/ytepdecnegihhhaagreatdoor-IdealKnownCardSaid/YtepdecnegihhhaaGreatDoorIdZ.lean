/- What the row of IdealKnown stands on. -/
import Derived.Test.YtepdecnegihhhaaGreatDoorMIk
import Derived.Test.YtepdecnegihhhaaGreatDoorIdT
set_option linter.unusedSimpArgs false
set_option linter.unusedVariables false
