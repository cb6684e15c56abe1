/- What the row of IdealKnown stands on. -/
import Derived.Test.YtdfbjmkmiaembaaGreatDoorMIk
import Derived.Test.YtdfbjmkmiaembaaGreatDoorIdT
set_option linter.unusedSimpArgs false
set_option linter.unusedVariables false
