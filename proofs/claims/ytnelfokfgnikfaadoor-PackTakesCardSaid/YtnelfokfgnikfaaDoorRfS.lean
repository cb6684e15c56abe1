/- The walk, and the variable as a row lists it. -/
import Derived.Test.YtnelfokfgnikfaaDoorRfR
import Derived.Test.YtnelfokfgnikfaaDoorJbU
