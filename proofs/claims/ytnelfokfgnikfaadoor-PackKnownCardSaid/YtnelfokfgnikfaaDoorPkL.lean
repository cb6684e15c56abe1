/- The walk, and the variable as a row lists it. -/
import Derived.Test.YtnelfokfgnikfaaDoorPkK
import Derived.Test.YtnelfokfgnikfaaDoorJbU
