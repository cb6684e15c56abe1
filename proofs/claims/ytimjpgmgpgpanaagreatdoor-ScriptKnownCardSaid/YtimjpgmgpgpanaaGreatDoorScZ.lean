/- The last of what ScriptKnown wants. -/
import Derived.Test.YtimjpgmgpgpanaaGreatDoorScN
import Derived.Test.YtimjpgmgpgpanaaGreatDoorScT
