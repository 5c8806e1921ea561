/-
  Texts put together: RunC.
-/
import Derived.Test.YtdmniblonikjlakGreatDoorPrR


namespace Go.Proofs.YtdmniblonikjlakGreatDoor.Run
set_option linter.unusedVariables false
end Go.Proofs.YtdmniblonikjlakGreatDoor.Run
