/-
  Errors and lists of numbers as with a leader, views as in chapter 15, beside a group that flushes.
-/
import Derived.Test.YtgdmbnfdcbekaaiDoorFluM
import Derived.Test.YtgdmbnfdcbekaaiDoorViwE
namespace Go.Proofs.YtgdmbnfdcbekaaiDoor.Flu
open Go.RowKit
open Go.Proofs.YtgdmbnfdcbekaaiDoor.Sep (KpL NewL)
open Go.Proofs.YtgdmbnfdcbekaaiDoor.Ldr (errF Sl)
set_option linter.unusedVariables false
end Go.Proofs.YtgdmbnfdcbekaaiDoor.Flu
