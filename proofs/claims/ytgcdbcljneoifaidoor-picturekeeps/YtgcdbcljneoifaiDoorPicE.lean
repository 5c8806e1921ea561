/-
  Errors and lists of numbers as with a leader, beside pictures.
-/
import Derived.Test.YtgcdbcljneoifaiDoorPicQ
import Derived.Test.YtgcdbcljneoifaiDoorLdrE
import Derived.Test.YtgcdbcljneoifaiDoorSepA
namespace Go.Proofs.YtgcdbcljneoifaiDoor.Pic
open Go.RowKit
open Go.Proofs.YtgcdbcljneoifaiDoor.Sep (KpL NewL)
open Go.Proofs.YtgcdbcljneoifaiDoor.Ldr (errF Sl)
set_option linter.unusedVariables false
end Go.Proofs.YtgcdbcljneoifaiDoor.Pic
