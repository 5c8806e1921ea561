/-
  Errors and lists of numbers as with a leader, beside pictures.
-/
import Derived.Test.YtgcdbcljneoifajDoorPicQ
import Derived.Test.YtgcdbcljneoifajDoorLdrE
import Derived.Test.YtgcdbcljneoifajDoorSepA
namespace Go.Proofs.YtgcdbcljneoifajDoor.Pic
open Go.RowKit
open Go.Proofs.YtgcdbcljneoifajDoor.Sep (KpL NewL)
open Go.Proofs.YtgcdbcljneoifajDoor.Ldr (errF Sl)
set_option linter.unusedVariables false
end Go.Proofs.YtgcdbcljneoifajDoor.Pic
