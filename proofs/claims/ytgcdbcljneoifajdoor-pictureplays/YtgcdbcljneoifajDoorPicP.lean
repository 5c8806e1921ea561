/-
  The contracts of the landed package picture, put together.
-/
import Derived.Test.YtgcdbcljneoifajDoorPicY
namespace Go.Proofs.YtgcdbcljneoifajDoor.Pic
end Go.Proofs.YtgcdbcljneoifajDoor.Pic
