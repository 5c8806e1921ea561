/-
  The contracts of the landed package picture, put together.
-/
import Derived.Test.YtgcdbcljneoifaiDoorPicY
namespace Go.Proofs.YtgcdbcljneoifaiDoor.Pic
end Go.Proofs.YtgcdbcljneoifaiDoor.Pic
