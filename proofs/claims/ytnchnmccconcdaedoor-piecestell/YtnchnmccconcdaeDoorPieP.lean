/-
  The program's pieces in the forms that the walks want.
-/
import Derived.Test.YtnchnmccconcdaeDoorPieC
import Derived.Test.YtnchnmccconcdaeDoorPieX
