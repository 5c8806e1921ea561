/-
  The library's Builder: it holds its own address, a text is put behind what it holds.
-/
import Derived.Test.YtolnfipdhkbkjajDoorPieC
import Derived.Lib.AppendStr
import Derived.Lib.Builder
import Derived.OwnWalk
namespace Go.Proofs.YtolnfipdhkbkjajDoor.Pie
open Go.RowKit
open Go.Proofs.YtolnfipdhkbkjajDoor.Fif (own_lt own_block own_form own_mono Kp ret_bool)
set_option linter.unusedVariables false

end Go.Proofs.YtolnfipdhkbkjajDoor.Pie
