/-
  The Sender: NewSender, Say, Ask, Free (the library's maps.DeleteFunc).
-/
import Derived.Test.YtdhlfbpflngmbaeDoorAgaH
namespace Go.Proofs.YtdhlfbpflngmbaeDoor.Aga
open Go.RowKit Go.Maps
open Go.Proofs.YtdhlfbpflngmbaeDoor.MapI (MM MP putT delT kl kl_inj turned_below g_of_turned)
open Go.Proofs.YtdhlfbpflngmbaeDoor.Sep (KpL NewL)
set_option linter.unusedVariables false
end Go.Proofs.YtdhlfbpflngmbaeDoor.Aga
