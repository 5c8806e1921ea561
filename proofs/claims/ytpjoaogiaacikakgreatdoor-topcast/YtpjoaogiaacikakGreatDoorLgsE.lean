/-
  Errors as a log tells them; a log and what else stands.
-/
import Derived.Test.YtpjoaogiaacikakGreatDoorLgsM
import Derived.Test.YtpjoaogiaacikakGreatDoorHisP
import Derived.Test.YtpjoaogiaacikakGreatDoorSepA
namespace Go.Proofs.YtpjoaogiaacikakGreatDoor.Lgs
open Go.RowKit
open Go.Proofs.YtpjoaogiaacikakGreatDoor.His (Ev ev errV errV_ok errV_no Eo flat flat_len)
open Go.Proofs.YtpjoaogiaacikakGreatDoor.Sep (KpL NewL)
set_option linter.unusedVariables false

end Go.Proofs.YtpjoaogiaacikakGreatDoor.Lgs
