/-
  Errors and lists of numbers as with a leader, views as in chapter 15, beside a group that flushes.
-/
import Derived.Test.YtgdmbnfdcbekaaiFluM
import Derived.Test.YtgdmbnfdcbekaaiViwE
namespace Go.Proofs.Ytgdmbnfdcbekaai.Flu
open Go.RowKit
open Go.Proofs.Ytgdmbnfdcbekaai.Sep (KpL NewL)
open Go.Proofs.Ytgdmbnfdcbekaai.Ldr (errF Sl)
set_option linter.unusedVariables false
end Go.Proofs.Ytgdmbnfdcbekaai.Flu
