/-
  The contracts of package again that the walks want: see the texts that are imported.
-/
import Derived.Test.YtdhlfbpflngmbafDoorAgaS
