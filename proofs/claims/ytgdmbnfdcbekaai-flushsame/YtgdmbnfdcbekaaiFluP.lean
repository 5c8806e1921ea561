/-
  Contracts of package flush: New, Say, Give, Change, View, Heard.
-/
import Derived.Test.YtgdmbnfdcbekaaiFluN
import Derived.Test.YtgdmbnfdcbekaaiFluG
import Derived.Test.YtgdmbnfdcbekaaiFluX
