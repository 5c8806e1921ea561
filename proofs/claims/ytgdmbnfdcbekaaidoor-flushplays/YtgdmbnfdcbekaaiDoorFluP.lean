/-
  Contracts of package flush: New, Say, Give, Change, View, Heard.
-/
import Derived.Test.YtgdmbnfdcbekaaiDoorFluN
import Derived.Test.YtgdmbnfdcbekaaiDoorFluG
import Derived.Test.YtgdmbnfdcbekaaiDoorFluX
