/-
  All contracts of package token.
-/
import Derived.Test.YtfjhjjikaodadagDoorTokI
