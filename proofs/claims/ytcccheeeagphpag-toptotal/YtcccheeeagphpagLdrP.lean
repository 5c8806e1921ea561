/-
  The contracts of package leader in the forms that the walks want.
-/
import Derived.Test.YtcccheeeagphpagLdrG
