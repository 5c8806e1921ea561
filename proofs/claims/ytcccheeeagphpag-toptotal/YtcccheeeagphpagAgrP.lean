/-
  The contracts of package agree, in the forms that the walks want.
-/
import Derived.Test.YtcccheeeagphpagAgrJ
