/-
  The merged texts that a layer stands on.
-/
import Derived.Test.YtaeegcohimflbaaGreatLDa
import Derived.Test.YtaeegcohimflbaaGreatLDb
import Derived.Test.YtaeegcohimflbaaGreatLDc
import Derived.Test.YtaeegcohimflbaaGreatLDd
import Derived.Test.YtaeegcohimflbaaGreatLEn
set_option linter.unusedVariables false
