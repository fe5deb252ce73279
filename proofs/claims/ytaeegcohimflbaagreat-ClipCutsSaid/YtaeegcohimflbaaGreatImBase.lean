/-
  The merged texts that a layer stands on.
-/
import Derived.Test.YtaeegcohimflbaaGreatLGa
import Derived.Test.YtaeegcohimflbaaGreatLLe
import Derived.Test.YtaeegcohimflbaaGreatLCr
import Derived.Test.YtaeegcohimflbaaGreatLHd
import Derived.Test.YtaeegcohimflbaaGreatLOa
import Derived.Test.YtaeegcohimflbaaGreatLOb
import Derived.Test.YtaeegcohimflbaaGreatLOc
set_option linter.unusedVariables false
