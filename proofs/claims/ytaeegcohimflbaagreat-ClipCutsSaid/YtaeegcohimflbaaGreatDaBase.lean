/-
  The merged texts that a layer stands on.
-/
import Derived.Test.YtaeegcohimflbaaGreatLTa
import Derived.Test.YtaeegcohimflbaaGreatLCm
import Derived.Test.YtaeegcohimflbaaGreatLRf
import Derived.Test.YtaeegcohimflbaaGreatLCh
import Derived.Test.YtaeegcohimflbaaGreatLCi
import Derived.Test.YtaeegcohimflbaaGreatLGm
import Derived.Test.YtaeegcohimflbaaGreatLCj
set_option linter.unusedVariables false
