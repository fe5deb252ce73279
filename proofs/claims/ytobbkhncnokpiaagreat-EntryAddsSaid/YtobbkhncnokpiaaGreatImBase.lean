/-
  The merged texts that a layer stands on.
-/
import Derived.Test.YtobbkhncnokpiaaGreatLGa
import Derived.Test.YtobbkhncnokpiaaGreatLLe
import Derived.Test.YtobbkhncnokpiaaGreatLCr
import Derived.Test.YtobbkhncnokpiaaGreatLHd
import Derived.Test.YtobbkhncnokpiaaGreatLOa
import Derived.Test.YtobbkhncnokpiaaGreatLOb
import Derived.Test.YtobbkhncnokpiaaGreatLOc
set_option linter.unusedVariables false
