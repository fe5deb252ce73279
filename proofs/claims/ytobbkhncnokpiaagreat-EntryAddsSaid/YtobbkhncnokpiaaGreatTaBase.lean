/-
  The merged texts that a layer stands on.
-/
import Derived.Test.YtobbkhncnokpiaaGreatLGa
import Derived.Test.YtobbkhncnokpiaaGreatLIt
import Derived.Test.YtobbkhncnokpiaaGreatLIu
import Derived.Test.YtobbkhncnokpiaaGreatLLe
import Derived.Test.YtobbkhncnokpiaaGreatLCr
import Derived.Test.YtobbkhncnokpiaaGreatLMx
import Derived.Test.YtobbkhncnokpiaaGreatLHd
import Derived.Test.YtobbkhncnokpiaaGreatLOa
import Derived.Test.YtobbkhncnokpiaaGreatLOb
import Derived.Test.YtobbkhncnokpiaaGreatLOc
import Derived.Test.YtobbkhncnokpiaaGreatLIm
set_option linter.unusedVariables false
