/-
  The merged texts that a layer stands on.
-/
import Derived.Test.YtobbkhncnokpiaaGreatLTa
import Derived.Test.YtobbkhncnokpiaaGreatLCm
import Derived.Test.YtobbkhncnokpiaaGreatLRf
import Derived.Test.YtobbkhncnokpiaaGreatLCh
import Derived.Test.YtobbkhncnokpiaaGreatLCi
import Derived.Test.YtobbkhncnokpiaaGreatLGm
import Derived.Test.YtobbkhncnokpiaaGreatLCj
set_option linter.unusedVariables false
