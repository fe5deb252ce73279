/-
  The merged texts that a layer stands on.
-/
import Derived.Test.YtobbkhncnokpiaaGreatLDa
import Derived.Test.YtobbkhncnokpiaaGreatLDb
import Derived.Test.YtobbkhncnokpiaaGreatLDc
import Derived.Test.YtobbkhncnokpiaaGreatLDd
import Derived.Test.YtobbkhncnokpiaaGreatLEn
set_option linter.unusedVariables false
