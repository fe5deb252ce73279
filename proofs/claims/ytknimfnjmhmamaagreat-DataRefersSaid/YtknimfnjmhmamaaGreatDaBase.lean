/-
  The merged texts that a layer stands on.
-/
import Derived.Test.YtknimfnjmhmamaaGreatLTa
import Derived.Test.YtknimfnjmhmamaaGreatLCm
import Derived.Test.YtknimfnjmhmamaaGreatLRf
import Derived.Test.YtknimfnjmhmamaaGreatLCh
import Derived.Test.YtknimfnjmhmamaaGreatLCi
import Derived.Test.YtknimfnjmhmamaaGreatLGm
import Derived.Test.YtknimfnjmhmamaaGreatLCj
set_option linter.unusedVariables false
