/-
  The merged texts that a layer stands on.
-/
import Derived.Test.YtknimfnjmhmamaaGreatLGa
import Derived.Test.YtknimfnjmhmamaaGreatLLe
import Derived.Test.YtknimfnjmhmamaaGreatLCr
import Derived.Test.YtknimfnjmhmamaaGreatLHd
import Derived.Test.YtknimfnjmhmamaaGreatLOa
import Derived.Test.YtknimfnjmhmamaaGreatLOb
import Derived.Test.YtknimfnjmhmamaaGreatLOc
set_option linter.unusedVariables false
