/-
  The merged texts that a layer stands on.
-/
import Derived.Test.YtknimfnjmhmamaaLGa
import Derived.Test.YtknimfnjmhmamaaLLe
import Derived.Test.YtknimfnjmhmamaaLCr
import Derived.Test.YtknimfnjmhmamaaLHd
import Derived.Test.YtknimfnjmhmamaaLOa
import Derived.Test.YtknimfnjmhmamaaLOb
import Derived.Test.YtknimfnjmhmamaaLOc
set_option linter.unusedVariables false
