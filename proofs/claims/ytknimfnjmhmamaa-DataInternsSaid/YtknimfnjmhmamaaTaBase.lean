/-
  The merged texts that a layer stands on.
-/
import Derived.Test.YtknimfnjmhmamaaLGa
import Derived.Test.YtknimfnjmhmamaaLIt
import Derived.Test.YtknimfnjmhmamaaLLe
import Derived.Test.YtknimfnjmhmamaaLCr
import Derived.Test.YtknimfnjmhmamaaLMx
import Derived.Test.YtknimfnjmhmamaaLHd
import Derived.Test.YtknimfnjmhmamaaLOa
import Derived.Test.YtknimfnjmhmamaaLOb
import Derived.Test.YtknimfnjmhmamaaLOc
import Derived.Test.YtknimfnjmhmamaaLIm
set_option linter.unusedVariables false
