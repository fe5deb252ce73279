/-
  The merged texts that a layer stands on.
-/
import Derived.Test.YtknimfnjmhmamaaGreatLGa
import Derived.Test.YtknimfnjmhmamaaGreatLIt
import Derived.Test.YtknimfnjmhmamaaGreatLLe
import Derived.Test.YtknimfnjmhmamaaGreatLCr
import Derived.Test.YtknimfnjmhmamaaGreatLMx
import Derived.Test.YtknimfnjmhmamaaGreatLHd
import Derived.Test.YtknimfnjmhmamaaGreatLOa
import Derived.Test.YtknimfnjmhmamaaGreatLOb
import Derived.Test.YtknimfnjmhmamaaGreatLOc
import Derived.Test.YtknimfnjmhmamaaGreatLIm
set_option linter.unusedVariables false
