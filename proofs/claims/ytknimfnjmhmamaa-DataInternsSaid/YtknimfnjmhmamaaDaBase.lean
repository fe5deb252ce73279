/-
  The merged texts that a layer stands on.
-/
import Derived.Test.YtknimfnjmhmamaaLTa
import Derived.Test.YtknimfnjmhmamaaLCm
import Derived.Test.YtknimfnjmhmamaaLRf
import Derived.Test.YtknimfnjmhmamaaLCh
import Derived.Test.YtknimfnjmhmamaaLCi
import Derived.Test.YtknimfnjmhmamaaLGm
import Derived.Test.YtknimfnjmhmamaaLCj
set_option linter.unusedVariables false
