/-
  The merged texts that a layer stands on.
-/
import Derived.Test.YtblpmnipapimcaaLGa
import Derived.Test.YtblpmnipapimcaaLLe
import Derived.Test.YtblpmnipapimcaaLCr
import Derived.Test.YtblpmnipapimcaaLMx
import Derived.Test.YtblpmnipapimcaaLHd
import Derived.Test.YtblpmnipapimcaaLOa
import Derived.Test.YtblpmnipapimcaaLOb
import Derived.Test.YtblpmnipapimcaaLOc
import Derived.Test.YtblpmnipapimcaaLIm
set_option linter.unusedVariables false
