/-
  The merged texts that a layer stands on.
-/
import Derived.Test.YtblpmnipapimcaaLGa
import Derived.Test.YtblpmnipapimcaaLLe
import Derived.Test.YtblpmnipapimcaaLCr
import Derived.Test.YtblpmnipapimcaaLHd
import Derived.Test.YtblpmnipapimcaaLOa
import Derived.Test.YtblpmnipapimcaaLOb
import Derived.Test.YtblpmnipapimcaaLOc
set_option linter.unusedVariables false
