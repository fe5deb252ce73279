/-
  The merged texts that a layer stands on.
-/
import Derived.Test.YtjpfbkhjhainpaaLGa
import Derived.Test.YtjpfbkhjhainpaaLLe
import Derived.Test.YtjpfbkhjhainpaaLCr
import Derived.Test.YtjpfbkhjhainpaaLHd
import Derived.Test.YtjpfbkhjhainpaaLOa
import Derived.Test.YtjpfbkhjhainpaaLOb
import Derived.Test.YtjpfbkhjhainpaaLOc
set_option linter.unusedVariables false
