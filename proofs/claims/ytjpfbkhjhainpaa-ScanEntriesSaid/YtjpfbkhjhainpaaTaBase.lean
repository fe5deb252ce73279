/-
  The merged texts that a layer stands on.
-/
import Derived.Test.YtjpfbkhjhainpaaLGa
import Derived.Test.YtjpfbkhjhainpaaLIt
import Derived.Test.YtjpfbkhjhainpaaLLe
import Derived.Test.YtjpfbkhjhainpaaLCr
import Derived.Test.YtjpfbkhjhainpaaLMx
import Derived.Test.YtjpfbkhjhainpaaLHd
import Derived.Test.YtjpfbkhjhainpaaLOa
import Derived.Test.YtjpfbkhjhainpaaLOb
import Derived.Test.YtjpfbkhjhainpaaLOc
import Derived.Test.YtjpfbkhjhainpaaLIm
set_option linter.unusedVariables false
