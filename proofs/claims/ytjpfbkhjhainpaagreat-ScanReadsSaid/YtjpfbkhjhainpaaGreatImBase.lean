/-
  The merged texts that a layer stands on.
-/
import Derived.Test.YtjpfbkhjhainpaaGreatLGa
import Derived.Test.YtjpfbkhjhainpaaGreatLLe
import Derived.Test.YtjpfbkhjhainpaaGreatLCr
import Derived.Test.YtjpfbkhjhainpaaGreatLHd
import Derived.Test.YtjpfbkhjhainpaaGreatLOa
import Derived.Test.YtjpfbkhjhainpaaGreatLOb
import Derived.Test.YtjpfbkhjhainpaaGreatLOc
set_option linter.unusedVariables false
