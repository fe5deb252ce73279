/-
  The merged texts that a layer stands on.
-/
import Derived.Test.YtjpfbkhjhainpaaGreatLGa
import Derived.Test.YtjpfbkhjhainpaaGreatLIt
import Derived.Test.YtjpfbkhjhainpaaGreatLLe
import Derived.Test.YtjpfbkhjhainpaaGreatLCr
import Derived.Test.YtjpfbkhjhainpaaGreatLMx
import Derived.Test.YtjpfbkhjhainpaaGreatLHd
import Derived.Test.YtjpfbkhjhainpaaGreatLOa
import Derived.Test.YtjpfbkhjhainpaaGreatLOb
import Derived.Test.YtjpfbkhjhainpaaGreatLOc
import Derived.Test.YtjpfbkhjhainpaaGreatLIm
set_option linter.unusedVariables false
