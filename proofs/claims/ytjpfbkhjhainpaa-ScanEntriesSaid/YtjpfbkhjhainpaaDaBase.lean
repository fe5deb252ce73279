/-
  The merged texts that a layer stands on.
-/
import Derived.Test.YtjpfbkhjhainpaaLTa
import Derived.Test.YtjpfbkhjhainpaaLCm
import Derived.Test.YtjpfbkhjhainpaaLRf
import Derived.Test.YtjpfbkhjhainpaaLCh
import Derived.Test.YtjpfbkhjhainpaaLCi
import Derived.Test.YtjpfbkhjhainpaaLGm
import Derived.Test.YtjpfbkhjhainpaaLCj
set_option linter.unusedVariables false
