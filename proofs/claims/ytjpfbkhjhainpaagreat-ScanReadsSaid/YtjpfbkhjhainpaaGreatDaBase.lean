/-
  The merged texts that a layer stands on.
-/
import Derived.Test.YtjpfbkhjhainpaaGreatLTa
import Derived.Test.YtjpfbkhjhainpaaGreatLCm
import Derived.Test.YtjpfbkhjhainpaaGreatLRf
import Derived.Test.YtjpfbkhjhainpaaGreatLCh
import Derived.Test.YtjpfbkhjhainpaaGreatLCi
import Derived.Test.YtjpfbkhjhainpaaGreatLGm
import Derived.Test.YtjpfbkhjhainpaaGreatLCj
set_option linter.unusedVariables false
