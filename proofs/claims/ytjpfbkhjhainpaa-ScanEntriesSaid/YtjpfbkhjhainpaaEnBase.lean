/-
  The merged texts that a layer stands on.
-/
import Derived.Test.YtjpfbkhjhainpaaLDa
import Derived.Test.YtjpfbkhjhainpaaLDb
import Derived.Test.YtjpfbkhjhainpaaLDc
import Derived.Test.YtjpfbkhjhainpaaLDd
import Derived.Test.YtjpfbkhjhainpaaLEn
set_option linter.unusedVariables false
