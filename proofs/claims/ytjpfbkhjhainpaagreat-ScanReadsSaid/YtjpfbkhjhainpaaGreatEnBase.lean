/-
  The merged texts that a layer stands on.
-/
import Derived.Test.YtjpfbkhjhainpaaGreatLDa
import Derived.Test.YtjpfbkhjhainpaaGreatLDb
import Derived.Test.YtjpfbkhjhainpaaGreatLDc
import Derived.Test.YtjpfbkhjhainpaaGreatLDd
import Derived.Test.YtjpfbkhjhainpaaGreatLEn
set_option linter.unusedVariables false
