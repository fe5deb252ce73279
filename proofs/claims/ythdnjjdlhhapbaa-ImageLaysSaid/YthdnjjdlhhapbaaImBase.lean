/-
  The merged texts that a layer stands on.
-/
import Derived.Test.YthdnjjdlhhapbaaLGa
import Derived.Test.YthdnjjdlhhapbaaLLe
import Derived.Test.YthdnjjdlhhapbaaLCr
import Derived.Test.YthdnjjdlhhapbaaLHd
import Derived.Test.YthdnjjdlhhapbaaLOa
import Derived.Test.YthdnjjdlhhapbaaLOb
import Derived.Test.YthdnjjdlhhapbaaLOc
set_option linter.unusedVariables false
