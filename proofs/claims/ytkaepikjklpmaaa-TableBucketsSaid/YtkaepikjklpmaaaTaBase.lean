/-
  The merged texts that a layer stands on.
-/
import Derived.Test.YtkaepikjklpmaaaLGa
import Derived.Test.YtkaepikjklpmaaaLLe
import Derived.Test.YtkaepikjklpmaaaLCr
import Derived.Test.YtkaepikjklpmaaaLMx
import Derived.Test.YtkaepikjklpmaaaLHd
import Derived.Test.YtkaepikjklpmaaaLOa
import Derived.Test.YtkaepikjklpmaaaLOb
import Derived.Test.YtkaepikjklpmaaaLOc
import Derived.Test.YtkaepikjklpmaaaLIm
set_option linter.unusedVariables false
