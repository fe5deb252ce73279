/-
  LAYER 8: all that a disk stands on, in one place: the contracts of files and of directories, the program's and the document's.
-/
import Derived.Test.YtclglbddibjenaaGreatGrA
import Derived.Test.YtclglbddibjenaaGreatGrS
import Derived.Test.YtclglbddibjenaaGreatGrB
import Derived.Test.YtclglbddibjenaaGreatGrF
import Derived.Test.YtclglbddibjenaaGreatGrR
import Derived.Test.YtclglbddibjenaaGreatGrC
import Derived.Test.YtclglbddibjenaaGreatGrD
import Derived.Test.YtclglbddibjenaaGreatGrE
import Derived.Test.YtclglbddibjenaaGreatGrV
set_option linter.unusedVariables false
namespace Go.Proofs.YtclglbddibjenaaGreat

theorem vdBase : True := trivial

end Go.Proofs.YtclglbddibjenaaGreat
