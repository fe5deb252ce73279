/-
  WHAT THE PROGRAM SAYS OF ITS ELEMENTS' TYPES: of no function.
-/
import Derived.Test.YtdajjkjpjhpnjaaChecked
import Derived.ProofKit
set_option linter.unusedVariables false
namespace Go.Proofs.Ytdajjkjpjhpnjaa
open Go.RowKit

theorem byteInfo : (Try.prog.info? 5).map (fun i => (i.zero, i.size, i.bytes)) = some (some (.int .u8 0), 1, 1) := by kernel_rfl

end Go.Proofs.Ytdajjkjpjhpnjaa
