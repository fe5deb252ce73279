import Derived.Test.YtgcmbgniaffdlaaGreatScRows
set_option linter.unusedVariables false
set_option maxRecDepth 100000
set_option linter.unusedSimpArgs false
namespace Go.Proofs.YtgcmbgniaffdlaaGreat
open Go.RowKit Go.Shelf
end Go.Proofs.YtgcmbgniaffdlaaGreat
