import Derived.Test.YtaeegcohimflbaaGreatEaB
set_option linter.unusedVariables false
set_option maxRecDepth 100000
set_option linter.unusedSimpArgs false
namespace Go.Proofs.YtaeegcohimflbaaGreat
open Go.RowKit Go.Shelf
def tB1 : ByteArray := ⟨#[66, 61, 49]⟩
def tA1 : ByteArray := ⟨#[65, 61, 49]⟩
end Go.Proofs.YtaeegcohimflbaaGreat
