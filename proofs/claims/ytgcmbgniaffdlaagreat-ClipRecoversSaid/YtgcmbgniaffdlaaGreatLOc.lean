import Derived.Test.YtgcmbgniaffdlaaGreatLOb
import Derived.Deep.Cut
set_option linter.unusedVariables false
set_option linter.unusedSimpArgs false
set_option maxRecDepth 100000
namespace Go.Proofs.YtgcmbgniaffdlaaGreat
open Go.RowKit
theorem put4 {w7 : World} {R : Nat} {T : TypeId} {a0 a1 a2 a3 z0 z1 z2 z3 : Value} (hR : Blk w7 R T #[z0, z1, z2, z3]) :
 Blk ((((w7.setCell ⟨R, 0, none⟩ a0).setCell ⟨R, 1, none⟩ a1).setCell ⟨R, 2, none⟩ a2).setCell ⟨R, 3, none⟩ a3) R T #[a0, a1, a2, a3] /\
 Chg (fun b => b = R) w7 ((((w7.setCell ⟨R, 0, none⟩ a0).setCell ⟨R, 1, none⟩ a1).setCell ⟨R, 2, none⟩ a2).setCell ⟨R, 3, none⟩ a3) := by
 refine ⟨?_, ?_⟩
 · have h := (((hR.set_ 0 a0).set_ 1 a1).set_ 2 a2).set_ 3 a3
   simpa using h
 · exact ((((Chg.refl (fun b => b = R) w7).setCell (p := ⟨R, 0, none⟩) (.inr rfl) _).setCell (p := ⟨R, 1, none⟩) (.inr rfl) _).setCell (p := ⟨R, 2, none⟩) (.inr rfl) _).setCell (p := ⟨R, 3, none⟩) (.inr rfl) _
end Go.Proofs.YtgcmbgniaffdlaaGreat
