/-
  MERGED BY PROGRAM out of the texts ObjDecR ObjDecR2 ObjDecR3 ObjDecR4 ObjDecR5.
-/
import Derived.Test.YtjpfbkhjhainpaaGreatLOb
import Derived.Deep.RegionHeld3
import Derived.Deep.Cut
/-
  LAYER 9: THE DOCUMENT'S Decode, where no kind and no size stand, or too small a one: contracts.
-/
set_option linter.unusedVariables false
set_option linter.unusedSimpArgs false
set_option maxRecDepth 100000
namespace Go.Proofs.YtjpfbkhjhainpaaGreat
open Go.RowKit

end Go.Proofs.YtjpfbkhjhainpaaGreat

/-
  LAYER 9: what helps with the document's Decode: a row that is appended to and stored into a field; what its last test says.
-/
set_option linter.unusedVariables false
set_option maxRecDepth 100000
set_option linter.unusedSimpArgs false
namespace Go.Proofs.YtjpfbkhjhainpaaGreat
open Go.RowKit

/-- Four cells of a block, stored anew. -/
theorem put4 {w7 : World} {R : Nat} {T : TypeId} {a0 a1 a2 a3 z0 z1 z2 z3 : Value} (hR : Blk w7 R T #[z0, z1, z2, z3]) :
    Blk ((((w7.setCell ⟨R, 0, none⟩ a0).setCell ⟨R, 1, none⟩ a1).setCell ⟨R, 2, none⟩ a2).setCell ⟨R, 3, none⟩ a3) R T #[a0, a1, a2, a3] ∧
    Chg (fun b => b = R) w7 ((((w7.setCell ⟨R, 0, none⟩ a0).setCell ⟨R, 1, none⟩ a1).setCell ⟨R, 2, none⟩ a2).setCell ⟨R, 3, none⟩ a3) := by
  refine ⟨?_, ?_⟩
  · have h := (((hR.set_ 0 a0).set_ 1 a1).set_ 2 a2).set_ 3 a3
    simpa using h
  · exact ((((Chg.refl (fun b => b = R) w7).setCell (p := ⟨R, 0, none⟩) (.inr rfl) _).setCell (p := ⟨R, 1, none⟩) (.inr rfl) _).setCell (p := ⟨R, 2, none⟩) (.inr rfl) _).setCell (p := ⟨R, 3, none⟩) (.inr rfl) _

end Go.Proofs.YtjpfbkhjhainpaaGreat

/-
  LAYER 9: THE DOCUMENT'S Decode, where it has bytes
-/
set_option linter.unusedVariables false
set_option linter.unusedSimpArgs false
set_option maxRecDepth 100000
namespace Go.Proofs.YtjpfbkhjhainpaaGreat
open Go.RowKit

end Go.Proofs.YtjpfbkhjhainpaaGreat

/-
  LAYER 9: THE DOCUMENT'S Decode, where it has numbers
-/
set_option linter.unusedVariables false
set_option linter.unusedSimpArgs false
set_option maxRecDepth 100000
namespace Go.Proofs.YtjpfbkhjhainpaaGreat
open Go.RowKit

end Go.Proofs.YtjpfbkhjhainpaaGreat

/-
  LAYER 9: THE DOCUMENT'S Decode, all its ways.
-/
set_option linter.unusedVariables false
set_option maxRecDepth 100000
set_option linter.unusedSimpArgs false
namespace Go.Proofs.YtjpfbkhjhainpaaGreat
open Go.RowKit

theorem may_one {k s : Nat} (h : mayB k s = true) : 1 ≤ k := by
  rcases Nat.eq_zero_or_pos k with h0 | h0
  · subst h0
    have e1 : hasI ((0 : Nat) : Int) = false := rfl
    have e2 : mostN ((0 : Nat) : Int) = 0 := rfl
    unfold mayB at h
    rw [e1, e2] at h
    simp at h
    omega
  · exact h0

end Go.Proofs.YtjpfbkhjhainpaaGreat
