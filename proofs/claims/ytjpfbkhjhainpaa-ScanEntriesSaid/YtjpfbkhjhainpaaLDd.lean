/-
  MERGED BY PROGRAM out of the texts DaBack.
-/
import Derived.Test.YtjpfbkhjhainpaaDaBase
/-
  LAYER 12: WHAT Done AND Back OF PACKAGE image DO: contracts.
-/
set_option linter.unusedVariables false
set_option maxRecDepth 100000
set_option linter.unusedSimpArgs false
namespace Go.Proofs.Ytjpfbkhjhainpaa
open Go.RowKit

section
variable {base p : Nat} {S : Nat → Prop} {i k d f h : Int} {m : IM} {bv sv : Value}

theorem zeroW_snoc (b : List Int) (ws : List Nat) (q : Nat) : zeroW b (ws ++ [q]) = splice (zeroW b ws) q (List.replicate 8 0) := by simp [zeroW]
theorem bts_zero : bts 0 8 = List.replicate 8 0 := by decide

end

end Go.Proofs.Ytjpfbkhjhainpaa
