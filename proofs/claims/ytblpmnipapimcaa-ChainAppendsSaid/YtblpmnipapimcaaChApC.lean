/-
  LAYER 14: ChainAppends' code by its parts, and the frame of its rounds. (genap.py wrote it.)
-/
import Derived.Test.YtblpmnipapimcaaChRef
set_option linter.unusedVariables false
set_option maxRecDepth 100000
set_option linter.unusedSimpArgs false
namespace Go.Proofs.Ytblpmnipapimcaa
open Go.RowKit Go.Shelf

def cL : Code → Code
  | .seq a _ => a
  | c => c
def cR : Code → Code
  | .seq _ b => b
  | c => c
def cB : Code → Code
  | .block _ c => c
  | c => c
def cLp : Code → Code
  | .loop c => c
  | c => c
/-- A round of ChainAppends, and what is left of it from its Append on; what is behind the loop. -/
noncomputable def apBody : Code := (Try.f3.body).getD .skip
noncomputable def apLoop : Code := cR (cR (cR (cR (cR apBody))))
noncomputable def apRound : Code := cB (cL (cR (cLp (cB (cR (cL apLoop))))))
noncomputable def apTail : Code := cR (cR (cR apRound))
abbrev apF (b off n c : Nat) (V1 : Value) (lim p ga gl i t tl : Nat) (Y X : Nat → Value) : Array Value := #[.slice (some ⟨b, off, none⟩) n c, V1, .int .u16 lim, Y 3, Y 4, Y 5, X 6, .pointer (some ⟨p, 0, none⟩), .slice (some ⟨ga, 0, none⟩) 2 2, .slice (some ⟨gl, 0, none⟩) 2 2, .int .i64 i, .int .i64 t, .int .i64 tl, X 13, X 14, Y 15, Y 16, Y 17, Y 18, Y 19, Y 20, Y 21, Y 22, Y 23, Y 24, Y 25, Y 26, Y 27, Y 28, X 29, X 30, X 31, X 32, X 33, X 34, X 35, X 36, X 37, X 38, X 39, X 40, X 41, X 42, X 43, X 44, X 45, X 46, X 47, X 48, X 49, X 50, X 51, X 52, X 53, X 54, X 55, X 56, X 57, X 58, X 59, X 60, X 61, X 62, X 63, X 64, X 65, X 66, X 67, X 68, X 69, X 70, X 71, X 72, X 73, X 74, X 75, X 76, X 77, X 78, X 79, X 80, X 81, X 82, X 83, X 84, X 85, X 86, X 87, X 88, X 89, X 90, X 91, X 92, X 93, X 94, X 95, X 96, X 97, X 98, X 99, X 100, X 101, X 102, X 103, X 104, X 105, X 106, X 107, X 108, Y 109, Y 110, Y 111, Y 112, Y 113, Y 114, Y 115, Y 116, Y 117, Y 118, Y 119, Y 120, Y 121, Y 122, Y 123, Y 124, Y 125, Y 126, Y 127, Y 128, Y 129, Y 130, Y 131, Y 132, Y 133, Y 134, Y 135, Y 136, Y 137, Y 138, Y 139, Y 140, Y 141, Y 142, Y 143, Y 144, Y 145, Y 146, Y 147, Y 148, Y 149, Y 150, Y 151, Y 152, Y 153, Y 154, Y 155, Y 156, Y 157, Y 158, Y 159, Y 160, Y 161, Y 162, Y 163, Y 164, Y 165, Y 166, Y 167, Y 168, Y 169, Y 170, Y 171, Y 172, Y 173, Y 174, Y 175, Y 176, Y 177, Y 178, Y 179, Y 180, Y 181, Y 182, Y 183, Y 184, Y 185]
theorem use_X {R : (Nat → Value) → Array Value} {K : Act → World → Prop} {W : World} (h : ∀ X, K { tmps := R X, defers := [] } W) {arr : Array Value} (e : arr = R (fun j => arr.getD j undef)) : K { tmps := arr, defers := [] } W := by rw [e]; exact h _

end Go.Proofs.Ytblpmnipapimcaa
