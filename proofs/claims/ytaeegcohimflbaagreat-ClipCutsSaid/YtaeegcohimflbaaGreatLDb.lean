/-
  MERGED BY PROGRAM out of the texts DaVal DaTxt DaRef DaRef2 DaLaw DaState DaAwake.
-/
import Derived.Test.YtaeegcohimflbaaGreatLDa
import Derived.Test.YtaeegcohimflbaaGreatDaBase
import Derived.Test.YtaeegcohimflbaaGreatLIu
import Derived.RangeFuncBox
/-
  LAYER 15: WHAT Values OF PACKAGE data TELLS: the items of a field.
-/
set_option linter.unusedVariables false
set_option maxRecDepth 100000
set_option linter.unusedSimpArgs false
namespace Go.Proofs.YtaeegcohimflbaaGreat
open Go.RowKit Go.Shelf
attribute [local go_sem] Oper.semAt_some

section
variable {base p : Nat} {S : Nat → Prop} {i k d f h : Int} {m : IM} {bv sv : Value} {l : List GO}

end

end Go.Proofs.YtaeegcohimflbaaGreat

/-
  A ROW OF TEXTS THAT A CALL MAKES: layer 4's Put has the words (ItemPut); layer 15's own are in XDaTxtO.
-/
set_option linter.unusedVariables false
namespace Go.Proofs.YtaeegcohimflbaaGreat
end Go.Proofs.YtaeegcohimflbaaGreat

/-
  LAYER 15: the document's rows of items in memory; its Find, Values, Intern: contracts.
-/
set_option linter.unusedVariables false
set_option maxRecDepth 100000
set_option linter.unusedSimpArgs false
namespace Go.Proofs.YtaeegcohimflbaaGreat
open Go.RowKit Go.Shelf

theorem nums_inj {a b : ByteArray} (h : nums a = nums b) : a = b := by rw [← str_nums a, ← str_nums b, h]
end Go.Proofs.YtaeegcohimflbaaGreat

/-
  LAYER 15: a row of the document's rows that a call owns; its Intern: a contract.
-/
set_option linter.unusedVariables false
set_option maxRecDepth 100000
set_option linter.unusedSimpArgs false
namespace Go.Proofs.YtaeegcohimflbaaGreat
open Go.RowKit Go.Shelf

end Go.Proofs.YtaeegcohimflbaaGreat

/-
  LAYER 15: what the statements share: a fresh image; the items of a field, collected.
-/
set_option linter.unusedVariables false
set_option maxRecDepth 100000
set_option linter.unusedSimpArgs false
namespace Go.Proofs.YtaeegcohimflbaaGreat
open Go.RowKit Go.Shelf
attribute [local go_sem] Oper.semAt_some

section
variable {base p : Nat} {S : Nat → Prop} {i k d f h : Int} {m : IM} {bv sv : Value} {l : List GO}

end

end Go.Proofs.YtaeegcohimflbaaGreat

/-
  LAYER 15: a file of data as a statement holds it: Intern, Find and the items of a field; the rows beside it.
-/
set_option linter.unusedVariables false
set_option maxRecDepth 100000
set_option linter.unusedSimpArgs false
namespace Go.Proofs.YtaeegcohimflbaaGreat
open Go.RowKit Go.Shelf

def insD (R : List DR) (zs : List Int) (a : Nat) : List DR := match findD R zs with
  | some _ => R
  | none => R ++ [⟨zs, a, []⟩]
theorem findD_ins {R : List DR} {zs : List Int} {a : Nat} (h : findD R zs = none) : findD (R ++ [⟨zs, a, []⟩]) zs = some a := by
  unfold findD at h ⊢
  rw [Option.map_eq_none_iff] at h
  rw [List.find?_append, h]
  simp
section
variable {w : World} {base : Nat} {S : Nat → Prop} {p lim : Nat} {hI hM k d f : Int} {R : List DR} {tl cnt : Nat} {l : List GO} {b : List Int}

end

/-! ### the rows beside it -/
end Go.Proofs.YtaeegcohimflbaaGreat

/-
  LAYER 15: the example that the statements share.
-/
set_option linter.unusedVariables false
set_option maxRecDepth 100000
set_option linter.unusedSimpArgs false
namespace Go.Proofs.YtaeegcohimflbaaGreat
open Go.RowKit Go.Shelf

section
variable {H : Type} {enc : TypeId × Value → H} {w : World}
end

end Go.Proofs.YtaeegcohimflbaaGreat
