import Derived.Test.YtgcmbgniaffdlaaGreatLDa
import Derived.Test.YtgcmbgniaffdlaaGreatLIu
set_option linter.unusedVariables false
set_option maxRecDepth 100000
set_option linter.unusedSimpArgs false
namespace Go.Proofs.YtgcmbgniaffdlaaGreat
open Go.RowKit Go.Shelf
attribute [local go_sem] Oper.semAt_some
section
variable {base p : Nat} {S : Nat -> Prop} {i k d f h : Int} {m : IM} {bv sv : Value} {l : List GO}
end
theorem nums_inj {a b : ByteArray} (h : nums a = nums b) : a = b := by rw [<- str_nums a, <- str_nums b, h]
attribute [local go_sem] Oper.semAt_some
section
variable {base p : Nat} {S : Nat -> Prop} {i k d f h : Int} {m : IM} {bv sv : Value} {l : List GO}
end
def insD (R : List DR) (zs : List Int) (a : Nat) : List DR := match findD R zs with
  | some _ => R
  | none => R ++ [⟨zs, a, []⟩]
theorem findD_ins {R : List DR} {zs : List Int} {a : Nat} (h : findD R zs = none) : findD (R ++ [⟨zs, a, []⟩]) zs = some a := by
 unfold findD at h ⊢
 rw [Option.map_eq_none_iff] at h
 rw [List.find?_append, h]
 simp
section
variable {w : World} {base : Nat} {S : Nat -> Prop} {p lim : Nat} {hI hM k d f : Int} {R : List DR} {tl cnt : Nat} {l : List GO} {b : List Int}
end
section
variable {H : Type} {enc : TypeId × Value -> H} {w : World}
end
end Go.Proofs.YtgcmbgniaffdlaaGreat
