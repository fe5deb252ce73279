/-
  LAYER 16: what the statements' arguments are.
-/
import Derived.Test.YtjpfbkhjhainpaaGreatEaA
set_option linter.unusedVariables false
set_option maxRecDepth 100000
set_option linter.unusedSimpArgs false
namespace Go.Proofs.YtjpfbkhjhainpaaGreat
open Go.RowKit Go.Shelf Go.ChangeShapes Go.WideShapes

theorem recs_view {H : Type} {enc : TypeId × Value → H} {w : World} {A : Option Addr} {n c : Nat} {d : DataW H} {p : List MemPlace}
    (h : DataW.Trod enc Tryz.prog w 0 (fun _ => true) true 22 (.slice A n c) d p) : ∃ l, InRC w A n c l :=
  view_rcs Tryz.underlying22 Tryz.underlying26 (by kernel_rfl) rfl rfl rfl rfl rfl (by kernel_rfl) (by kernel_rfl) (by kernel_rfl) (by kernel_rfl) (by kernel_rfl) Tryz.underlying23 Tryz.underlying23 Tryz.underlying23 Tryz.underlying23 Tryz.underlying24 Tryz.underlying9 (by kernel_rfl) h

end Go.Proofs.YtjpfbkhjhainpaaGreat
