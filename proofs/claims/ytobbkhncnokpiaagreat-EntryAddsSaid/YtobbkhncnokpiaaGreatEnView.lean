/-
  LAYER 16: what the statements' arguments are.
-/
import Derived.Test.YtobbkhncnokpiaaGreatEnRec
set_option linter.unusedVariables false
set_option maxRecDepth 100000
set_option linter.unusedSimpArgs false
namespace Go.Proofs.YtobbkhncnokpiaaGreat
open Go.RowKit Go.Shelf Go.ChangeShapes Go.WideShapes

theorem rec_view {H : Type} {enc : TypeId × Value → H} {w : World} {r : Reach} {b0 : Nat} {v : Value} {d : DataW H} {p : List MemPlace} (hv : Value.okWide Tryz.prog w r b0 36 v)
    (h : DataW.Trod enc Tryz.prog w 0 (fun _ => true) true 36 v d p) : ∃ x : RC, v = x.v ∧ RCOk w w.heap.size x :=
  view_rc1 Tryz.underlying36 (by kernel_rfl) rfl rfl rfl rfl rfl (by kernel_rfl) (by kernel_rfl) (by kernel_rfl) (by kernel_rfl) (by kernel_rfl) Tryz.underlying33 Tryz.underlying33 Tryz.underlying33 Tryz.underlying33 Tryz.underlying34 Tryz.underlying9 (by kernel_rfl) hv h
theorem recs_view {H : Type} {enc : TypeId × Value → H} {w : World} {A : Option Addr} {n c : Nat} {d : DataW H} {p : List MemPlace}
    (h : DataW.Trod enc Tryz.prog w 0 (fun _ => true) true 22 (.slice A n c) d p) : ∃ l, InRC w A n c l :=
  view_rcs Tryz.underlying22 Tryz.underlying36 (by kernel_rfl) rfl rfl rfl rfl rfl (by kernel_rfl) (by kernel_rfl) (by kernel_rfl) (by kernel_rfl) (by kernel_rfl) Tryz.underlying33 Tryz.underlying33 Tryz.underlying33 Tryz.underlying33 Tryz.underlying34 Tryz.underlying9 (by kernel_rfl) h

end Go.Proofs.YtobbkhncnokpiaaGreat
