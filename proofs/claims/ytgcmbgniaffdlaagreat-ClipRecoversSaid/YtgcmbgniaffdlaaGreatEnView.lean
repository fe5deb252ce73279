import Derived.Test.YtgcmbgniaffdlaaGreatEaA
set_option linter.unusedVariables false
set_option maxRecDepth 100000
set_option linter.unusedSimpArgs false
namespace Go.Proofs.YtgcmbgniaffdlaaGreat
open Go.RowKit Go.Shelf Go.ChangeShapes Go.WideShapes
theorem recs_view {H : Type} {enc : TypeId × Value -> H} {w : World} {A : Option Addr} {n c : Nat} {d : DataW H} {p : List MemPlace}
 (h : DataW.Trod enc Tryz.prog w 0 (fun _ => true) true 22 (.slice A n c) d p) : ∃ l, InRC w A n c l :=
 view_rcs Tryz.underlying22 Tryz.underlying39 (by kernel_rfl) rfl rfl rfl rfl rfl (by kernel_rfl) (by kernel_rfl) (by kernel_rfl) (by kernel_rfl) (by kernel_rfl) Tryz.underlying27 Tryz.underlying27 Tryz.underlying27 Tryz.underlying27 Tryz.underlying37 Tryz.underlying9 (by kernel_rfl) h
end Go.Proofs.YtgcmbgniaffdlaaGreat
