/-
  LAYER 17: Places: its contract.
-/
import Derived.Test.YtjpfbkhjhainpaaGreatScWh
set_option linter.unusedVariables false
set_option maxRecDepth 100000
set_option linter.unusedSimpArgs false
namespace Go.Proofs.YtjpfbkhjhainpaaGreat
open Go.RowKit Go.Shelf
attribute [local go_sem] Oper.semAt_some

theorem box_same {W W' : World} {B : Nat} {t : TypeId} {v v2 : Value} {row : Option Nat} (hv : Boxed W B t v) (hg : W.grownBy W' row) (hrow : ∀ r, row = some r → ∃ o : Obj, W.heap[r]? = some o ∧ o.isCells = false) (h2 : Boxed W' B t v2) : v2 = v := by
  have := hv.kept hg (fun e => by
    obtain ⟨o, ho, hc⟩ := hrow B e.symm
    rw [show W.heap[B]? = _ from hv] at ho; cases ho; cases hc)
  have h5 : some (Obj.cells #[v2] t (0, 0)) = some (Obj.cells #[v] t (0, 0)) := (show W'.heap[B]? = _ from h2).symm.trans this
  simp at h5
  exact h5
end Go.Proofs.YtjpfbkhjhainpaaGreat
