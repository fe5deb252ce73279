import Derived.Test.YtgcmbgniaffdlaaGreatScWh
set_option linter.unusedVariables false
set_option maxRecDepth 100000
set_option linter.unusedSimpArgs false
namespace Go.Proofs.YtgcmbgniaffdlaaGreat
open Go.RowKit Go.Shelf
attribute [local go_sem] Oper.semAt_some
theorem intInfo17 : (Tryz.prog.info? 3).map (fun i => (i.zero, i.size, i.bytes)) = some (some (.int .i64 0), 1, 8) := by kernel_rfl
theorem box_same {W W' : World} {B : Nat} {t : TypeId} {v v2 : Value} {row : Option Nat} (hv : Boxed W B t v) (hg : W.grownBy W' row) (hrow : ∀ r, row = some r -> ∃ o : Obj, W.heap[r]? = some o /\ o.isCells = false) (h2 : Boxed W' B t v2) : v2 = v := by
 have := hv.kept hg (fun e => by
   obtain ⟨o, ho, hc⟩ := hrow B e.symm
   rw [show W.heap[B]? = _ from hv] at ho; cases ho; cases hc)
 have h5 : some (Obj.cells #[v2] t (0, 0)) = some (Obj.cells #[v] t (0, 0)) := (show W'.heap[B]? = _ from h2).symm.trans this
 simp at h5
 exact h5
theorem intOne (x : Int) : ∀ u ∈ [Value.int .i64 x], u.oneCell' = true := fun u hu => by
 rw [List.mem_singleton.1 hu]; rfl
theorem new1At {w : World} {g : Nat} (hg : w.heap.size = g) (t : TypeId) (u : Value) : Reads (w.alloc (.cells #[u] t)) (g + 1) 1 (some ⟨g, 0, none⟩) 1 [u] := by subst hg; exact Reads.new1 w t u
theorem si1 {m : Nat} (h : m <= 1099511627776) : m + 1 <= maxLen := by unfold maxLen; omega
theorem si2 {m : Nat} (h : m <= 1099511627776) : (m + 1) * 8 <= 140737488355328 := by omega
end Go.Proofs.YtgcmbgniaffdlaaGreat
