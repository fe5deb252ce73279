/-
  What a round is told by Px abides the loop's own doing: readings of memory.
-/
import Derived.Test.YtblpmnipapimcaaTaBase
import Derived.Test.YtblpmnipapimcaaRangeP
set_option linter.unusedVariables false
namespace Go.Proofs.Ytblpmnipapimcaa
open Go.RowKit

theorem Reads.put_other {W : World} {B size n l : Nat} {A : Option Addr} {xs : List Value} {o o' : Obj} (h : Reads W B size A n xs) (hl : W.heap[l]? = some o) (ho : o.isCells = false) : Reads (W.putObj l o') B size A n xs := by
  refine ⟨h.1, fun hn => ?_⟩
  obtain ⟨ad, e, hb, hc⟩ := h.2 hn
  exact ⟨ad, e, hb, fun j u hu => cell_kept (hc j u hu) (grownBy_putObj' W l o') (fun r e => by cases e; exact ⟨_, hl, ho⟩)⟩
theorem ObR.put_other {W : World} {L l : Nat} {A : Option Addr} {n c : Nat} {ws : List Int} {B : Option Addr} {m d : Nat} {rs : List Int} {C : Option Addr} {p q : Nat} {is : List Int} {o o' : Obj} (h : ObR W L A n c ws B m d rs C p q is) (hl : W.heap[l]? = some o) (ho : o.isCells = false) : ObR (W.putObj l o') L A n c ws B m d rs C p q is :=
  ⟨h.wr.put_other hl ho, h.rr.put_other hl ho, h.ir.put_other hl ho, h.wc, h.rc, h.ic⟩
/-- A call that has made memory alone keeps what is no cells. -/
theorem others_below {W W' : World} (h : Below W.heap.size W W') : KeepsOthers W W' := by
  refine KeepsOthers.of_grownBy (row := none) ?_ (fun j o e => by cases e)
  exact ⟨h.os, h.tape, h.output, h.size, fun k hk _ => h.block k hk⟩

end Go.Proofs.Ytblpmnipapimcaa
