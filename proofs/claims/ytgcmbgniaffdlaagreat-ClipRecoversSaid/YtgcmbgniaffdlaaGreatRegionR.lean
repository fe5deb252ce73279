import Derived.Test.YtgcmbgniaffdlaaGreatLTa
import Derived.OrdersIn
set_option linter.unusedVariables false
namespace Go.Proofs.YtgcmbgniaffdlaaGreat
section
variable {P : Program} {md : Region.Mode} {ops : Array Oper} {Q : Exit -> Act -> World -> Prop} {S : World -> Prop}
def noDefer (ops : Array Oper) : Bool := ops.toList.all fun o => match o.op with
  | .defer _ => false
  | _ => true
theorem noDefer_spec (h : noDefer ops = true) {i : Nat} {o : Oper} (ho : ops[i]? = some o) : ∀ c, o.op ≠ .defer c := fun c e => by
 have hm : o ∈ ops.toList := by simpa using Array.mem_of_getElem? ho
 have h1 := List.all_eq_true.1 h o hm
 rw [e] at h1
 cases h1
theorem not_letsOut (R : Act -> World -> Prop) : ¬ LetsOut (OnNormal R) := fun ⟨_, _, h⟩ => h
end
end Go.Proofs.YtgcmbgniaffdlaaGreat
