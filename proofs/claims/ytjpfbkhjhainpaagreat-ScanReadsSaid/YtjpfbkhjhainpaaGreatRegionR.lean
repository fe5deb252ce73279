/-
  A REGION WHOSE ORDER IS OPEN, INSIDE A ROUND OF A RANGE OVER A FUNCTION: it is walked as one outside of every round (no operation of it defers), so whatever may be taken first there may be so here. Of no program.
-/
import Derived.Test.YtjpfbkhjhainpaaGreatLTa
import Derived.OrdersIn
import Derived.OwnWalkIn
import Derived.RangeFuncCalls
set_option linter.unusedVariables false
namespace Go.Proofs.YtjpfbkhjhainpaaGreat

section
variable {P : Program} {md : Region.Mode} {ops : Array Oper} {Q : Exit → Act → World → Prop} {S : World → Prop}

/-- No operation defers a call. -/
def noDefer (ops : Array Oper) : Bool := ops.toList.all fun o => match o.op with
  | .defer _ => false
  | _ => true
theorem noDefer_spec (h : noDefer ops = true) {i : Nat} {o : Oper} (ho : ops[i]? = some o) : ∀ c, o.op ≠ .defer c := fun c e => by
  have hm : o ∈ ops.toList := by simpa using Array.mem_of_getElem? ho
  have h1 := List.all_eq_true.1 h o hm
  rw [e] at h1
  cases h1

theorem wpAnyIn_of_any {l n : Nat} (hd : noDefer ops = true) (hlo : ¬ LetsOut Q) : ∀ (fuel : Nat) (listed : Array Bool) (a : Act) (w : World), wpAny P md ops Q fuel listed a w → wpAnyIn (Fence.wide.inRound l) n P md ops Q fuel listed a w
  | 0, _, _, _, h => h
  | fuel + 1, listed, a, w, h => ⟨h.1, fun i hi => by
    have h1 := h.2 i hi
    have ih := wpAnyIn_of_any (n := n) (l := l) hd hlo fuel (listed.setIfInBounds i true)
    unfold wpOp at h1
    unfold wpOpIn
    cases ho : ops[i]? with
    | none => simp only [ho] at h1 ⊢; exact ih _ _ h1
    | some o =>
      simp only [ho] at h1 ⊢
      by_cases hw : Region.wanted o (yielded ops a.tmps) = true
      · simp only [hw, if_true] at h1 ⊢
        have h2 := h1.resolve_right (fun e => hlo e.2)
        refine ⟨fun _ _ => trivial, ?_⟩
        rw [Oper.semAt_plain (Fence.wide.inRound l) _ _ (noDefer_spec hd ho)]
        unfold Oper.wp at h2
        generalize (execOp a.eval o).run P w = r at *
        cases r with
        | ok x w' =>
          cases x with
          | value v => exact ih _ _ h2
          | skip => exact ih _ _ h2
          | defer d => exact ih _ _ h2
          | enter f args =>
            refine ⟨fun e => (by cases e), CallsIn.inRound l (callsIn_wide.2 (h2.mono fun e w'' he => ?_))⟩
            cases e with
            | returned v => exact ih _ _ he
            | panicked c => exact he
            | outgrown => exact he
          | row row args =>
            refine ⟨fun e => (by cases e), fun c cs _ => ?_⟩
            obtain ⟨v, w', hr, hs⟩ := h2 c cs
            exact ⟨v, w', ih _ _ hr, stepsIn_wide.2 hs⟩
          | _ => exact h2.elim
        | halt x w' => cases x <;> first | exact h2 | exact h2.elim
      · simp only [hw] at h1 ⊢
        exact ⟨fun _ _ => trivial, ih _ _ h1⟩⟩

theorem not_letsOut (R : Act → World → Prop) : ¬ LetsOut (OnNormal R) := fun ⟨_, _, h⟩ => h
theorem region_round {id l n : Nat} {a : Act} {w : World} {R : Act → World → Prop} (z : Nat) (hm : P.follows .mixedOrders = true) (hd : noDefer ops = true) (hS : S w.drew)
    (h : S w.drew → wpAnyZ P .any ops (OnNormal R) S z ops.size (Array.replicate ops.size false) a w.drew) : (Code.region id ops true).wpIn (Fence.wide.inRound l) n P (OnNormal R) a w :=
  wpIn_region_any hm (wpAnyIn_of_any hd (not_letsOut R) _ _ _ _ (wpAny_of_z _ _ _ _ (h hS)))
end

end Go.Proofs.YtjpfbkhjhainpaaGreat
