/-
  A BODY THAT COLLECTS, in a range whose rounds say which blocks they turn: an append to a boxed row, and what it does to the footprint; a function value that is not nil. Of no program.
-/
import Derived.Test.YtblpmnipapimcaaTabFollowF
import Derived.RangeFuncBox
set_option linter.unusedVariables false
set_option maxRecDepth 100000
set_option linter.unusedSimpArgs false
namespace Go.Proofs.Ytblpmnipapimcaa
open Go.RowKit Go.Shelf
attribute [local go_sem] Oper.semAt_some

theorem own_never {β : Type} {B : Nat} : OwnFrom B (fun (_ : β) (_ : World) => False) := fun s W W' row hs _ _ => hs
theorem own_row {β : Type} (n₀ B C : Nat) (t e : TypeId) (size : Nat) (k : β → Nat) (f : β → List Value) : OwnFrom C (fun (s : β) (W : World) => ∃ v, Boxed W B t v ∧ W.ownsRow n₀ e size v (k s) (f s) ∧ True) := Own.from (holdsRow_own n₀ B t e size k f (fun _ _ => True)) _
theorem run_equal_func_nil {P : Program} (w : World) (d : Nat) (t : TypeId) {a1 a2 : Array TypeId} {a3 : Bool} (f : Fn) (a lb : Array Value) (h : P.underlying t = some (.func a1 a2 a3)) :
    (Op.equalIn (d + 1) t (.func f a lb) .nilFunc).run P w = .ok false w := by
  simp [Op.equalIn, run_underlying h]
/-- 's == nil' of a function value: give it the type's 'underlying'. -/
theorem func_nil {P : Program} {t : TypeId} {a1 a2 : Array TypeId} {a3 : Bool} (h : P.underlying t = some (.func a1 a2 a3)) (w : World) (f : Fn) (a lb : Array Value) : (binOp .eql t (.func f a lb) .nilFunc).run P w = .ok (.bool false) w := by
  simp only [binOp]
  simp [Op.equal, Op.maxDepth, run_equal_func_nil w 9999 _ f a lb h]

theorem wpListIn_append_at {F : Fence} {n : Nat} {P : Program} (w : World) {ops : Array Oper} {rest : List Oper} {o : Oper} {a : Act} {Q : Exit → Act → World → Prop}
    (hg : o.guard = none) (s x : Operand) (t : TypeId) (hop : o.op = Op.call { callee := Callee.builtin Builtin.append, args := #[s, x], argTypes := #[t, t] })
    (base : Nat) (e : TypeId) (i : TypeInfo) (z : Value) (size bytes : Nat) (h1 : P.underlying t = some (.slice e)) (h2 : P.info? e = some i) (h3 : i.zero = some z) (h4 : i.size = size) (h5 : i.bytes = bytes) (h6 : z.cells.size = size) (h7 : 0 < size)
    (v : Value) (k : Nat) (xs : List Value) (hs : a.eval s = v) (hown : w.ownsRow base e size v k xs) (B : Nat) (A : Option Addr) (m c : Nat) (news : List Value) (hx : a.eval x = .slice A m c) (hr : Reads w B size A m news) (h1c : ∀ u ∈ news, u.oneCell' = true) (b1 : k + m ≤ maxLen) (b2 : (k + m) * bytes ≤ 140737488355328) (b3 : base ≤ w.heap.size)
    (hK : ∀ v' w', w'.ownsRow base e size v' (k + m) (xs ++ news) → w.grownBy w' v.ownBlock → (v'.ownBlock = v.ownBlock ∨ v'.ownBlock = some w.heap.size) → wpListIn F n P ops Q rest (a.put o.dst v') w') :
    wpListIn F n P ops Q (o :: rest) a w := by
  refine wpListIn_plain hg fun K hK' => ?_
  obtain ⟨v', w', hrun, r1, r2, r3⟩ := run_append_any (P := P) w base t o.type e i z size bytes h1 h2 h3 h4 h5 h6 h7 v k xs hown B A m c news hr h1c b1 b2 b3
  unfold Oper.wpIn
  refine ⟨?_, ?_⟩
  · simp [Oper.about, hop, resolve, Target.leads, Sem.run_pure]
  · rw [Oper.semAt_plain F _ _ (by rw [hop]; intro c hc'; cases hc')]
    simp [execOp, hop, resolve, invoke, builtin, hs, hx, hrun, Result.andThen]
    exact hK' _ _ (hK v' w' r1 r2 r3)

/-- A box, and the row that it holds. -/
def fpR (B : Nat) (v : Value) : Nat → Prop := fun k => k = B ∨ v.ownBlock = some k
theorem appendedF {W w1 : World} {n₀ B : Nat} {t e : TypeId} {size : Nat} {v v' : Value} {k m : Nat} {xs ys : List Value} {tmp : Obj}
    (hv : Boxed W B t v) (hte : t ≠ e) (hrow : W.ownsRow n₀ e size v k xs) (hown' : w1.ownsRow n₀ e size v' m ys) (hgrow : (W.alloc tmp).grownBy w1 v.ownBlock) (hat : v'.ownBlock = v.ownBlock ∨ v'.ownBlock = some (W.alloc tmp).heap.size) :
    Boxed w1 B t v ∧ Boxed (w1.setCell ⟨B, 0, none⟩ v') B t v' ∧ (w1.setCell ⟨B, 0, none⟩ v').ownsRow n₀ e size v' m ys ∧ GrowF (fpR B v) W (fpR B v') (w1.setCell ⟨B, 0, none⟩ v') := by
  obtain ⟨h1, h2, -, -, -⟩ := Boxed.appended hv hte (own_base hrow (Nat.zero_le _)) (Nat.zero_le _) (Nat.zero_le _) (own_base hown' (Nat.zero_le _)) hgrow
  have h3 : (w1.setCell ⟨B, 0, none⟩ v').ownsRow n₀ e size v' m ys := hown'.kept (grownBy_setCell' w1 B v') (.inr (h1.not_row hte hown').symm)
  have hs := hgrow.size
  have hsa : (W.alloc tmp).heap.size = W.heap.size + 1 := World.size_alloc _ _
  have hs2 : (w1.setCell ⟨B, 0, none⟩ v').heap.size = w1.heap.size := size_set _ _ _
  refine ⟨h1, h2, h3, ⟨hgrow.os, hgrow.tape, hgrow.output, by omega, fun j hj hn => ?_⟩, fun j hj => ?_⟩
  · refine (Below.heap_setCell w1 ⟨B, 0, none⟩ v' j (fun e => hn (.inl e))).trans ?_
    exact (hgrow.block j (by omega) (fun e => hn (.inr e.symm))).trans (Below.heap_alloc _ _ _ hj)
  · rcases hj with rfl | hj
    · exact ⟨.inl (.inl rfl), by have := h1.lt; omega⟩
    · have := (hown'.lt j hj).2
      refine ⟨?_, by omega⟩
      rcases hat with e | e
      · exact .inl (.inr (by rw [← e]; exact hj))
      · rw [e] at hj; injection hj with hj; right; omega

/-- What a caller that collects holds between two rounds. -/
def CollF {α : Type} (B n₀ : Nat) (t e : TypeId) (size : Nat) (f : α → List Value) (w : World) (fq : Nat → Prop) (pre : List α) (W : World) : Prop :=
  ∃ v, fq = fpR B v ∧ Boxed W B t v ∧ W.ownsRow n₀ e size v pre.length (pre.map f).flatten ∧ Below n₀ w W
theorem collF_own {α : Type} (B n₀ C : Nat) (t e : TypeId) (size : Nat) (f : α → List Value) (w : World) (hC : n₀ ≤ C) (hw : n₀ ≤ w.heap.size) (fq : Nat → Prop) : OwnFrom C (CollF B n₀ t e size f w fq) := by
  rintro pre W W' row ⟨v, e1, hv, hr, hb⟩ hg hrow
  obtain ⟨v2, h2, h3, h4⟩ := own_row n₀ B C t e size (fun s : List α => s.length) (fun s => (s.map f).flatten) pre W W' row ⟨v, hv, hr, trivial⟩ hg hrow
  have hvv : v2 = v := by
    have := hv.kept hg (fun e => by
      obtain ⟨-, o, ho, hc⟩ := hrow B e.symm
      rw [show W.heap[B]? = _ from hv] at ho; cases ho; cases hc)
    have h5 : some (Obj.cells #[v2] t (0, 0)) = some (Obj.cells #[v] t (0, 0)) := (show W'.heap[B]? = _ from h2).symm.trans this
    simp at h5
    exact h5
  subst hvv
  exact ⟨v2, e1, h2, h3, hb.grown hg (by have := hb.size; omega) (fun k e => by have := (hrow k e).1; omega)⟩

end Go.Proofs.Ytblpmnipapimcaa
