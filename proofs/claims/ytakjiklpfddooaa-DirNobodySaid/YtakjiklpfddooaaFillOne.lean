/-
  A ROW OF ONE STRUCT, MADE BY A SLICE'S LITERAL: the struct's cells. Of no program.
-/
import Derived.Test.YtakjiklpfddooaaCopyBlk
set_option linter.unusedVariables false
set_option linter.unusedSimpArgs false
namespace Go.Proofs.Ytakjiklpfddooaa
open Go.RowKit

theorem new66 (w : World) (t : TypeId) (cs : Array Value) (n : Nat) (h : cs.size = n) : Reads (w.alloc (.cells cs t)) (w.heap.size + 1) n (some ⟨w.heap.size, 0, none⟩) 1 cs.toList := by
  refine ⟨by simp [h], fun _ => ⟨_, rfl, Nat.lt_succ_self _, fun j u hu => ?_⟩⟩
  have h := (Blk.new w t cs).cell j
  have e : (⟨w.heap.size, 0, none⟩ : Addr).add j = ⟨w.heap.size, j, none⟩ := by unfold Addr.add; split <;> simp_all
  rw [e, h]; simpa using hu

theorem newAt (w : World) (t : TypeId) (cs : Array Value) (n g : Nat) (h : cs.size = n) (hg : g = w.heap.size) : Reads (w.alloc (.cells cs t)) (w.heap.size + 1) n (some ⟨g, 0, none⟩) 1 cs.toList := by
  subst hg; exact new66 w t cs n h

theorem foldl_set (l : List Value) : ∀ (k : Nat) (acc : Array Value), k + l.length ≤ acc.size → ((l.zipIdx k).foldl (fun (cs : Array Value) (x : Value × Nat) => cs.setIfInBounds (0 + x.2) x.1) acc).toList = acc.toList.take k ++ l ++ acc.toList.drop (k + l.length) := by
  induction l with
  | nil => intro k acc h; simp
  | cons c r ih =>
    intro k acc h
    rw [List.zipIdx_cons, List.foldl_cons, ih (k + 1) _ (by simp at h ⊢; omega)]
    simp only [Nat.zero_add, Array.toList_setIfInBounds]
    have hl : k < acc.toList.length := by simp at h ⊢; omega
    rw [List.take_set, List.drop_set_of_lt (by omega), List.take_succ_eq_append_getElem hl, List.set_append_right _ _ (by simp; omega)]
    simp only [List.length_take, List.length_cons]
    rw [show k - min k acc.toList.length = 0 by omega]
    simp [show k + (r.length + 1) = k + 1 + r.length by omega]

theorem fill_one (cs zero : Array Value) (n : Nat) (h : cs.size = n) (hz : zero.size = n) : Instr.fill (fun i => some (i * n, n)) zero [(0, .agg cs)] = some cs := by
  have hv : (Value.agg cs).cells = cs := rfl
  have hfold : (Array.foldl (fun (acc : Array Value) (x : Value × Nat) => acc.setIfInBounds (0 * n + x.snd) x.fst) zero cs.zipIdx) = cs := by
    have := foldl_set cs.toList 0 zero (by simp; omega)
    apply Array.ext'
    rw [← Array.foldl_toList, Array.toList_zipIdx]
    simp only [Nat.zero_mul]
    rw [this]
    simp; omega
  simp [Instr.fill, hv, h, hz]
  rw [← h]
  simpa using hfold

/-- []T{x}, x a struct of n cells. -/
theorem run_slice1 {P : Program} (t e : TypeId) (i : TypeInfo) (z : Value) (n : Nat) (ht : P.underlying t = some (.slice e)) (hi : P.info? e = some i) (hz : i.zero = some z) (hsz : i.size = n) (hzc : z.cells.size = n) (h0 : 0 < n) (h24 : n ≤ 16777216) (cs : Array Value) (hc : cs.size = n) (w : World) :
    (Instr.buildSlice t 1 #[(0, .agg cs)]).run P w = .ok (.slice (some ⟨w.heap.size, 0, none⟩) 1 1) (w.alloc (.cells cs e)) := by
  have hf := fill_one cs ((Array.range (1 * i.size)).map (z.cells[· % z.cells.size]!)) n hc (by simp; omega)
  have hn : ¬ (2 ^ 24 < 1 * i.size) := by omega
  have hn0 : ¬ (1 * i.size = 0) := by omega
  simp only [Instr.buildSlice, Sem.run_bind, run_underlying ht, Result.andThen_ok]
  simp [sizeOf, typeInfo, zeroValue, hi, hz, hsz] at hf hn ⊢
  rw [if_neg (by omega), if_neg (by omega), hf]
  rfl
/-- A struct is made, or a row of one. -/
theorem wp_build_run {P : Program} {o : Oper} {a : Act} {w : World} {K : Act → World → Prop} {Q : Exit → Act → World → Prop} (t : TypeId) (parts : Array (Nat × Operand)) (ho : o.op = .build t parts) (v : Value) (w' : World)
    (hrun : (Instr.build t (parts.map fun (i, x) => (i, a.eval x))).run P w = .ok v w') (h : K (a.put o.dst v) w') : o.wp P a w K Q := by
  unfold Oper.wp execOp
  simp only [ho, hrun, Sem.run_bind, Result.andThen_ok]
  exact h
theorem wpList_build_run {P : Program} {ops : Array Oper} {rest : List Oper} {o : Oper} {a : Act} {w : World} {Q : Exit → Act → World → Prop} (hg : o.guard = none) (t : TypeId) (parts : Array (Nat × Operand)) (ho : o.op = .build t parts) (v : Value) (w' : World)
    (ps : Array (Nat × Value)) (hrun : (Instr.build t ps).run P w = .ok v w') (hp : (parts.map fun (i, x) => (i, a.eval x)) = ps) (h : wpList P ops Q rest (a.put o.dst v) w') : wpList P ops Q (o :: rest) a w :=
  wpList_plain hg fun _ hK => wp_build_run t parts ho v w' (hp ▸ hrun) (hK _ _ h)
theorem wp_slice_run {P : Program} {o : Oper} {a : Act} {w : World} {K : Act → World → Prop} {Q : Exit → Act → World → Prop} (t : TypeId) (n : Nat) (parts : Array (Nat × Operand)) (ho : o.op = .buildSlice t n parts) (v : Value) (w' : World)
    (hrun : (Instr.buildSlice t n (parts.map fun (i, x) => (i, a.eval x))).run P w = .ok v w') (h : K (a.put o.dst v) w') : o.wp P a w K Q := by
  unfold Oper.wp execOp
  simp only [ho, hrun, Sem.run_bind, Result.andThen_ok]
  exact h
theorem wpList_slice_run {P : Program} {ops : Array Oper} {rest : List Oper} {o : Oper} {a : Act} {w : World} {Q : Exit → Act → World → Prop} (hg : o.guard = none) (t : TypeId) (n : Nat) (parts : Array (Nat × Operand)) (ho : o.op = .buildSlice t n parts) (v : Value) (w' : World)
    (ps : Array (Nat × Value)) (hrun : (Instr.buildSlice t n ps).run P w = .ok v w') (hp : (parts.map fun (i, x) => (i, a.eval x)) = ps) (h : wpList P ops Q rest (a.put o.dst v) w') : wpList P ops Q (o :: rest) a w :=
  wpList_plain hg fun _ hK => wp_slice_run t n parts ho v w' (hp ▸ hrun) (hK _ _ h)

/-- An operation of a region, by a law of its own. -/
theorem step_of {P : Program} {ops : Array Oper} {o : Oper} {a : Act} {w : World} {K : Act → World → Prop} {Q : Exit → Act → World → Prop} {E : Prop} (hgd : o.guard = none) (h : Oper.wp P o a w K Q) : if Region.wanted o (yielded ops a.tmps) = true then Oper.wp P o a w K Q else E := by
  rwa [if_pos (by simp [Region.wanted, hgd])]
theorem step_slice_run {P : Program} {ops : Array Oper} {o : Oper} {a : Act} {w : World} {K : Act → World → Prop} {Q : Exit → Act → World → Prop} {E : Prop} (hgd : o.guard = none) (t : TypeId) (n : Nat) (parts : Array (Nat × Operand)) (ho : o.op = .buildSlice t n parts) (v : Value) (w' : World)
    (ps : Array (Nat × Value)) (hrun : (Instr.buildSlice t n ps).run P w = .ok v w') (hp : (parts.map fun (i, x) => (i, a.eval x)) = ps) (h : K (a.put o.dst v) w') : if Region.wanted o (yielded ops a.tmps) = true then Oper.wp P o a w K Q else E :=
  step_of hgd (wp_slice_run t n parts ho v w' (hp ▸ hrun) h)
theorem step_load_row {P : Program} {ops : Array Oper} {o : Oper} {a : Act} {w : World} {K : Act → World → Prop} {Q : Exit → Act → World → Prop} {E : Prop} (hgd : o.guard = none) (ty : TypeId) (x : Operand) (ho : o.op = .load ty x)
    (g : Nat) (hx : a.eval x = .pointer (some ⟨g, 0, none⟩)) (t : TypeId) (cs : Array Value) (d : TypeDesc) (hg : Blk w g t cs)
    (hu : P.underlying ty = some d) (hd : (match d with | .struct _ | .array _ _ => true | _ => false) = true) (hi : (P.info? ty).map (·.size) = some cs.size)
    (h : K (a.put o.dst (.agg cs)) w) : if Region.wanted o (yielded ops a.tmps) = true then Oper.wp P o a w K Q else E :=
  step_of hgd (wp_load_row ty x ho g hx t cs (0, 0) d hg hu hd hi h)

/-- copy into a block that is known whole: that block alone turns. -/
theorem wpList_copy_blk {P : Program} {ops : Array Oper} {rest : List Oper} {o : Oper} {a : Act} {w : World} {Q : Exit → Act → World → Prop} (hgd : o.guard = none) (d s : Operand) (dT sT : TypeId)
    (ho : o.op = .call { callee := .builtin .copy, args := #[d, s], argTypes := #[dT, sT] }) (elem : TypeId) (hu : P.underlying dT = some (.slice elem)) (hsz : (P.info? elem).map (·.size) = some 1)
    (dp sp : Option Addr) (dLen dCap sLen sCap : Nat) (hd : a.eval d = .slice dp dLen dCap) (hs : a.eval s = .slice sp sLen sCap)
    (g off q : Nat) (cur : List Value) (t : TypeId) (hg : Blk w g t cur.toArray) (cs : List Value) (hq : cs.length = q) (hn : q = Nat.min sLen dLen)
    (hpos : 0 < q → dp = some ⟨g, off, none⟩ ∧ ∃ ad, sp = some ad ∧ ∀ j v, cs[j]? = some v → w.cell? (ad.add j) = some v)
    (hfit : off + q ≤ cur.length) (h1 : ∀ v ∈ cs, v.oneCell' = true)
    (h : ∀ w', Hid (Blk w' g t (splice cur off cs).toArray) → Chg (fun k => k = g) w w' → wpList P ops Q rest (a.put o.dst (.int .i64 q)) w') : wpList P ops Q (o :: rest) a w :=
  wpList_plain hgd fun K hK => by
    have := step_copy_blk (ops := ops) (K := K) (Q := Q) (E := True) hgd d s dT sT ho elem hu hsz dp sp dLen dCap sLen sCap hd hs g off q cur t hg cs hq hn hpos hfit h1 (fun w' hb hc => hK _ _ (h w' hb hc))
    rwa [if_pos (by simp [Region.wanted, hgd])] at this

end Go.Proofs.Ytakjiklpfddooaa
