/-
  MERGED BY PROGRAM out of the texts Frame Zeros Region FillOne Grow Pile Acts4 Acts8.
-/
import Derived.Test.YtclglbddibjenaaGreatGrA
import Derived.ProofKit
import Derived.OpenShut
import Derived.ChangeOld
import Derived.Deep.Slices
import Derived.Deep.Fields
import Derived.Lib.AppendZerosOnto
import Derived.RegionTactic
import Derived.Deep.Grids

/-
  HOW ARGUMENTS ARE OPENED: a slice of numbers that came in reads as a list; bounds of numbers. Of no program.
-/
set_option linter.unusedVariables false
namespace Go.Proofs.YtclglbddibjenaaGreat
open Go.RowKit Go.ChangeShapes Go.WideShapes Go.Deep

/-- What a walk is told of a slice of numbers that came in. -/
structure InInts (w : World) (k : IntKind) (A : Option Addr) (len cap : Nat) (zs : List Int) : Prop where
  reads : Reads w w.heap.size 1 A len (cellsOf k zs)
  le : len ≤ cap
  cap : cap ≤ 9223372036854775807
  wf : ∀ z ∈ zs, (Lit.int k z).wf = true

section
variable {H : Type} {enc : TypeId × Value → H} {P : Program} {w : World}
theorem view_cells {t e : TypeId} {k : IntKind} {fuel : Nat} {cs : List Value} {x : DataW H × List MemPlace} (ht : P.underlying t = some (.slice e)) (he : P.underlying e = some (.int k)) (hc : P.cellsOf e = 1)
    (h : DataW.trod enc P w 0 (fun _ => true) true fuel t cs = some x) : ∃ A len cap zs, cs = [.slice A len cap] ∧ InInts w k A len cap zs := by
  rcases open_ints ht he hc h with ⟨hcs, _⟩ | ⟨a, len, cap, zs, hcs, _, hl, hm, hz, _, hcell, hwz⟩
  · exact ⟨none, 0, 0, [], hcs, Reads.none_, Nat.le_refl _, by omega, fun z hz => by cases hz⟩
  · have hz' : zs.length = cap := by simpa using hz
    refine ⟨some a, len, cap, zs.take len, hcs, ⟨?_, fun hn => ⟨a, rfl, ?_, ?_⟩⟩, hl, ?_, fun z hz => hwz z (List.mem_of_mem_take hz)⟩
    · rw [cellsOf_length, List.length_take, Nat.mul_one]; omega
    · exact block_of_add a 0 ▸ World.block_lt_of_cell? w _ (hcell 0 (by omega))
    · intro j u hu
      have hj : j < (zs.take len).length := by
        rcases Nat.lt_or_ge j (zs.take len).length with h | h
        · exact h
        · rw [List.getElem?_eq_none (by rw [cellsOf_length]; exact h)] at hu
          cases hu
      have hj2 : j < len := by rw [List.length_take] at hj; omega
      rw [cellsOf_get hj] at hu
      injection hu with hu
      subst hu
      rw [hcell j (by omega)]
      congr 2
      simp [List.getD_eq_getElem?_getD, hj2]
    · unfold maxLen at hm; omega

theorem view_ints {t e : TypeId} {k : IntKind} {A : Option Addr} {len cap : Nat} {d : DataW H} {p : List MemPlace} (ht : P.underlying t = some (.slice e)) (he : P.underlying e = some (.int k)) (hc : P.cellsOf e = 1)
    (h : DataW.Trod enc P w 0 (fun _ => true) true t (.slice A len cap) d p) : ∃ zs, InInts w k A len cap zs := by
  obtain ⟨fuel, hf⟩ := h
  obtain ⟨A', len', cap', zs, hcs, hi⟩ := view_cells ht he hc hf
  simp [Value.cells] at hcs
  obtain ⟨rfl, rfl, rfl⟩ := hcs
  exact ⟨zs, hi⟩
end

theorem wf_u8_bd {n : Int} (h : (Lit.int .u8 n).wf = true) : 0 ≤ n ∧ n < 256 := by have := bounds_u8 h; omega
theorem wf_u64_bd {n : Int} (h : (Lit.int .u64 n).wf = true) : 0 ≤ n ∧ n < 18446744073709551616 := by have := bounds_u64 h; omega

end Go.Proofs.YtclglbddibjenaaGreat

/-
  append(row, make([]T, k)...) ONTO A ROW OF THE CALL'S OWN, k AT LEAST ONE, one cell an element: what it held, and k zero values. Of no program.
-/
set_option linter.unusedVariables false
namespace Go.Proofs.YtclglbddibjenaaGreat
open Go.RowKit

theorem zeroCells_one (z : Value) (hz : z.cells = #[z]) (n : Nat) : Builtin.zeroCells z.cells n = (List.replicate n z).toArray := by
  apply Array.ext_getElem?
  intro j
  rw [hz]
  by_cases hj : j < n
  · simp [Builtin.zeroCells, hj, Nat.mod_one]
  · simp [Builtin.zeroCells, hj]

section
variable {P : Program} (w : World)
theorem run_append_zeros_own (base : Nat) (t tn ty e : TypeId) (i : TypeInfo) (z : Value) (kq kn : IntKind) (ht : P.underlying t = some (.slice e)) (htn : P.underlying tn = some (.int kn)) (hi : P.info? e = some i) (hz : i.zero = some z)
    (hsize : i.size = 1) (hby : i.bytes = 1) (hzc : z.cells = #[z]) (hz1 : z.oneCell' = true)
    (v : Value) (n : Nat) (xs : List Value) (hown : w.ownsRow base e 1 v n xs) (k : Nat) (hk : 0 < k) (h63 : n + k ≤ 140737488355328) (hbase : base ≤ w.heap.size) :
    ∃ v' w', (Builtin.append_ #[t, tn] ty #[v, .int kq k]).run P w = .ok v' w' ∧ w'.ownsRow base e 1 v' (n + k) (xs ++ List.replicate k z) ∧ w.grownBy w' v.ownBlock ∧
      (v'.ownBlock = v.ownBlock ∨ v'.ownBlock = some w.heap.size) := by
  have hlen : (xs ++ List.replicate k z).length = (n + k) * 1 := by rw [List.length_append, hown.1, List.length_replicate]; omega
  have grown : ∀ (old : Nat), old < n + k → ∀ (row : Option Nat),
      (w.drew.alloc (.cells (xs.toArray ++ Builtin.zeroCells z.cells k ++ Builtin.zeroCells z.cells (grownCap w (n + k) old e - (n + k))) e)).ownsRow base e 1
        (.slice (some ⟨w.heap.size, 0, none⟩) (n + k) (grownCap w (n + k) old e)) (n + k) (xs ++ List.replicate k z) ∧
      w.grownBy (w.drew.alloc (.cells (xs.toArray ++ Builtin.zeroCells z.cells k ++ Builtin.zeroCells z.cells (grownCap w (n + k) old e - (n + k))) e)) row := by
    intro old ho row
    have hge := grownCap_ge w (n + k) old e
    have hcm : grownCap w (n + k) old e ≤ maxLen := grownCap_le_maxLen w (n + k) old e (by unfold maxLen; omega)
    refine ⟨⟨hlen, .inr ⟨w.heap.size, _, _, rfl, hbase, heap_alloc_new w.drew _, hge, hcm, ?_, ?_⟩⟩, ⟨rfl, rfl, rfl, by simp, fun j hj _ => heap_alloc_old w.drew _ hj⟩⟩
    · simp only [Array.size_append, List.size_toArray, size_zeroCells, hzc, hown.1]
      simp
      omega
    · simp only [Array.toList_append, List.append_assoc, zeroCells_one z hzc]
      rw [← List.append_assoc, ← hlen]
      exact List.take_left
  rcases hown.2 with ⟨rfl, rfl⟩ | ⟨g, cap, cur, rfl, hbg, hg, hnc, hcm, hcs, htake⟩
  · have hx : xs = [] := List.eq_nil_of_length_eq_zero (by simpa using hown.1)
    subst hx
    have hr := Lib.run_append_nil_zeros (P := P) w t tn ty e i z kq kn ht htn hi hz k hk (by omega) (by omega) (by rw [hby]; omega)
    have hgr := grown 0 (by omega) (Value.ownBlock (.slice none 0 0))
    simp only [Nat.zero_add, List.nil_append, Array.empty_append] at hgr ⊢
    exact ⟨_, _, hr, hgr.1, hgr.2, .inr rfl⟩
  · by_cases hroom : n + k ≤ cap
    · have hst := run_storeCells_at P g (n * 1) e (List.replicate k z) 0 cur w hg (by simp; omega) (fun v hv => by rw [List.eq_of_mem_replicate hv]; exact hz1)
      simp only [Nat.add_zero] at hst
      have hk0 : k ≠ 0 := by omega
      have hw : IntKind.i64.wrap (k : Int) = k := by rw [IntKind.wrap_i64]; omega
      have hneg : ¬ ((k : Int) < 0) := by omega
      have h48i : ¬ (281474976710656 < (k : Int)) := by omega
      have hr : (Builtin.append_ #[t, tn] ty #[.slice (some ⟨g, 0, none⟩) n cap, .int kq k]).run P w =
          .ok (.slice (some ⟨g, 0, none⟩) (n + k) cap) (w.setRow g (cur.toList.take (n * 1) ++ List.replicate k z ++ cur.toList.drop (n * 1 + (List.replicate k z).length)).toArray) := by
        simp only [Nat.mul_one] at hst ⊢
        simp only [List.length_replicate] at hst ⊢
        simp [Builtin.append_, run_underlying ht, run_underlying htn, sizeOf, typeInfo, zeroValue, hi, hz, asInt, asIntOf, hw, hk0, hneg, h48i, hroom, hsize, hby, zeroCells_one z hzc, Addr.add_lit, hst]
      refine ⟨_, _, hr, ⟨hlen, .inr ⟨g, cap, _, rfl, hbg, setRow_heap w g cur _ e _ hg, hroom, hcm, ?_, ?_⟩⟩, ⟨rfl, rfl, rfl, by simp, fun k _ hk => setRow_other w g k _ (fun e => hk (by simp [Value.ownBlock, e]))⟩, .inl rfl⟩
      · simp only [List.size_toArray, List.length_append, List.length_take, List.length_drop, Array.length_toList, List.length_replicate]
        omega
      · rw [htake, ← hlen]
        exact List.take_left
    · have hold : (Builtin.firstCells i.size n (.slice (some ⟨g, 0, none⟩) n cap)).run P w.drew = .ok xs.toArray w.drew :=
        run_firstCells_some (P := P) w.drew i.size n ⟨g, 0, none⟩ cap n xs (by rw [hsize]; exact hown.1) (fun j u hu => hown.cells (g := g) rfl j u hu)
      have hr := Lib.run_append_grow_zeros (P := P) w t tn ty e i z kq kn ht htn hi hz (some ⟨g, 0, none⟩) n cap xs hold k hk (by omega) (by omega) (by omega) (by rw [hby]; omega) (growslice_fits (by omega) (by rw [hby]; omega))
      have hgr := grown cap (by omega) (Value.ownBlock (.slice (some ⟨g, 0, none⟩) n cap))
      exact ⟨_, _, hr, hgr.1, hgr.2, .inr rfl⟩
end

end Go.Proofs.YtclglbddibjenaaGreat

/-
  A REGION WHOSE ORDER IS OPEN, TAKEN OPERATION BY OPERATION: an operation that yields in every world, or that is not wanted, may be taken first. Of no program; over the library's wpAny_take.
-/
set_option linter.unusedVariables false
namespace Go.Proofs.YtclglbddibjenaaGreat

section
variable {P : Program} {md : Region.Mode} {ops : Array Oper} {Q : Exit → Act → World → Prop}

theorem take_yes {i : Nat} {oi : Oper} {v : Value} {fuel : Nat} {listed : Array Bool} {a : Act} {w : World} (hi : ops.toList[i]? = some oi)
    (hs : Region.noSelect ops = true) (hf : Region.free md ops listed i = true) (hr : (Region.ready md ops listed).contains i = true)
    (hQ : ∀ c a w, Q (.panic c) (a.put oi.dst v) w → Q (.panic c) a w) (hw : Region.wanted oi (yielded ops a.tmps) = true) (hy : ∀ w, (execOp a.eval oi).run P w = .ok (.value v) w)
    (h : wpAny P md ops Q fuel (listed.setIfInBounds i true) (a.put oi.dst v) w) : wpAny P md ops Q (fuel + 1) listed a w :=
  wpAny_take (by simpa using hi) hs hf hr hQ (Or.inl ⟨hw, hy⟩) h

theorem take_no {i : Nat} {oi : Oper} {fuel : Nat} {listed : Array Bool} {a : Act} {w : World} (hi : ops.toList[i]? = some oi)
    (hs : Region.noSelect ops = true) (hf : Region.free md ops listed i = true) (hr : (Region.ready md ops listed).contains i = true)
    (hQ : ∀ c a w, Q (.panic c) (a.put oi.dst undef) w → Q (.panic c) a w) (hw : Region.wanted oi (yielded ops a.tmps) = false)
    (h : wpAny P md ops Q fuel (listed.setIfInBounds i true) (a.put oi.dst undef) w) : wpAny P md ops Q (fuel + 1) listed a w :=
  wpAny_take (by simpa using hi) hs hf hr hQ (Or.inr ⟨hw, rfl⟩) h
end

end Go.Proofs.YtclglbddibjenaaGreat

/-
  A ROW OF ONE STRUCT, MADE BY A SLICE'S LITERAL: the struct's cells. Of no program.
-/
set_option linter.unusedVariables false
set_option linter.unusedSimpArgs false
namespace Go.Proofs.YtclglbddibjenaaGreat
open Go.RowKit

theorem new66 (w : World) (t : TypeId) (cs : Array Value) (n : Nat) (h : cs.size = n) : Reads (w.alloc (.cells cs t)) (w.heap.size + 1) n (some ⟨w.heap.size, 0, none⟩) 1 cs.toList := by
  refine ⟨by simp [h], fun _ => ⟨_, rfl, Nat.lt_succ_self _, fun j u hu => ?_⟩⟩
  have h := (Blk.new w t cs).cell j
  have e : (⟨w.heap.size, 0, none⟩ : Addr).add j = ⟨w.heap.size, j, none⟩ := by unfold Addr.add; split <;> simp_all
  rw [e, h]; simpa using hu

theorem newAt (w : World) (t : TypeId) (cs : Array Value) (n g : Nat) (h : cs.size = n) (hg : g = w.heap.size) : Reads (w.alloc (.cells cs t)) (w.heap.size + 1) n (some ⟨g, 0, none⟩) 1 cs.toList := by
  subst hg; exact new66 w t cs n h

theorem foldl_set (l : List Value) : ∀ (k : Nat) (acc : Array Value), k + l.length ≤ acc.size → ((l.zipIdx k).foldl (fun (cs : Array Value) (x : Value × Nat) => cs.setIfInBounds (0 + x.2) x.1) acc).toList = acc.toList.take k ++ l ++ acc.toList.drop (k + l.length) := by
  induction l with
  | nil => intro k acc h; simp
  | cons c r ih =>
    intro k acc h
    rw [List.zipIdx_cons, List.foldl_cons, ih (k + 1) _ (by simp at h ⊢; omega)]
    simp only [Nat.zero_add, Array.toList_setIfInBounds]
    have hl : k < acc.toList.length := by simp at h ⊢; omega
    rw [List.take_set, List.drop_set_of_lt (by omega), List.take_succ_eq_append_getElem hl, List.set_append_right _ _ (by simp; omega)]
    simp only [List.length_take, List.length_cons]
    rw [show k - min k acc.toList.length = 0 by omega]
    simp [show k + (r.length + 1) = k + 1 + r.length by omega]

theorem fill_one (cs zero : Array Value) (n : Nat) (h : cs.size = n) (hz : zero.size = n) : Instr.fill (fun i => some (i * n, n)) zero [(0, .agg cs)] = some cs := by
  have hv : (Value.agg cs).cells = cs := rfl
  have hfold : (Array.foldl (fun (acc : Array Value) (x : Value × Nat) => acc.setIfInBounds (0 * n + x.snd) x.fst) zero cs.zipIdx) = cs := by
    have := foldl_set cs.toList 0 zero (by simp; omega)
    apply Array.ext'
    rw [← Array.foldl_toList, Array.toList_zipIdx]
    simp only [Nat.zero_mul]
    rw [this]
    simp; omega
  simp [Instr.fill, hv, h, hz]
  rw [← h]
  simpa using hfold

/-- []T{x}, x a struct of n cells. -/
theorem run_slice1 {P : Program} (t e : TypeId) (i : TypeInfo) (z : Value) (n : Nat) (ht : P.underlying t = some (.slice e)) (hi : P.info? e = some i) (hz : i.zero = some z) (hsz : i.size = n) (hzc : z.cells.size = n) (h0 : 0 < n) (h24 : n ≤ 16777216) (cs : Array Value) (hc : cs.size = n) (w : World) :
    (Instr.buildSlice t 1 #[(0, .agg cs)]).run P w = .ok (.slice (some ⟨w.heap.size, 0, none⟩) 1 1) (w.alloc (.cells cs e)) := by
  have hf := fill_one cs ((Array.range (1 * i.size)).map (z.cells[· % z.cells.size]!)) n hc (by simp; omega)
  have hn : ¬ (2 ^ 24 < 1 * i.size) := by omega
  have hn0 : ¬ (1 * i.size = 0) := by omega
  simp only [Instr.buildSlice, Sem.run_bind, run_underlying ht, Result.andThen_ok]
  simp [sizeOf, typeInfo, zeroValue, hi, hz, hsz] at hf hn ⊢
  rw [if_neg (by omega), if_neg (by omega), hf]
  rfl
/-- A struct is made, or a row of one. -/
theorem wp_build_run {P : Program} {o : Oper} {a : Act} {w : World} {K : Act → World → Prop} {Q : Exit → Act → World → Prop} (t : TypeId) (parts : Array (Nat × Operand)) (ho : o.op = .build t parts) (v : Value) (w' : World)
    (hrun : (Instr.build t (parts.map fun (i, x) => (i, a.eval x))).run P w = .ok v w') (h : K (a.put o.dst v) w') : o.wp P a w K Q := by
  unfold Oper.wp execOp
  simp only [ho, hrun, Sem.run_bind, Result.andThen_ok]
  exact h
theorem wpList_build_run {P : Program} {ops : Array Oper} {rest : List Oper} {o : Oper} {a : Act} {w : World} {Q : Exit → Act → World → Prop} (hg : o.guard = none) (t : TypeId) (parts : Array (Nat × Operand)) (ho : o.op = .build t parts) (v : Value) (w' : World)
    (ps : Array (Nat × Value)) (hrun : (Instr.build t ps).run P w = .ok v w') (hp : (parts.map fun (i, x) => (i, a.eval x)) = ps) (h : wpList P ops Q rest (a.put o.dst v) w') : wpList P ops Q (o :: rest) a w :=
  wpList_plain hg fun _ hK => wp_build_run t parts ho v w' (hp ▸ hrun) (hK _ _ h)
theorem wp_slice_run {P : Program} {o : Oper} {a : Act} {w : World} {K : Act → World → Prop} {Q : Exit → Act → World → Prop} (t : TypeId) (n : Nat) (parts : Array (Nat × Operand)) (ho : o.op = .buildSlice t n parts) (v : Value) (w' : World)
    (hrun : (Instr.buildSlice t n (parts.map fun (i, x) => (i, a.eval x))).run P w = .ok v w') (h : K (a.put o.dst v) w') : o.wp P a w K Q := by
  unfold Oper.wp execOp
  simp only [ho, hrun, Sem.run_bind, Result.andThen_ok]
  exact h
theorem wpList_slice_run {P : Program} {ops : Array Oper} {rest : List Oper} {o : Oper} {a : Act} {w : World} {Q : Exit → Act → World → Prop} (hg : o.guard = none) (t : TypeId) (n : Nat) (parts : Array (Nat × Operand)) (ho : o.op = .buildSlice t n parts) (v : Value) (w' : World)
    (ps : Array (Nat × Value)) (hrun : (Instr.buildSlice t n ps).run P w = .ok v w') (hp : (parts.map fun (i, x) => (i, a.eval x)) = ps) (h : wpList P ops Q rest (a.put o.dst v) w') : wpList P ops Q (o :: rest) a w :=
  wpList_plain hg fun _ hK => wp_slice_run t n parts ho v w' (hp ▸ hrun) (hK _ _ h)

/-- An operation of a region, by a law of its own. -/
theorem step_of {P : Program} {ops : Array Oper} {o : Oper} {a : Act} {w : World} {K : Act → World → Prop} {Q : Exit → Act → World → Prop} {E : Prop} (hgd : o.guard = none) (h : Oper.wp P o a w K Q) : if Region.wanted o (yielded ops a.tmps) = true then Oper.wp P o a w K Q else E := by
  rwa [if_pos (by simp [Region.wanted, hgd])]
theorem step_slice_run {P : Program} {ops : Array Oper} {o : Oper} {a : Act} {w : World} {K : Act → World → Prop} {Q : Exit → Act → World → Prop} {E : Prop} (hgd : o.guard = none) (t : TypeId) (n : Nat) (parts : Array (Nat × Operand)) (ho : o.op = .buildSlice t n parts) (v : Value) (w' : World)
    (ps : Array (Nat × Value)) (hrun : (Instr.buildSlice t n ps).run P w = .ok v w') (hp : (parts.map fun (i, x) => (i, a.eval x)) = ps) (h : K (a.put o.dst v) w') : if Region.wanted o (yielded ops a.tmps) = true then Oper.wp P o a w K Q else E :=
  step_of hgd (wp_slice_run t n parts ho v w' (hp ▸ hrun) h)
theorem step_load_row {P : Program} {ops : Array Oper} {o : Oper} {a : Act} {w : World} {K : Act → World → Prop} {Q : Exit → Act → World → Prop} {E : Prop} (hgd : o.guard = none) (ty : TypeId) (x : Operand) (ho : o.op = .load ty x)
    (g : Nat) (hx : a.eval x = .pointer (some ⟨g, 0, none⟩)) (t : TypeId) (cs : Array Value) (d : TypeDesc) (hg : Blk w g t cs)
    (hu : P.underlying ty = some d) (hd : (match d with | .struct _ | .array _ _ => true | _ => false) = true) (hi : (P.info? ty).map (·.size) = some cs.size)
    (h : K (a.put o.dst (.agg cs)) w) : if Region.wanted o (yielded ops a.tmps) = true then Oper.wp P o a w K Q else E :=
  step_of hgd (wp_load_row ty x ho g hx t cs (0, 0) d hg hu hd hi h)

/-- copy into a block that is known whole: that block alone turns. -/
theorem wpList_copy_blk {P : Program} {ops : Array Oper} {rest : List Oper} {o : Oper} {a : Act} {w : World} {Q : Exit → Act → World → Prop} (hgd : o.guard = none) (d s : Operand) (dT sT : TypeId)
    (ho : o.op = .call { callee := .builtin .copy, args := #[d, s], argTypes := #[dT, sT] }) (elem : TypeId) (hu : P.underlying dT = some (.slice elem)) (hsz : (P.info? elem).map (·.size) = some 1)
    (dp sp : Option Addr) (dLen dCap sLen sCap : Nat) (hd : a.eval d = .slice dp dLen dCap) (hs : a.eval s = .slice sp sLen sCap)
    (g off q : Nat) (cur : List Value) (t : TypeId) (hg : Blk w g t cur.toArray) (cs : List Value) (hq : cs.length = q) (hn : q = Nat.min sLen dLen)
    (hpos : 0 < q → dp = some ⟨g, off, none⟩ ∧ ∃ ad, sp = some ad ∧ ∀ j v, cs[j]? = some v → w.cell? (ad.add j) = some v)
    (hfit : off + q ≤ cur.length) (h1 : ∀ v ∈ cs, v.oneCell' = true)
    (h : ∀ w', Hid (Blk w' g t (splice cur off cs).toArray) → Chg (fun k => k = g) w w' → wpList P ops Q rest (a.put o.dst (.int .i64 q)) w') : wpList P ops Q (o :: rest) a w :=
  wpList_plain hgd fun K hK => by
    have := step_copy_blk (ops := ops) (K := K) (Q := Q) (E := True) hgd d s dT sT ho elem hu hsz dp sp dLen dCap sLen sCap hd hs g off q cur t hg cs hq hn hpos hfit h1 (fun w' hb hc => hK _ _ (h w' hb hc))
    rwa [if_pos (by simp [Region.wanted, hgd])] at this

end Go.Proofs.YtclglbddibjenaaGreat

/-
  ROWS AND BLOCKS THAT LIE APART; THE BLOCKS OF A THING, AND THOSE THAT HAVE COME SINCE. Of no program.
-/
set_option linter.unusedVariables false
namespace Go.Proofs.YtclglbddibjenaaGreat
open Go.RowKit

/-- Rows of elements of other types lie in other blocks. -/
theorem own_ne {w : World} {b b' : Nat} {e e' : TypeId} {size size' n m : Nat} {u v : Value} {xs ys : List Value} (h : w.ownsRow b e size u n xs) (h' : w.ownsRow b' e' size' v m ys) (hne : e ≠ e') : ∀ g, u.ownBlock = some g → v.ownBlock ≠ some g := by
  intro g hg hg'
  rcases h.2 with ⟨rfl, _⟩ | ⟨g1, c1, cur1, rfl, _, e1, _⟩
  · simp [Value.ownBlock] at hg
  · rcases h'.2 with ⟨rfl, _⟩ | ⟨g2, c2, cur2, rfl, _, e2, _⟩
    · simp [Value.ownBlock] at hg'
    · simp [Value.ownBlock] at hg hg'
      subst hg; subst hg'
      rw [e1] at e2
      injection e2 with e2
      injection e2 with _ e3
      exact absurd e3 hne
theorem blk_one {w : World} {g : Nat} {t t' : TypeId} {cs cs' : Array Value} (h : Blk w g t cs) (h' : Blk w g t' cs') (hne : t ≠ t') : False := Blk.ne_ h h' hne rfl
theorem chg_set (w : World) (q : Addr) (u : Value) : Chg (fun k => k = q.block) w (w.setCell q u) := (Chg.refl (fun k => k = q.block) w).setCell (.inr rfl) u
theorem own_isblk {w : World} {b : Nat} {e : TypeId} {size n : Nat} {v : Value} {ys : List Value} (h : w.ownsRow b e size v n ys) {g : Nat} (hg : v.ownBlock = some g) : ∃ cs, Blk w g e cs := by
  rcases h.2 with ⟨rfl, _⟩ | ⟨g1, c1, cur1, rfl, _, e1, _⟩
  · simp [Value.ownBlock] at hg
  · simp [Value.ownBlock] at hg
    subst hg
    exact ⟨_, e1⟩

/-- The blocks of a thing, and those that have come since. -/
def grow (S : Nat → Prop) (w w' : World) : Nat → Prop := fun k => S k ∨ (w.heap.size ≤ k ∧ k < w'.heap.size)
theorem chg_lt {T : Nat → Prop} {w w' : World} {base : Nat} {S : Nat → Prop} (h : ∀ k, S k → base ≤ k ∧ k < w.heap.size) (hc : Chg T w w') (hb : base ≤ w.heap.size) : ∀ k, grow S w w' k → base ≤ k ∧ k < w'.heap.size := fun k hk => by
  have := hc.size
  rcases hk with hk | ⟨h1, h2⟩
  · have := h k hk; omega
  · omega
theorem size_set (w : World) (q : Addr) (u : Value) : (w.setCell q u).heap.size = w.heap.size := by simp [World.setCell]

/-- A row of the call's own reads. -/
theorem own_reads {w : World} {base : Nat} {e : TypeId} {size n : Nat} {v : Value} {xs : List Value} (h : w.ownsRow base e size v n xs) : ∃ A c, v = .slice A n c ∧ n ≤ c ∧ c ≤ maxLen ∧ Reads w w.heap.size size A n xs := by
  obtain ⟨A, c, rfl, h1, h2⟩ := own_form h
  exact ⟨A, c, rfl, h1, h2, Reads.of_own h⟩
/-- The cells of a slice that reads. -/
theorem Reads.at2 {w : World} {B size n : Nat} {A : Option Addr} {xs : List Value} (h : Reads w B size A n xs) (hs : 0 < size) (hn : 0 < n) :
    ∃ b off, A = some ⟨b, off, none⟩ ∧ b < B ∧ ∀ j u, xs[j]? = some u → w.cell? ⟨b, off + j, none⟩ = some u := by
  obtain ⟨ad, rfl, hb, hc⟩ := h.2 hn
  obtain ⟨b, off, spot⟩ := ad
  have hl : 0 < xs.length := by rw [h.1]; exact Nat.mul_pos hn hs
  have h0 := hc 0 _ (List.getElem?_eq_getElem hl)
  have hsp : spot = none := by simpa [Addr.add] using World.cell?_spot h0
  subst hsp
  refine ⟨b, off, rfl, hb, fun j u hu => ?_⟩
  have := hc j u hu
  have hp : (⟨b, off, none⟩ : Addr).add j = ⟨b, off + j, none⟩ := by unfold Addr.add; split <;> simp_all
  rwa [hp] at this

end Go.Proofs.YtclglbddibjenaaGreat

/-
  MANY THINGS IN MEMORY, each behind a pointer and in a footprint of its own, all apart, all in one: what keeps them; one turns; one more comes. Of no program.
-/
set_option linter.unusedVariables false
namespace Go.Proofs.YtclglbddibjenaaGreat
open Go.RowKit

section
variable {σ : Type}

/-- What is asked of a kind of thing: it stays while nothing of its footprint turns; its footprint lies in the world, from base on; it may be said in a greater one. -/
structure Thing (base : Nat) (Th : World → (Nat → Prop) → Nat → σ → Prop) : Prop where
  keep : ∀ {w w' : World} {S T : Nat → Prop} {p : Nat} {s : σ}, Th w S p s → Chg T w w' → (∀ k, S k → ¬ T k) → Th w' S p s
  foot : ∀ {w : World} {S : Nat → Prop} {p : Nat} {s : σ}, Th w S p s → ∀ k, S k → base ≤ k ∧ k < w.heap.size

/-- Things at ps, in footprints Ss, in the states fs. -/
structure Pile (base : Nat) (Th : World → (Nat → Prop) → Nat → σ → Prop) (w : World) (T : Nat → Prop) (ps : List Nat) (Ss : List (Nat → Prop)) (fs : List σ) : Prop where
  lenP : ps.length = fs.length
  lenS : Ss.length = fs.length
  at_ : ∀ (i p : Nat) (S : Nat → Prop) (f : σ), ps[i]? = some p → Ss[i]? = some S → fs[i]? = some f → Th w S p f
  apart : ∀ (i j : Nat) (S S' : Nat → Prop), Ss[i]? = some S → Ss[j]? = some S' → i ≠ j → ∀ k, S k → ¬ S' k
  inT : ∀ (i : Nat) (S : Nat → Prop), Ss[i]? = some S → ∀ k, S k → T k

variable {base : Nat} {Th : World → (Nat → Prop) → Nat → σ → Prop} {w w' : World} {T U : Nat → Prop} {ps : List Nat} {Ss : List (Nat → Prop)} {fs : List σ}

theorem Pile.nil (w : World) (T : Nat → Prop) : Pile base Th w T [] [] [] := ⟨rfl, rfl, fun i p S f h => by simp at h, fun i j S S' h => by simp at h, fun i S h => by simp at h⟩
theorem Pile.get (h : Pile base Th w T ps Ss fs) {i : Nat} {f : σ} (hf : fs[i]? = some f) : ∃ p S, ps[i]? = some p ∧ Ss[i]? = some S ∧ Th w S p f ∧ ∀ k, S k → T k := by
  have hl := (List.getElem?_eq_some_iff.1 hf).1
  have hpl : i < ps.length := by rw [h.lenP]; exact hl
  have hsl : i < Ss.length := by rw [h.lenS]; exact hl
  have h1 := List.getElem?_eq_getElem hpl
  have h2 := List.getElem?_eq_getElem hsl
  exact ⟨_, _, h1, h2, h.at_ i _ _ f h1 h2 hf, h.inT i _ h2⟩
theorem Pile.keep (hT : Thing base Th) (h : Pile base Th w T ps Ss fs) (hc : Chg U w w') (hU : ∀ k, T k → ¬ U k) : Pile base Th w' T ps Ss fs :=
  ⟨h.lenP, h.lenS, fun i p S f h1 h2 h3 => hT.keep (h.at_ i p S f h1 h2 h3) hc (fun k hk => hU k (h.inT i S h2 k hk)), h.apart, h.inT⟩
theorem Pile.below (hT : Thing base Th) (h : Pile base Th w T ps Ss fs) (hb : Below w.heap.size w w') : Pile base Th w' T ps Ss fs := h.keep hT (Chg.of_below hb (Nat.le_refl _) (fun _ => False)) (fun _ _ h => h)
theorem Pile.mono (h : Pile base Th w T ps Ss fs) (hU : ∀ k, T k → U k) : Pile base Th w U ps Ss fs := ⟨h.lenP, h.lenS, h.at_, h.apart, fun i S h1 k hk => hU k (h.inT i S h1 k hk)⟩
/-- One has turned. -/
theorem Pile.turn (hT : Thing base Th) (h : Pile base Th w T ps Ss fs) {i p : Nat} {S : Nat → Prop} {f : σ} (hp : ps[i]? = some p) (hS : Ss[i]? = some S) (hc : Chg S w w') (hf : Th w' (grow S w w') p f) : Pile base Th w' (grow T w w') ps (Ss.set i (grow S w w')) (fs.set i f) := by
  have hi := (List.getElem?_eq_some_iff.1 hS).1
  have lt : ∀ (j : Nat) (S' : Nat → Prop), Ss[j]? = some S' → ∀ k, S' k → k < w.heap.size := fun j S' hj k hk => by
    have hl := (List.getElem?_eq_some_iff.1 hj).1
    have hpl : j < ps.length := by rw [h.lenP, ← h.lenS]; exact hl
    have hfl : j < fs.length := by rw [← h.lenS]; exact hl
    exact (hT.foot (h.at_ j _ S' _ (List.getElem?_eq_getElem hpl) hj (List.getElem?_eq_getElem hfl)) k hk).2
  refine ⟨by rw [List.length_set]; exact h.lenP, by rw [List.length_set, List.length_set]; exact h.lenS, fun j q S' g hq hS' hg => ?_, fun j l S1 S2 h1 h2 hne k hk hk2 => ?_, fun j S' h1 k hk => ?_⟩
  · rw [List.getElem?_set] at hS' hg
    by_cases e : i = j
    · subst e
      rw [if_pos rfl, if_pos hi] at hS'
      rw [if_pos rfl, if_pos (by rw [← h.lenS]; exact hi)] at hg
      injection hS' with hS'
      injection hg with hg
      subst hS'; subst hg
      rw [hp] at hq
      injection hq with hq
      subst hq
      exact hf
    · rw [if_neg e] at hS' hg
      exact hT.keep (h.at_ j q S' g hq hS' hg) hc (h.apart j i S' S hS' hS (fun e2 => e e2.symm))
  · rw [List.getElem?_set] at h1 h2
    by_cases e1 : i = j
    · by_cases e2 : i = l
      · exact hne (e1.symm.trans e2)
      · rw [if_pos e1, if_pos hi] at h1
        rw [if_neg e2] at h2
        injection h1 with h1
        subst h1
        rcases hk with hk | hk
        · exact h.apart i l S S2 hS h2 e2 k hk hk2
        · have := lt l S2 h2 k hk2; omega
    · rw [if_neg e1] at h1
      by_cases e2 : i = l
      · rw [if_pos e2, if_pos hi] at h2
        injection h2 with h2
        subst h2
        rcases hk2 with hk2 | hk2
        · exact h.apart j i S1 S h1 hS (fun e => e1 e.symm) k hk hk2
        · have := lt j S1 h1 k hk; omega
      · rw [if_neg e2] at h2
        exact h.apart j l S1 S2 h1 h2 hne k hk hk2
  · rw [List.getElem?_set] at h1
    by_cases e : i = j
    · rw [if_pos e, if_pos hi] at h1
      injection h1 with h1
      subst h1
      rcases hk with hk | hk
      · exact .inl (h.inT i S hS k hk)
      · exact .inr hk
    · rw [if_neg e] at h1
      exact .inl (h.inT j S' h1 k hk)
/-- One more has come, in a footprint apart from all. -/
theorem Pile.push (h : Pile base Th w T ps Ss fs) {p : Nat} {S : Nat → Prop} {f : σ} (hf : Th w S p f) (hS : ∀ k, S k → ¬ T k) (hU : ∀ k, T k → U k) (hU2 : ∀ k, S k → U k) : Pile base Th w U (ps ++ [p]) (Ss ++ [S]) (fs ++ [f]) := by
  have key : ∀ {α : Type} {l : List α} {x y : α} {i n : Nat}, l.length = n → (l ++ [x])[i]? = some y → (i < n ∧ l[i]? = some y) ∨ (i = n ∧ x = y) := by
    intro α l x y i n hn hy
    rcases Nat.lt_or_ge i l.length with e | e
    · rw [List.getElem?_append_left e] at hy; exact .inl ⟨by omega, hy⟩
    · rw [List.getElem?_append_right e] at hy
      rcases Nat.eq_zero_or_pos (i - l.length) with z | z
      · rw [z] at hy; simp at hy; exact .inr ⟨by omega, hy⟩
      · rw [List.getElem?_eq_none (by simp; omega)] at hy; cases hy
  refine ⟨by simp [h.lenP], by simp [h.lenS], fun i q S' g h1 h2 h3 => ?_, fun i j S1 S2 h1 h2 hne k hk hk2 => ?_, fun i S' h1 k hk => ?_⟩
  · rcases key h.lenP h1 with ⟨a1, b1⟩ | ⟨a1, b1⟩ <;> rcases key h.lenS h2 with ⟨a2, b2⟩ | ⟨a2, b2⟩ <;> rcases key rfl h3 with ⟨a3, b3⟩ | ⟨a3, b3⟩ <;> first | omega | skip
    · exact h.at_ i q S' g b1 b2 b3
    · subst b1; subst b2; subst b3; exact hf
  · rcases key h.lenS h1 with ⟨a1, b1⟩ | ⟨a1, b1⟩ <;> rcases key h.lenS h2 with ⟨a2, b2⟩ | ⟨a2, b2⟩
    · exact h.apart i j S1 S2 b1 b2 hne k hk hk2
    · subst b2; exact hS k hk2 (h.inT i S1 b1 k hk)
    · subst b1; exact hS k hk (h.inT j S2 b2 k hk2)
    · omega
  · rcases key h.lenS h1 with ⟨a1, b1⟩ | ⟨a1, b1⟩
    · exact hU k (h.inT i S' b1 k hk)
    · subst b1; exact hU2 k hk
end

end Go.Proofs.YtclglbddibjenaaGreat

/-
  HOW A SLICE OF BOOLS, AND A SLICE OF STRUCTS OF TWO NUMBERS, BYTES AND BOOLS, ARE OPENED: what a walk is told of them. Of no program.
-/
set_option linter.unusedVariables false
namespace Go.Proofs.YtclglbddibjenaaGreat
open Go.RowKit Go.ChangeShapes Go.WideShapes Go.Deep

theorem row_add4 (b off k : Nat) : (⟨b, off, none⟩ : Addr).add k = ⟨b, off + k, none⟩ := by unfold Addr.add; split <;> simp_all

/-- A list of bools, as cells. -/
def cellsB (ks : List Bool) : List Value := ks.map Value.bool
theorem cellsB_length (ks : List Bool) : (cellsB ks).length = ks.length := by simp [cellsB]
theorem cellsB_get {ks : List Bool} {i : Nat} (h : i < ks.length) : (cellsB ks)[i]? = some (.bool (ks.getD i false)) := by
  simp [cellsB, List.getD_eq_getElem?_getD, List.getElem?_eq_getElem h]

/-- What a walk is told of a slice of bools that came in. -/
structure InBools (w : World) (A : Option Addr) (len cap : Nat) (ks : List Bool) : Prop where
  reads : Reads w w.heap.size 1 A len (cellsB ks)
  le : len ≤ cap
  cap : cap ≤ 9223372036854775807
theorem InBools.len {w : World} {A : Option Addr} {len cap : Nat} {ks : List Bool} (h : InBools w A len cap ks) : ks.length = len := by
  have := h.reads.1; rw [cellsB_length] at this; omega
theorem Reads.bools {w : World} {B n : Nat} {A : Option Addr} {ks : List Bool} (h : Reads w B 1 A n (cellsB ks)) (hn : 0 < n) :
    ∃ b off, A = some ⟨b, off, none⟩ ∧ b < B ∧ ∀ i, i < n → w.cell? ⟨b, off + i, none⟩ = some (.bool (ks.getD i false)) := by
  obtain ⟨ad, rfl, hb, hc⟩ := h.2 hn
  have hl : ks.length = n := by have := h.1; rw [cellsB_length] at this; omega
  obtain ⟨b, off, spot⟩ := ad
  have h0 := hc 0 _ (cellsB_get (by omega))
  have hs : spot = none := by simpa [Addr.add] using World.cell?_spot h0
  subst hs
  refine ⟨b, off, rfl, hb, fun i hi => ?_⟩
  have := hc i _ (cellsB_get (by omega))
  rwa [row_add4] at this

structure ActM where
  kind : Int
  at_ : Int
  A : Option Addr
  n : Nat
  c : Nat
  bs : List Int
  K : Option Addr
  m : Nat
  d : Nat
  ks : List Bool

structure ActOk (w : World) (a : ActM) : Prop where
  kind : (Lit.int .i64 a.kind).wf = true
  at_ : (Lit.int .i64 a.at_).wf = true
  bs : InInts w .u8 a.A a.n a.c a.bs
  ks : InBools w a.K a.m a.d a.ks

/-- What a walk is told of a slice of acts that came in. -/
structure InActs (w : World) (A : Option Addr) (len cap : Nat) (l : List ActM) : Prop where
  length : l.length = len
  le : len ≤ cap
  cap : cap ≤ 9223372036854775807
  ok : ∀ a ∈ l, ActOk w a
  cells : 0 < len → ∃ b off, A = some ⟨b, off, none⟩ ∧ b < w.heap.size ∧ ∀ i a, l[i]? = some a →
    w.cell? ⟨b, off + i * 4, none⟩ = some (.int .i64 a.kind) ∧ w.cell? ⟨b, off + (i * 4 + 1), none⟩ = some (.int .i64 a.at_) ∧
    w.cell? ⟨b, off + (i * 4 + 2), none⟩ = some (.slice a.A a.n a.c) ∧ w.cell? ⟨b, off + (i * 4 + 3), none⟩ = some (.slice a.K a.m a.d)

section
variable {H : Type} {enc : TypeId × Value → H} {P : Program} {w : World}
theorem view_bcells {t e : TypeId} {fuel : Nat} {cs : List Value} {x : DataW H × List MemPlace} (ht : P.underlying t = some (.slice e)) (he : P.underlying e = some .bool) (hc : P.cellsOf e = 1)
    (h : DataW.trod enc P w 0 (fun _ => true) true fuel t cs = some x) : ∃ A len cap ks, cs = [.slice A len cap] ∧ InBools w A len cap ks := by
  rcases open_slice1 ht hc h with ⟨hcs, _⟩ | ⟨a, len, cap, m, n, V, D, Pl, hcs, _, hl, hm, hmm, _, hi⟩
  · exact ⟨none, 0, 0, [], hcs, Reads.none_, Nat.le_refl _, by omega⟩
  · have hmc : m = cap := by simpa using hmm
    subst hmc
    have each : ∀ i, ∃ q : Bool, i < m → w.cell? (a.add i) = some (.bool q) := by
      intro i
      by_cases him : i < m
      · obtain ⟨hcl, ht'⟩ := hi i him
        obtain ⟨q, hq, _⟩ := DataW.trod_bool he ht'
        injection hq with hq
        exact ⟨q, fun _ => by rw [hcl, hq]⟩
      · exact ⟨false, fun h => absurd h him⟩
    obtain ⟨f, hf⟩ := Classical.axiomOfChoice each
    refine ⟨some a, len, m, (List.range len).map f, hcs, ⟨?_, fun hn => ⟨a, rfl, ?_, ?_⟩⟩, hl, by unfold maxLen at hm; omega⟩
    · rw [cellsB_length]; simp
    · exact block_of_add a 0 ▸ World.block_lt_of_cell? w _ (hf 0 (by omega))
    · intro j u hu
      have hj : j < len := by
        rcases Nat.lt_or_ge j len with h | h
        · exact h
        · rw [List.getElem?_eq_none (by rw [cellsB_length]; simpa using h)] at hu
          cases hu
      rw [cellsB_get (by simpa using hj)] at hu
      injection hu with hu
      subst hu
      rw [hf j (by omega)]
      simp [List.getD_eq_getElem?_getD, hj]
theorem view_bools {t e : TypeId} {A : Option Addr} {len cap : Nat} {d : DataW H} {p : List MemPlace} (ht : P.underlying t = some (.slice e)) (he : P.underlying e = some .bool) (hc : P.cellsOf e = 1)
    (h : DataW.Trod enc P w 0 (fun _ => true) true t (.slice A len cap) d p) : ∃ ks, InBools w A len cap ks := by
  obtain ⟨fuel, hf⟩ := h
  obtain ⟨A', len', cap', ks, hcs, hi⟩ := view_bcells ht he hc hf
  simp [Value.cells] at hcs
  obtain ⟨rfl, rfl, rfl⟩ := hcs
  exact ⟨ks, hi⟩

theorem view_acts {t e tb eb tk ek : TypeId} {f0 f1 f2 f3 : Field} {A : Option Addr} {len cap : Nat} {d : DataW H} {p : List MemPlace} (ht : P.underlying t = some (.slice e)) (he : P.underlying e = some (.struct #[f0, f1, f2, f3])) (ce : P.cellsOf e = 4)
    (o0 : f0.offset = 0) (o1 : f1.offset = 1) (o2 : f2.offset = 2) (o3 : f3.offset = 3) (c0 : P.cellsOf f0.type = 1) (c1 : P.cellsOf f1.type = 1) (c2 : P.cellsOf f2.type = 1) (c3 : P.cellsOf f3.type = 1)
    (h0 : P.underlying f0.type = some (.int .i64)) (h1 : P.underlying f1.type = some (.int .i64)) (h2 : P.underlying f2.type = some (.slice eb)) (hb : P.underlying eb = some (.int .u8)) (cb : P.cellsOf eb = 1)
    (h3 : P.underlying f3.type = some (.slice ek)) (hk : P.underlying ek = some .bool) (ck : P.cellsOf ek = 1)
    (h : DataW.Trod enc P w 0 (fun _ => true) true t (.slice A len cap) d p) : ∃ l, InActs w A len cap l := by
  obtain ⟨fuel, hf⟩ := h
  rcases open_slice ht hf with ⟨hcs, _⟩ | ⟨a, len', cap', m, n, D, Pl, hcs, _, hl, hm, hmm, _, hi⟩
  · simp [Value.cells] at hcs
    obtain ⟨rfl, rfl, rfl⟩ := hcs
    exact ⟨[], { length := rfl, le := Nat.le_refl _, cap := by omega, ok := fun a ha => (List.not_mem_nil ha).elim, cells := fun h => absurd h (by omega) }⟩
  · simp [Value.cells] at hcs
    obtain ⟨rfl, rfl, rfl⟩ := hcs
    have hmc : m = cap := by simpa using hmm
    subst hmc
    rw [ce] at hi
    have each : ∀ i, ∃ r : ActM, i < m → ActOk w r ∧ w.cell? (a.add (i * 4)) = some (.int .i64 r.kind) ∧ w.cell? (a.add (i * 4 + 1)) = some (.int .i64 r.at_) ∧
        w.cell? (a.add (i * 4 + 2)) = some (.slice r.A r.n r.c) ∧ w.cell? (a.add (i * 4 + 3)) = some (.slice r.K r.m r.d) := by
      intro i
      by_cases him : i < m
      · obtain ⟨cs, hcc, ht'⟩ := hi i him
        obtain ⟨_, hlen, hget⟩ := World.cells?_some hcc
        obtain ⟨xs, n', _, _, _, hxl, hfs⟩ := DataW.trod_struct he ht'
        match cs, hlen with
        | [v0, v1, v2, v3], _ =>
          have g0 := hfs 0 f0 rfl
          have g1 := hfs 1 f1 rfl
          have g2 := hfs 2 f2 rfl
          have g3 := hfs 3 f3 rfl
          match xs, hxl with
          | [y0, y1, y2, y3], _ =>
            rw [o0, c0] at g0
            rw [o1, c1] at g1
            rw [o2, c2] at g2
            rw [o3, c3] at g3
            simp at g0 g1 g2 g3
            obtain ⟨k0, e0, _, w0⟩ := DataW.trod_int h0 g0
            obtain ⟨k1, e1, _, w1⟩ := DataW.trod_int h1 g1
            obtain ⟨A2, l2, p2, z2, e2, i2⟩ := view_cells h2 hb cb g2
            obtain ⟨A3, l3, p3, z3, e3, i3⟩ := view_bcells h3 hk ck g3
            injection e0 with e0
            injection e1 with e1
            injection e2 with e2
            injection e3 with e3
            subst e0; subst e1; subst e2; subst e3
            refine ⟨⟨k0, k1, A2, l2, p2, z2, A3, l3, p3, z3⟩, fun _ => ⟨⟨w0, w1, i2, i3⟩, ?_, ?_, ?_, ?_⟩⟩
            · have := hget 0 (by omega); rwa [add_of_add] at this
            · have := hget 1 (by omega); rwa [add_of_add] at this
            · have := hget 2 (by omega); rwa [add_of_add] at this
            · have := hget 3 (by omega); rwa [add_of_add] at this
      · exact ⟨⟨0, 0, none, 0, 0, [], none, 0, 0, []⟩, fun h => absurd h him⟩
    obtain ⟨f, hfa⟩ := Classical.axiomOfChoice each
    refine ⟨(List.range len).map f, by simp, hl, by unfold maxLen at hm; omega, fun x hx => ?_, fun hn => ?_⟩
    · obtain ⟨i, hi, rfl⟩ := List.mem_map.1 hx
      exact (hfa i (by have := List.mem_range.1 hi; omega)).1
    · obtain ⟨b, off, spot⟩ := a
      have z0 := (hfa 0 (by omega)).2.1
      have hs : spot = none := by simpa [Addr.add] using World.cell?_spot z0
      subst hs
      refine ⟨b, off, rfl, ?_, fun i r hr => ?_⟩
      · rw [row_add4] at z0
        exact World.block_lt_of_cell? w _ z0
      · have hil : i < len := by
          rcases Nat.lt_or_ge i len with h | h
          · exact h
          · rw [List.getElem?_eq_none (by simpa using h)] at hr; cases hr
        simp [hil] at hr
        subst hr
        have := (hfa i (by omega)).2
        rwa [row_add4, row_add4, row_add4, row_add4] at this
end

end Go.Proofs.YtclglbddibjenaaGreat

/-
  HOW A SLICE OF STRUCTS OF A NUMBER, TWO TEXTS, A NUMBER, BYTES AND BOOLS IS OPENED, and one such struct by value: what a walk is told of it. Of no program.
-/
set_option linter.unusedVariables false
namespace Go.Proofs.YtclglbddibjenaaGreat
open Go.RowKit Go.ChangeShapes Go.WideShapes Go.Deep

structure Act8 where
  kind : Int
  a : ByteArray
  b : ByteArray
  at_ : Int
  A : Option Addr
  n : Nat
  c : Nat
  bs : List Int
  K : Option Addr
  m : Nat
  d : Nat
  ks : List Bool

structure Act8Ok (w : World) (x : Act8) : Prop where
  kind : (Lit.int .i64 x.kind).wf = true
  a : x.a.size ≤ maxLen
  b : x.b.size ≤ maxLen
  at_ : (Lit.int .i64 x.at_).wf = true
  bs : InInts w .u8 x.A x.n x.c x.bs
  ks : InBools w x.K x.m x.d x.ks

/-- What a walk is told of a slice of acts that came in. -/
structure InActs8 (w : World) (A : Option Addr) (len cap : Nat) (l : List Act8) : Prop where
  length : l.length = len
  le : len ≤ cap
  cap : cap ≤ 9223372036854775807
  ok : ∀ x ∈ l, Act8Ok w x
  cells : 0 < len → ∃ b off, A = some ⟨b, off, none⟩ ∧ b < w.heap.size ∧ ∀ i x, l[i]? = some x →
    w.cell? ⟨b, off + i * 6, none⟩ = some (.int .i64 x.kind) ∧ w.cell? ⟨b, off + (i * 6 + 1), none⟩ = some (.string x.a) ∧ w.cell? ⟨b, off + (i * 6 + 2), none⟩ = some (.string x.b) ∧
    w.cell? ⟨b, off + (i * 6 + 3), none⟩ = some (.int .i64 x.at_) ∧ w.cell? ⟨b, off + (i * 6 + 4), none⟩ = some (.slice x.A x.n x.c) ∧ w.cell? ⟨b, off + (i * 6 + 5), none⟩ = some (.slice x.K x.m x.d)

section
variable {H : Type} {enc : TypeId × Value → H} {P : Program} {w : World}

/-- The fields of one act. -/
theorem act8_fields {e ek eb : TypeId} {f0 f1 f2 f3 f4 f5 : Field} {fuel : Nat} {v0 v1 v2 v3 v4 v5 : Value} {x : DataW H × List MemPlace} (he : P.underlying e = some (.struct #[f0, f1, f2, f3, f4, f5]))
    (o0 : f0.offset = 0) (o1 : f1.offset = 1) (o2 : f2.offset = 2) (o3 : f3.offset = 3) (o4 : f4.offset = 4) (o5 : f5.offset = 5) (c0 : P.cellsOf f0.type = 1) (c1 : P.cellsOf f1.type = 1) (c2 : P.cellsOf f2.type = 1) (c3 : P.cellsOf f3.type = 1) (c4 : P.cellsOf f4.type = 1) (c5 : P.cellsOf f5.type = 1)
    (h0 : P.underlying f0.type = some (.int .i64)) (h1 : P.underlying f1.type = some .string) (h2 : P.underlying f2.type = some .string) (h3 : P.underlying f3.type = some (.int .i64))
    (h4 : P.underlying f4.type = some (.slice eb)) (hb : P.underlying eb = some (.int .u8)) (cb : P.cellsOf eb = 1) (h5 : P.underlying f5.type = some (.slice ek)) (hk : P.underlying ek = some .bool) (ck : P.cellsOf ek = 1)
    (hf : DataW.trod enc P w 0 (fun _ => true) true fuel e [v0, v1, v2, v3, v4, v5] = some x) : ∃ a : Act8, Act8Ok w a ∧ v0 = .int .i64 a.kind ∧ v1 = .string a.a ∧ v2 = .string a.b ∧ v3 = .int .i64 a.at_ ∧ v4 = .slice a.A a.n a.c ∧ v5 = .slice a.K a.m a.d := by
  obtain ⟨xs, n', _, _, _, hxl, hfs⟩ := DataW.trod_struct he hf
  have g0 := hfs 0 f0 rfl
  have g1 := hfs 1 f1 rfl
  have g2 := hfs 2 f2 rfl
  have g3 := hfs 3 f3 rfl
  have g4 := hfs 4 f4 rfl
  have g5 := hfs 5 f5 rfl
  match xs, hxl with
  | [y0, y1, y2, y3, y4, y5], _ =>
    rw [o0, c0] at g0
    rw [o1, c1] at g1
    rw [o2, c2] at g2
    rw [o3, c3] at g3
    rw [o4, c4] at g4
    rw [o5, c5] at g5
    simp at g0 g1 g2 g3 g4 g5
    obtain ⟨k0, e0, _, w0⟩ := DataW.trod_int h0 g0
    obtain ⟨k1, e1, _, w1⟩ := DataW.trod_string h1 g1
    obtain ⟨k2, e2, _, w2⟩ := DataW.trod_string h2 g2
    obtain ⟨k3, e3, _, w3⟩ := DataW.trod_int h3 g3
    obtain ⟨A4, l4, p4, z4, e4, i4⟩ := view_cells h4 hb cb g4
    obtain ⟨A5, l5, p5, z5, e5, i5⟩ := view_bcells h5 hk ck g5
    injection e0 with e0
    injection e1 with e1
    injection e2 with e2
    injection e3 with e3
    injection e4 with e4
    injection e5 with e5
    exact ⟨⟨k0, k1, k2, k3, A4, l4, p4, z4, A5, l5, p5, z5⟩, ⟨w0, w1, w2, w3, i4, i5⟩, e0, e1, e2, e3, e4, e5⟩

theorem view_acts8 {t e ek eb : TypeId} {f0 f1 f2 f3 f4 f5 : Field} {A : Option Addr} {len cap : Nat} {d : DataW H} {p : List MemPlace} (ht : P.underlying t = some (.slice e)) (he : P.underlying e = some (.struct #[f0, f1, f2, f3, f4, f5])) (ce : P.cellsOf e = 6)
    (o0 : f0.offset = 0) (o1 : f1.offset = 1) (o2 : f2.offset = 2) (o3 : f3.offset = 3) (o4 : f4.offset = 4) (o5 : f5.offset = 5) (c0 : P.cellsOf f0.type = 1) (c1 : P.cellsOf f1.type = 1) (c2 : P.cellsOf f2.type = 1) (c3 : P.cellsOf f3.type = 1) (c4 : P.cellsOf f4.type = 1) (c5 : P.cellsOf f5.type = 1)
    (h0 : P.underlying f0.type = some (.int .i64)) (h1 : P.underlying f1.type = some .string) (h2 : P.underlying f2.type = some .string) (h3 : P.underlying f3.type = some (.int .i64))
    (h4 : P.underlying f4.type = some (.slice eb)) (hb : P.underlying eb = some (.int .u8)) (cb : P.cellsOf eb = 1) (h5 : P.underlying f5.type = some (.slice ek)) (hk : P.underlying ek = some .bool) (ck : P.cellsOf ek = 1)
    (h : DataW.Trod enc P w 0 (fun _ => true) true t (.slice A len cap) d p) : ∃ l, InActs8 w A len cap l := by
  obtain ⟨fuel, hf⟩ := h
  rcases open_slice ht hf with ⟨hcs, _⟩ | ⟨a, len', cap', m, n, D, Pl, hcs, _, hl, hm, hmm, _, hi⟩
  · simp [Value.cells] at hcs
    obtain ⟨rfl, rfl, rfl⟩ := hcs
    exact ⟨[], { length := rfl, le := Nat.le_refl _, cap := by omega, ok := fun a ha => (List.not_mem_nil ha).elim, cells := fun h => absurd h (by omega) }⟩
  · simp [Value.cells] at hcs
    obtain ⟨rfl, rfl, rfl⟩ := hcs
    have hmc : m = cap := by simpa using hmm
    subst hmc
    rw [ce] at hi
    have each : ∀ i, ∃ r : Act8, i < m → Act8Ok w r ∧ w.cell? (a.add (i * 6)) = some (.int .i64 r.kind) ∧ w.cell? (a.add (i * 6 + 1)) = some (.string r.a) ∧ w.cell? (a.add (i * 6 + 2)) = some (.string r.b) ∧
        w.cell? (a.add (i * 6 + 3)) = some (.int .i64 r.at_) ∧ w.cell? (a.add (i * 6 + 4)) = some (.slice r.A r.n r.c) ∧ w.cell? (a.add (i * 6 + 5)) = some (.slice r.K r.m r.d) := by
      intro i
      by_cases him : i < m
      · obtain ⟨cs, hcc, ht'⟩ := hi i him
        obtain ⟨_, hlen, hget⟩ := World.cells?_some hcc
        match cs, hlen with
        | [v0, v1, v2, v3, v4, v5], _ =>
          obtain ⟨r, hr, rfl, rfl, rfl, rfl, rfl, rfl⟩ := act8_fields he o0 o1 o2 o3 o4 o5 c0 c1 c2 c3 c4 c5 h0 h1 h2 h3 h4 hb cb h5 hk ck ht'
          refine ⟨r, fun _ => ⟨hr, ?_, ?_, ?_, ?_, ?_, ?_⟩⟩
          · have := hget 0 (by omega); rwa [add_of_add] at this
          · have := hget 1 (by omega); rwa [add_of_add] at this
          · have := hget 2 (by omega); rwa [add_of_add] at this
          · have := hget 3 (by omega); rwa [add_of_add] at this
          · have := hget 4 (by omega); rwa [add_of_add] at this
          · have := hget 5 (by omega); rwa [add_of_add] at this
      · exact ⟨⟨0, ⟨#[]⟩, ⟨#[]⟩, 0, none, 0, 0, [], none, 0, 0, []⟩, fun h => absurd h him⟩
    obtain ⟨f, hfa⟩ := Classical.axiomOfChoice each
    refine ⟨(List.range len).map f, by simp, hl, by unfold maxLen at hm; omega, fun x hx => ?_, fun hn => ?_⟩
    · obtain ⟨i, hi, rfl⟩ := List.mem_map.1 hx
      exact (hfa i (by have := List.mem_range.1 hi; omega)).1
    · obtain ⟨b, off, spot⟩ := a
      have z0 := (hfa 0 (by omega)).2.1
      have hs : spot = none := by simpa [Addr.add] using World.cell?_spot z0
      subst hs
      refine ⟨b, off, rfl, ?_, fun i r hr => ?_⟩
      · rw [row_add4] at z0
        exact World.block_lt_of_cell? w _ z0
      · have hil : i < len := by
          rcases Nat.lt_or_ge i len with h | h
          · exact h
          · rw [List.getElem?_eq_none (by simpa using h)] at hr; cases hr
        simp [hil] at hr
        subst hr
        have := (hfa i (by omega)).2
        rwa [row_add4, row_add4, row_add4, row_add4, row_add4, row_add4] at this

/-- One act, by value. -/
theorem view_act8 {r : Reach} {b0 : Nat} {e ek eb : TypeId} {f0 f1 f2 f3 f4 f5 : Field} {v : Value} {d : DataW H} {p : List MemPlace} (he : P.underlying e = some (.struct #[f0, f1, f2, f3, f4, f5])) (ce : P.cellsOf e = 6)
    (o0 : f0.offset = 0) (o1 : f1.offset = 1) (o2 : f2.offset = 2) (o3 : f3.offset = 3) (o4 : f4.offset = 4) (o5 : f5.offset = 5) (c0 : P.cellsOf f0.type = 1) (c1 : P.cellsOf f1.type = 1) (c2 : P.cellsOf f2.type = 1) (c3 : P.cellsOf f3.type = 1) (c4 : P.cellsOf f4.type = 1) (c5 : P.cellsOf f5.type = 1)
    (h0 : P.underlying f0.type = some (.int .i64)) (h1 : P.underlying f1.type = some .string) (h2 : P.underlying f2.type = some .string) (h3 : P.underlying f3.type = some (.int .i64))
    (h4 : P.underlying f4.type = some (.slice eb)) (hb : P.underlying eb = some (.int .u8)) (cb : P.cellsOf eb = 1) (h5 : P.underlying f5.type = some (.slice ek)) (hk : P.underlying ek = some .bool) (ck : P.cellsOf ek = 1)
    (hv : Value.okWide P w r b0 e v) (h : DataW.Trod enc P w 0 (fun _ => true) true e v d p) : ∃ a : Act8, v = .agg #[.int .i64 a.kind, .string a.a, .string a.b, .int .i64 a.at_, .slice a.A a.n a.c, .slice a.K a.m a.d] ∧ Act8Ok w a := by
  obtain ⟨cs, rfl, hsz⟩ := okWide_struct he hv
  obtain ⟨l⟩ := cs
  obtain ⟨fuel, hf⟩ := h
  match l, hsz.trans ce with
  | [v0, v1, v2, v3, v4, v5], _ =>
    obtain ⟨a, ha, rfl, rfl, rfl, rfl, rfl, rfl⟩ := act8_fields he o0 o1 o2 o3 o4 o5 c0 c1 c2 c3 c4 c5 h0 h1 h2 h3 h4 hb cb h5 hk ck hf
    exact ⟨a, rfl, ha⟩
end

end Go.Proofs.YtclglbddibjenaaGreat
