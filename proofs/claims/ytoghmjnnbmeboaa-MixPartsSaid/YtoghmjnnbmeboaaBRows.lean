/-
  HOW A SLICE OF SLICES OF NUMBERS IS OPENED: what a walk is told of it. Of no program.
-/
import Derived.Test.YtoghmjnnbmeboaaFrame
import Derived.Deep.Slices
set_option linter.unusedVariables false
namespace Go.Proofs.Ytoghmjnnbmeboaa
open Go.RowKit Go.ChangeShapes Go.WideShapes Go.Deep

theorem row_add (b off k : Nat) : (⟨b, off, none⟩ : Addr).add k = ⟨b, off + k, none⟩ := by unfold Addr.add; split <;> simp_all

structure RowV where
  A : Option Addr
  n : Nat
  c : Nat
  zs : List Int

structure InRows (w : World) (k : IntKind) (A : Option Addr) (len cap : Nat) (rows : List RowV) : Prop where
  length : rows.length = len
  le : len ≤ cap
  cap : cap ≤ 9223372036854775807
  ok : ∀ r ∈ rows, InInts w k r.A r.n r.c r.zs
  cells : 0 < len → ∃ b off, A = some ⟨b, off, none⟩ ∧ b < w.heap.size ∧ ∀ i r, rows[i]? = some r → w.cell? ⟨b, off + i, none⟩ = some (.slice r.A r.n r.c)

section
variable {H : Type} {enc : TypeId × Value → H} {P : Program} {w : World}
theorem view_rows {t e q : TypeId} {k : IntKind} {A : Option Addr} {len cap : Nat} {d : DataW H} {p : List MemPlace} (ht : P.underlying t = some (.slice e)) (he : P.underlying e = some (.slice q)) (hq : P.underlying q = some (.int k))
    (ce : P.cellsOf e = 1) (cq : P.cellsOf q = 1) (h : DataW.Trod enc P w 0 (fun _ => true) true t (.slice A len cap) d p) : ∃ rows, InRows w k A len cap rows := by
  obtain ⟨fuel, hf⟩ := h
  rcases open_slice1 ht ce hf with ⟨hcs, _⟩ | ⟨a, len', cap', m, n, V, D, Pl, hcs, _, hl, hm, hmm, _, hi⟩
  · simp [Value.cells] at hcs
    obtain ⟨rfl, rfl, rfl⟩ := hcs
    exact ⟨[], { length := rfl, le := Nat.le_refl _, cap := by omega, ok := fun a ha => (List.not_mem_nil ha).elim, cells := fun h => absurd h (by omega) }⟩
  · simp [Value.cells] at hcs
    obtain ⟨rfl, rfl, rfl⟩ := hcs
    have hmc : m = cap := by simpa using hmm
    subst hmc
    have each : ∀ i, ∃ r : RowV, i < m → InInts w k r.A r.n r.c r.zs ∧ w.cell? (a.add i) = some (.slice r.A r.n r.c) := by
      intro i
      by_cases him : i < m
      · obtain ⟨hc, ht'⟩ := hi i him
        obtain ⟨A3, l3, c3, z3, e3, in3⟩ := view_cells he hq cq ht'
        simp at e3
        exact ⟨⟨A3, l3, c3, z3⟩, fun _ => ⟨in3, e3 ▸ hc⟩⟩
      · exact ⟨⟨none, 0, 0, []⟩, fun h => absurd h him⟩
    obtain ⟨f, hfa⟩ := Classical.axiomOfChoice each
    refine ⟨(List.range len).map f, by simp, hl, by unfold maxLen at hm; omega, fun x hx => ?_, fun hn => ?_⟩
    · obtain ⟨i, hi, rfl⟩ := List.mem_map.1 hx
      exact (hfa i (by have := List.mem_range.1 hi; omega)).1
    · obtain ⟨b, off, spot⟩ := a
      have h0 := (hfa 0 (by omega)).2
      have hs : spot = none := by simpa [Addr.add] using World.cell?_spot h0
      subst hs
      have hp := row_add b off
      refine ⟨b, off, rfl, ?_, fun i r hr => ?_⟩
      · rw [hp] at h0
        exact World.block_lt_of_cell? w _ h0
      · have hil : i < len := by
          rcases Nat.lt_or_ge i len with h | h
          · exact h
          · rw [List.getElem?_eq_none (by simpa using h)] at hr; cases hr
        simp [hil] at hr
        subst hr
        have := (hfa i (by omega)).2
        rwa [hp] at this
end

end Go.Proofs.Ytoghmjnnbmeboaa
