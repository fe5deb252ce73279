/-
  HOW ARGUMENTS ARE OPENED: a slice of numbers that came in reads as a list; bounds of numbers. Of no program.
-/
import Derived.Test.YtdajjkjpjhpnjaaWords
import Derived.ProofKit
import Derived.OpenShut
import Derived.ChangeOld
import Derived.Deep.Slices
import Derived.Deep.Fields
set_option linter.unusedVariables false
namespace Go.Proofs.Ytdajjkjpjhpnjaa
open Go.RowKit Go.ChangeShapes Go.WideShapes Go.Deep

/-- What a walk is told of a slice of numbers that came in. -/
structure InInts (w : World) (k : IntKind) (A : Option Addr) (len cap : Nat) (zs : List Int) : Prop where
  reads : Reads w w.heap.size 1 A len (cellsOf k zs)
  le : len ≤ cap
  cap : cap ≤ 9223372036854775807
  wf : ∀ z ∈ zs, (Lit.int k z).wf = true

section
variable {H : Type} {enc : TypeId × Value → H} {P : Program} {w : World}
theorem view_cells {t e : TypeId} {k : IntKind} {fuel : Nat} {cs : List Value} {x : DataW H × List MemPlace} (ht : P.underlying t = some (.slice e)) (he : P.underlying e = some (.int k)) (hc : P.cellsOf e = 1)
    (h : DataW.trod enc P w 0 (fun _ => true) true fuel t cs = some x) : ∃ A len cap zs, cs = [.slice A len cap] ∧ InInts w k A len cap zs := by
  rcases open_ints ht he hc h with ⟨hcs, _⟩ | ⟨a, len, cap, zs, hcs, _, hl, hm, hz, _, hcell, hwz⟩
  · exact ⟨none, 0, 0, [], hcs, Reads.none_, Nat.le_refl _, by omega, fun z hz => by cases hz⟩
  · have hz' : zs.length = cap := by simpa using hz
    refine ⟨some a, len, cap, zs.take len, hcs, ⟨?_, fun hn => ⟨a, rfl, ?_, ?_⟩⟩, hl, ?_, fun z hz => hwz z (List.mem_of_mem_take hz)⟩
    · rw [cellsOf_length, List.length_take, Nat.mul_one]; omega
    · exact block_of_add a 0 ▸ World.block_lt_of_cell? w _ (hcell 0 (by omega))
    · intro j u hu
      have hj : j < (zs.take len).length := by
        rcases Nat.lt_or_ge j (zs.take len).length with h | h
        · exact h
        · rw [List.getElem?_eq_none (by rw [cellsOf_length]; exact h)] at hu
          cases hu
      have hj2 : j < len := by rw [List.length_take] at hj; omega
      rw [cellsOf_get hj] at hu
      injection hu with hu
      subst hu
      rw [hcell j (by omega)]
      congr 2
      simp [List.getD_eq_getElem?_getD, hj2]
    · unfold maxLen at hm; omega

theorem view_ints {t e : TypeId} {k : IntKind} {A : Option Addr} {len cap : Nat} {d : DataW H} {p : List MemPlace} (ht : P.underlying t = some (.slice e)) (he : P.underlying e = some (.int k)) (hc : P.cellsOf e = 1)
    (h : DataW.Trod enc P w 0 (fun _ => true) true t (.slice A len cap) d p) : ∃ zs, InInts w k A len cap zs := by
  obtain ⟨fuel, hf⟩ := h
  obtain ⟨A', len', cap', zs, hcs, hi⟩ := view_cells ht he hc hf
  simp [Value.cells] at hcs
  obtain ⟨rfl, rfl, rfl⟩ := hcs
  exact ⟨zs, hi⟩
end

theorem wf_u8_bd {n : Int} (h : (Lit.int .u8 n).wf = true) : 0 ≤ n ∧ n < 256 := by have := bounds_u8 h; omega
theorem wf_u64_bd {n : Int} (h : (Lit.int .u64 n).wf = true) : 0 ≤ n ∧ n < 18446744073709551616 := by have := bounds_u64 h; omega

end Go.Proofs.Ytdajjkjpjhpnjaa
