import Derived.Test.YtgcmbgniaffdlaaGreatCaE
set_option linter.unusedVariables false
namespace Go.Proofs.YtgcmbgniaffdlaaGreat
open Go.RowKit Go.ChangeShapes Go.WideShapes Go.Deep
theorem row_add4 (b off k : Nat) : (⟨b, off, none⟩ : Addr).add k = ⟨b, off + k, none⟩ := by unfold Addr.add; split <;> simp_all
def cellsB (ks : List Bool) : List Value := ks.map Value.bool
theorem cellsB_length (ks : List Bool) : (cellsB ks).length = ks.length := by simp [cellsB]
theorem cellsB_get {ks : List Bool} {i : Nat} (h : i < ks.length) : (cellsB ks)[i]? = some (.bool (ks.getD i false)) := by
 simp [cellsB, List.getD_eq_getElem?_getD, List.getElem?_eq_getElem h]
structure InBools (w : World) (A : Option Addr) (len cap : Nat) (ks : List Bool) : Prop where
 reads : Reads w w.heap.size 1 A len (cellsB ks)
 le : len <= cap
 cap : cap <= 9223372036854775807
theorem InBools.len {w : World} {A : Option Addr} {len cap : Nat} {ks : List Bool} (h : InBools w A len cap ks) : ks.length = len := by
 have := h.reads.1; rw [cellsB_length] at this; omega
theorem Reads.bools {w : World} {B n : Nat} {A : Option Addr} {ks : List Bool} (h : Reads w B 1 A n (cellsB ks)) (hn : 0 < n) :
 ∃ b off, A = some ⟨b, off, none⟩ /\ b < B /\ ∀ i, i < n -> w.cell? ⟨b, off + i, none⟩ = some (.bool (ks.getD i false)) := by
 obtain ⟨ad, rfl, hb, hc⟩ := h.2 hn
 have hl : ks.length = n := by have := h.1; rw [cellsB_length] at this; omega
 obtain ⟨b, off, spot⟩ := ad
 have h0 := hc 0 _ (cellsB_get (by omega))
 have hs : spot = none := by simpa [Addr.add] using World.cell?_spot h0
 subst hs
 refine ⟨b, off, rfl, hb, fun i hi => ?_⟩
 have := hc i _ (cellsB_get (by omega))
 rwa [row_add4] at this
section
variable {H : Type} {enc : TypeId × Value -> H} {P : Program} {w : World}
theorem view_bcells {t e : TypeId} {fuel : Nat} {cs : List Value} {x : DataW H × List MemPlace} (ht : P.underlying t = some (.slice e)) (he : P.underlying e = some .bool) (hc : P.cellsOf e = 1)
 (h : DataW.trod enc P w 0 (fun _ => true) true fuel t cs = some x) : ∃ A len cap ks, cs = [.slice A len cap] /\ InBools w A len cap ks := by
 rcases open_slice1 ht hc h with ⟨hcs, _⟩ | ⟨a, len, cap, m, n, V, D, Pl, hcs, _, hl, hm, hmm, _, hi⟩
 · exact ⟨none, 0, 0, [], hcs, Reads.none_, Nat.le_refl _, by omega⟩
 · have hmc : m = cap := by simpa using hmm
   subst hmc
   have each : ∀ i, ∃ q : Bool, i < m -> w.cell? (a.add i) = some (.bool q) := by
     intro i
     by_cases him : i < m
     · obtain ⟨hcl, ht'⟩ := hi i him
       obtain ⟨q, hq, _⟩ := DataW.trod_bool he ht'
       injection hq with hq
       exact ⟨q, fun _ => by rw [hcl, hq]⟩
     · exact ⟨false, fun h => absurd h him⟩
   obtain ⟨f, hf⟩ := Classical.axiomOfChoice each
   refine ⟨some a, len, m, (List.range len).map f, hcs, ⟨?_, fun hn => ⟨a, rfl, ?_, ?_⟩⟩, hl, by unfold maxLen at hm; omega⟩
   · rw [cellsB_length]; simp
   · exact block_of_add a 0 ▸ World.block_lt_of_cell? w _ (hf 0 (by omega))
   · intro j u hu
     have hj : j < len := by
       rcases Nat.lt_or_ge j len with h | h
       · exact h
       · rw [List.getElem?_eq_none (by rw [cellsB_length]; simpa using h)] at hu
         cases hu
     rw [cellsB_get (by simpa using hj)] at hu
     injection hu with hu
     subst hu
     rw [hf j (by omega)]
     simp [List.getD_eq_getElem?_getD, hj]
theorem view_bools {t e : TypeId} {A : Option Addr} {len cap : Nat} {d : DataW H} {p : List MemPlace} (ht : P.underlying t = some (.slice e)) (he : P.underlying e = some .bool) (hc : P.cellsOf e = 1)
 (h : DataW.Trod enc P w 0 (fun _ => true) true t (.slice A len cap) d p) : ∃ ks, InBools w A len cap ks := by
 obtain ⟨fuel, hf⟩ := h
 obtain ⟨A', len', cap', ks, hcs, hi⟩ := view_bcells ht he hc hf
 simp [Value.cells] at hcs
 obtain ⟨rfl, rfl, rfl⟩ := hcs
 exact ⟨ks, hi⟩
end
theorem bools_view {H : Type} {enc : TypeId × Value -> H} {w : World} {A : Option Addr} {len cap : Nat} {d : DataW H} {p : List MemPlace}
 (h : DataW.Trod enc Tryz.prog w 0 (fun _ => true) true 23 (.slice A len cap) d p) : ∃ ks, InBools w A len cap ks :=
 view_bools Tryz.underlying23 Tryz.underlying4 (by kernel_rfl) h
end Go.Proofs.YtgcmbgniaffdlaaGreat
