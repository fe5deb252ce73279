/-
  LISTS OF TEXTS IN MEMORY: what a walk is told of a slice of texts, and how one that came in is opened. Of no program.
-/
import Derived.Test.YtakjiklpfddooaaFrame
import Derived.Test.YtakjiklpfddooaaChg
import Derived.SliceStrings
set_option linter.unusedVariables false
namespace Go.Proofs.Ytakjiklpfddooaa
open Go.RowKit Go.ChangeShapes Go.WideShapes

def cellsT (zs : List ByteArray) : List Value := zs.map Value.string
theorem cellsT_length (zs : List ByteArray) : (cellsT zs).length = zs.length := by simp [cellsT]
theorem cellsT_one (zs : List ByteArray) : ∀ u ∈ cellsT zs, u.oneCell' = true := fun u hu => by
  obtain ⟨z, _, rfl⟩ := List.mem_map.1 hu
  rfl
theorem cellsT_append (a b : List ByteArray) : cellsT (a ++ b) = cellsT a ++ cellsT b := by simp [cellsT]
def nthT (zs : List ByteArray) (i : Nat) : ByteArray := zs.getD i ⟨#[]⟩
theorem nthT_get {zs : List ByteArray} {i : Nat} (h : i < zs.length) : nthT zs i = zs[i] := by
  unfold nthT; rw [List.getD_eq_getElem?_getD, List.getElem?_eq_getElem h]; rfl
theorem nthT_mem {zs : List ByteArray} {i : Nat} (h : i < zs.length) : nthT zs i ∈ zs := by rw [nthT_get h]; exact List.getElem_mem h
theorem cellsT_get {zs : List ByteArray} {i : Nat} (h : i < zs.length) : (cellsT zs)[i]? = some (.string (nthT zs i)) := by
  unfold cellsT; rw [List.getElem?_map, List.getElem?_eq_getElem h, nthT_get h]; rfl
theorem take_nthT {zs : List ByteArray} {i : Nat} (h : i < zs.length) : zs.take (i + 1) = zs.take i ++ [nthT zs i] := by
  rw [nthT_get h, List.take_succ_eq_append_getElem h]

/-- A slice that reads as a list of texts; what lies from block B on is not asked. -/
structure Txt (w : World) (B : Nat) (A : Option Addr) (n c : Nat) (zs : List ByteArray) : Prop where
  reads : Reads w B 1 A n (cellsT zs)
  le : n ≤ c
  cap : c ≤ 9223372036854775807
  sz : ∀ s ∈ zs, s.size ≤ maxLen

section
variable {w w' : World} {B B' n c : Nat} {A : Option Addr} {zs : List ByteArray}
theorem Txt.len (h : Txt w B A n c zs) : zs.length = n := by have := h.reads.1; rw [cellsT_length] at this; omega
theorem Txt.size {i : Nat} (h : Txt w B A n c zs) (hi : i < n) : (nthT zs i).size ≤ maxLen := h.sz _ (nthT_mem (by rw [h.len]; exact hi))
theorem Txt.nil_ (w : World) (B : Nat) : Txt w B none 0 0 [] := ⟨Reads.none_, Nat.le_refl _, by omega, fun s h => by cases h⟩
theorem Txt.below (h : Txt w B A n c zs) (hb : Below B w w') : Txt w' B A n c zs := ⟨h.reads.below hb, h.le, h.cap, h.sz⟩
theorem Txt.more (h : Txt w B A n c zs) (hB : B ≤ B') : Txt w B' A n c zs := ⟨h.reads.more hB, h.le, h.cap, h.sz⟩
theorem Txt.drewN (h : Txt w B A n c zs) (k : Nat) : Txt (w.drewN k) B A n c zs := ⟨h.reads.drewN k, h.le, h.cap, h.sz⟩
/-- The address of a cell, where there is one. -/
theorem Txt.cell {i : Nat} (h : Txt w B A n c zs) (hi : i < n) : ∃ ad, A = some ad ∧ ad.block < B ∧ ∀ j, j < n → w.cell? (ad.add j) = some (.string (nthT zs j)) := by
  obtain ⟨ad, e, hb, hc⟩ := h.reads.2 (by omega)
  exact ⟨ad, e, hb, fun j hj => hc j _ (cellsT_get (by rw [h.len]; exact hj))⟩
theorem Txt.of_own {base : Nat} {e : TypeId} (h : w.ownsRow base e 1 (.slice A n c) n (cellsT zs)) (hc : n ≤ c) (hm : c ≤ maxLen) (hs : ∀ s ∈ zs, s.size ≤ maxLen) : Txt w w.heap.size A n c zs :=
  ⟨Reads.of_own h, hc, by unfold maxLen at hm; omega, hs⟩
end

/-- The cells of a slice of texts, where there is one: at a block and an offset. -/
theorem Txt.at_ {w : World} {B n c : Nat} {A : Option Addr} {zs : List ByteArray} (h : Txt w B A n c zs) (hn : 0 < n) :
    ∃ b off, A = some ⟨b, off, none⟩ ∧ b < B ∧ ∀ j, j < n → w.cell? ⟨b, off + j, none⟩ = some (.string (nthT zs j)) := by
  obtain ⟨ad, e, hb, hc⟩ := h.cell hn
  obtain ⟨b, off, spot⟩ := ad
  have h0 := hc 0 hn
  have hs : spot = none := by simpa [Addr.add] using World.cell?_spot h0
  subst hs
  have hp : ∀ k, (⟨b, off, none⟩ : Addr).add k = ⟨b, off + k, none⟩ := fun k => by unfold Addr.add; split <;> simp_all
  exact ⟨b, off, e, hb, fun j hj => by have := hc j hj; rwa [hp] at this⟩

section
variable {H : Type} {enc : TypeId × Value → H} {P : Program} {w : World}
theorem view_txt {t e : TypeId} {A : Option Addr} {len cap : Nat} {d : DataW H} {p : List MemPlace} (ht : P.underlying t = some (.slice e)) (he : P.underlying e = some .string) (hc : P.cellsOf e = 1)
    (h : DataW.Trod enc P w 0 (fun _ => true) true t (.slice A len cap) d p) : ∃ zs, Txt w w.heap.size A len cap zs := by
  obtain ⟨fuel, hf⟩ := h
  rcases open_strings ht he hc hf with ⟨hcs, _⟩ | ⟨a, len', cap', zs, hcs, _, hl, hm, hz, _, hcell, hsz⟩
  · simp [Value.cells] at hcs
    obtain ⟨rfl, rfl, rfl⟩ := hcs
    exact ⟨[], Txt.nil_ _ _⟩
  · simp [Value.cells] at hcs
    obtain ⟨rfl, rfl, rfl⟩ := hcs
    have hz' : zs.length = cap := by simpa using hz
    refine ⟨zs.take len, ⟨?_, fun hn => ⟨a, rfl, ?_, ?_⟩⟩, hl, by unfold maxLen at hm; omega, fun s hs => hsz s (List.mem_of_mem_take hs)⟩
    · rw [cellsT_length, List.length_take, Nat.mul_one]; omega
    · exact block_of_add a 0 ▸ World.block_lt_of_cell? w _ (hcell 0 (by omega))
    · intro j u hu
      have hj : j < (zs.take len).length := by
        rcases Nat.lt_or_ge j (zs.take len).length with h | h
        · exact h
        · rw [List.getElem?_eq_none (by rw [cellsT_length]; exact h)] at hu
          cases hu
      have hj2 : j < len := by rw [List.length_take] at hj; omega
      rw [cellsT_get hj] at hu
      injection hu with hu
      subst hu
      rw [hcell j (by omega)]
      congr 2
      unfold nthT
      simp [List.getD_eq_getElem?_getD, hj2]
      rfl
end

end Go.Proofs.Ytakjiklpfddooaa
