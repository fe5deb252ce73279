/-
  TEXTS AS NUMBERS: a text's bytes as a list of numbers, and what '[]byte(s)' of one lays in memory. Of no layer.
-/
import Derived.Test.YtknimfnjmhmamaaGreatDaBase
import Derived.Laws.IdiomStrings
import Derived.OpenShut
import Derived.Deep.Slices
import Derived.Deep.Grids
set_option linter.unusedVariables false
set_option maxRecDepth 100000
set_option linter.unusedSimpArgs false
namespace Go.Proofs.YtknimfnjmhmamaaGreat
open Go.RowKit Go.ChangeShapes Go.WideShapes Go.Deep

/-- The bytes of a text. -/
def nums (s : ByteArray) : List Int := s.data.toList.map fun b => (b.toNat : Int)
theorem nums_length (s : ByteArray) : (nums s).length = s.size := by unfold nums; rw [List.length_map, Array.length_toList]; rfl
theorem nums_bytes (s : ByteArray) : AreB (nums s) := by
  intro z hz
  obtain ⟨b, -, rfl⟩ := List.mem_map.1 hz
  have := b.toNat_lt
  exact ⟨by omega, by omega⟩
theorem str_nums (s : ByteArray) : strOfNums (nums s) = s := by
  apply ByteArray.ext
  apply Array.toList_inj.1
  rw [strOfNums_data]
  unfold nums
  rw [List.map_map]
  have : ((fun n : Int => UInt8.ofNat n.toNat) ∘ fun b : UInt8 => (b.toNat : Int)) = id := by funext b; simp
  rw [this, List.map_id]
theorem beq_nums (s t : ByteArray) : (s.toList == t.toList) = decide (nums s = nums t) := by
  have h := strOfNums_beq (nums_bytes s) (nums_bytes t)
  rwa [str_nums, str_nums] at h
theorem nums_str {zs : List Int} (h : AreB zs) : nums (strOfNums zs) = zs := by
  unfold nums
  rw [strOfNums_data, List.map_map]
  induction zs with
  | nil => rfl
  | cons z l ih =>
    have hz := h z (by simp)
    simp only [List.map_cons]
    rw [ih (fun y hy => h y (by simp [hy]))]
    congr 1
    simp only [Function.comp]
    simp only [UInt8.toNat_ofNat']
    omega

/-- How much a new row may hold; the world behind '[]byte(s)'. -/
def capS (w : World) (s : ByteArray) : Nat := grownCap w s.size 0 5
def textW (w : World) (s : ByteArray) : World := w.drew.alloc (.cells (bytesRow s (capS w s)) 5 ((bytesRow s (capS w s)).size, (bytesRow s (capS w s)).size + 1))

theorem conv_text (s : ByteArray) (w : World) : (convert 9 60 (.string s)).run Tryz.prog w = .ok (.slice (some ⟨w.heap.size, 0, none⟩) s.size (capS w s)) (textW w s) :=
  run_bytes_of_string w 9 60 5 s Tryz.underlying9 Tryz.underlying60 Tryz.underlying5
theorem capS_le {w : World} {s : ByteArray} (h : s.size ≤ maxLen) : s.size ≤ capS w s ∧ capS w s ≤ 9223372036854775807 := by
  have h1 := grownCap_ge w s.size 0 5
  have h2 := grownCap_le_maxLen w s.size 0 5 h
  unfold maxLen at h2
  unfold capS
  omega
theorem textW_size (w : World) (s : ByteArray) : (textW w s).heap.size = w.heap.size + 1 := by unfold textW; simp
theorem textW_below (w : World) (s : ByteArray) : Below w.heap.size w (textW w s) := by
  unfold textW
  exact (below_drewn (Below.refl _ w) 1).alloc (Nat.le_refl _) _
theorem textW_reads (w : World) (s : ByteArray) : Reads (textW w s) (textW w s).heap.size 1 (some ⟨w.heap.size, 0, none⟩) s.size (cellsOf .u8 (nums s)) := by
  rw [textW_size]
  refine reads_at (Nat.lt_succ_self _) (nums_length s) fun i hi => ?_
  have hh : (textW w s).heap[w.heap.size]? = some (.cells (bytesRow s (capS w s)) 5 ((bytesRow s (capS w s)).size, (bytesRow s (capS w s)).size + 1)) := by
    unfold textW
    have h := World.alloc_heap_new w.drew (.cells (bytesRow s (capS w s)) 5 ((bytesRow s (capS w s)).size, (bytesRow s (capS w s)).size + 1))
    exact h
  have hi2 : i < s.data.size := hi
  have e : (bytesRow s (capS w s))[0 + i]? = some (.int .u8 ((nums s).getD i 0)) := by
    rw [Nat.zero_add]
    unfold bytesRow nums
    rw [Array.getElem?_append_left (by simpa using hi2)]
    simp [List.getD_eq_getElem?_getD, hi2]
    rw [Array.getElem?_eq_getElem hi2]
    exact ⟨_, rfl, rfl⟩
  simp [World.cell?, hh]
  simpa using e

end Go.Proofs.YtknimfnjmhmamaaGreat
