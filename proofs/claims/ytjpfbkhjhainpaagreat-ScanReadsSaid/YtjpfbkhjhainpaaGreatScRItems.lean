/-
  LAYER 17: the document's Items: its contract.
-/
import Derived.Test.YtjpfbkhjhainpaaGreatScItems
import Derived.Test.YtjpfbkhjhainpaaGreatScPl
set_option linter.unusedVariables false
set_option maxRecDepth 100000
set_option linter.unusedSimpArgs false
namespace Go.Proofs.YtjpfbkhjhainpaaGreat
open Go.RowKit Go.Shelf

theorem itemsT_next {zs is : List Int} {j : Nat} {p : Int} (h : is[j]? = some p) : (itemsT zs is).take (j + 1) = (itemsT zs is).take j ++ [strOfNums (itemZ zs p)] := by
  have e : (itemsT zs is)[j]? = some (strOfNums (itemZ zs p)) := by unfold itemsT; rw [List.getElem?_map, h]; rfl
  rw [List.take_add_one, e]; rfl

/-- What is held between two rounds. -/
structure RIW (w wr : World) (zs : List Int) (lo hi : Int) (is : List Int) (cs : Array Value) (v : Value) (j : Nat) : Prop where
  own : wr.ownsRow w.heap.size 9 1 v j (cellsT ((itemsT zs is).take j))
  box : Blk wr w.heap.size 53 cs
  bel : Below w.heap.size w wr
  ok : ∀ i p, i < j → is[i]? = some p → OkI zs lo hi p
theorem RIW.next {w wr w1 w5 : World} {zs : List Int} {lo hi : Int} {is : List Int} {cs : Array Value} {v v' : Value} {j : Nat} {p : Int} {tmp : Obj} (h : RIW w wr zs lo hi is cs v j) (hb : Below wr.heap.size wr w1) (hp : is[j]? = some p) (hok : OkI zs lo hi p)
    (hown : w5.ownsRow w.heap.size 9 1 v' (j + 1) (cellsT ((itemsT zs is).take j) ++ [.string (strOfNums (itemZ zs p))])) (hg : (w1.alloc tmp).grownBy w5 v.ownBlock) : RIW w w5 zs lo hi is cs v' (j + 1) := by
  have hb1 := own_below h.own hb
  have hx1 := h.box.below hb h.box.lt
  refine ⟨?_, (hx1.alloc tmp).grown hg (own_blk_ne hb1 hx1 (by decide)).symm, ?_, fun i q hi hq => ?_⟩
  · rw [itemsT_next hp, cellsT_append]; exact hown
  · have hbb := h.bel.trans (hb.mono h.bel.size)
    exact (hbb.alloc hbb.size tmp).grown hg (by have := hbb.size; simp; omega) (fun k hk => (hb1.lt k hk).1)
  · rcases Nat.lt_or_ge i j with e | e
    · exact h.ok i q e hq
    · obtain rfl : i = j := by omega
      rw [hp] at hq; injection hq with hq; rw [← hq]; exact hok

end Go.Proofs.YtjpfbkhjhainpaaGreat
