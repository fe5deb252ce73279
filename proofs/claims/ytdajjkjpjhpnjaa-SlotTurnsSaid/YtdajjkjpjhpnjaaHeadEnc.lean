/-
  LAYER 10: Encode OF PACKAGE head: its contract, for every input.
-/
import Derived.Test.YtdajjkjpjhpnjaaHeadFn
import Derived.Test.YtdajjkjpjhpnjaaCrcFn
import Derived.Test.YtdajjkjpjhpnjaaMade
import Derived.Lib.SmallJoins
set_option linter.unusedVariables false
set_option maxRecDepth 100000
set_option linter.unusedSimpArgs false
namespace Go.Proofs.Ytdajjkjpjhpnjaa
open Go.RowKit

/-- What Encode tells. -/
def encHR (i k d f m : Int) : List Int := if rightH d f then encH i k d f m else []

theorem encHR_bytes (i k d f m : Int) : AreB (encHR i k d f m) := by
  unfold encHR
  split
  · exact encH_bytes _ _ _ _ _
  · exact AreB.nil

theorem words5 (w : World) (t : TypeId) (a b c d e : Int) : Reads (w.alloc (.cells #[.int .u64 a, .int .u64 b, .int .u64 c, .int .u64 d, .int .u64 e] t)) (w.heap.size + 1) 1 (some ⟨w.heap.size, 0, none⟩) 5 (cellsOf .u64 [a, b, c, d, e]) := Reads.newN _ _ _

/-- A row with a mark behind it reads as one without. -/
theorem Reads.newF (w : World) (t : TypeId) (cs : Array Value) (fr : Nat × Nat) : Reads (w.alloc (.cells cs t fr)) (w.heap.size + 1) 1 (some ⟨w.heap.size, 0, none⟩) cs.size cs.toList := by
  refine ⟨by simp, fun _ => ⟨_, rfl, Nat.lt_succ_self _, fun j v hj => ?_⟩⟩
  have h := World.cell?_alloc_mark w cs t fr j
  have e : (⟨w.heap.size, 0, none⟩ : Addr).add j = ⟨w.heap.size, j, none⟩ := by unfold Addr.add; split <;> simp_all
  rw [e, h]; simpa using hj

/-- The eight bytes that a file begins with, as cells. -/
abbrev magicC : Array Value := #[.int .u8 76, .int .u8 79, .int .u8 71, .int .u8 66, .int .u8 79, .int .u8 79, .int .u8 75, .int .u8 49]
theorem magicReads (w : World) (t : TypeId) (fr : Nat × Nat) : Reads (w.alloc (.cells magicC t fr)) (w.heap.size + 1) 1 (some ⟨w.heap.size, 0, none⟩) 8 (cellsOf .u8 magicB) := Reads.newF w t magicC fr

/-- A block that a writer was made ahead of is none of its own. -/
theorem WB.apart {w0 wx : World} {g : Nat} {v : Value} {zs : List Int} (h : WB w0 g v zs wx) : ¬ (wx.heap.size = g ∨ v.ownBlock = some wx.heap.size) := by
  rintro (e | e)
  · have := h.wr.blk.lt; omega
  · have := (h.wr.own.lt _ e).2; omega

end Go.Proofs.Ytdajjkjpjhpnjaa
