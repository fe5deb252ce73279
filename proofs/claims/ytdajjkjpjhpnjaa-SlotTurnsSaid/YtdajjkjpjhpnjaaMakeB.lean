/-
  make([]byte, K): noughts, K of them, in a block of their own. Of no function.
-/
import Derived.Test.YtdajjkjpjhpnjaaInfo
import Derived.Test.YtdajjkjpjhpnjaaChg
set_option linter.unusedVariables false
set_option maxRecDepth 100000
namespace Go.Proofs.Ytdajjkjpjhpnjaa
open Go.RowKit

theorem make_bytes (K : Nat) (hK : K ≤ 1000000) : ∃ Zc : Array Value, Zc.toList = cellsOf .u8 (List.replicate K 0) ∧ Zc.size = K ∧
    ∀ W : World, (Instr.makeSlice 26 (.int .i64 (K : Int)) (.int .i64 (K : Int))).run Try.prog W = .ok (.slice (some ⟨W.heap.size, 0, none⟩) K K) (W.alloc (.cells Zc 5)) := by
  obtain ⟨i0, hi, hz0, hz1, hz2⟩ := info_parts byteInfo
  have hZl : (madeCells (Value.int IntKind.u8 0).cells (K * 1)).toList = cellsOf .u8 (List.replicate K 0) := by
    rw [Nat.mul_one]
    show (madeCells #[Value.int IntKind.u8 0] K).toList = _
    rw [toList_madeCells_one]; simp [cellsOf]
  refine ⟨madeCells (Value.int IntKind.u8 0).cells (K * 1), hZl, ?_, fun W => ?_⟩
  · have h := congrArg List.length hZl
    rw [cellsOf_length, List.length_replicate, Array.length_toList] at h
    exact h
  · have h := run_make (P := Try.prog) W 26 5 i0 (.int .u8 0) Try.underlying26 hi hz0 .i64 .i64 (K : Int) (K : Int) (by omega) (Int.le_refl _) (by rw [hz2]; omega) (by omega)
    rw [Int.toNat_natCast, hz1] at h
    exact h

theorem made_blk {Zc : Array Value} (W : World) : Blk (W.alloc (.cells Zc 5)) W.heap.size 5 Zc := Blk.new W _ _

/-- A block of bytes that is known whole, as a slice of it reads. -/
theorem Blk.bytes {w : World} {g K : Nat} {Zc : Array Value} {zs : List Int} (h : Blk w g 5 Zc) (hl : Zc.toList = cellsOf .u8 zs) (hs : Zc.size = K) : Reads w w.heap.size 1 (some ⟨g, 0, none⟩) K (cellsOf .u8 zs) := by
  refine ⟨by rw [← hl, Array.length_toList, hs]; omega, fun _ => ⟨_, rfl, h.lt, fun j u hj => ?_⟩⟩
  have e : (⟨g, 0, none⟩ : Addr).add j = ⟨g, j, none⟩ := by unfold Addr.add; split <;> simp_all
  rw [e, h.cell]
  rw [← hl] at hj
  simpa using hj

end Go.Proofs.Ytdajjkjpjhpnjaa
