/-
  WHAT Words OF A Reader DOES, AND THE DOCUMENT'S OWN COMPARISON OF TWO LISTS OF NUMBERS: contracts.
-/
import Derived.Test.YtdajjkjpjhpnjaaLeR
set_option linter.unusedVariables false
set_option maxRecDepth 100000
set_option linter.unusedSimpArgs false
namespace Go.Proofs.Ytdajjkjpjhpnjaa
open Go.RowKit

theorem wordInfo : (Try.prog.info? 22).map (fun i => (i.zero, i.size, i.bytes)) = some (some (.int .u64 0), 1, 8) := by kernel_rfl

/-- The first k numbers of eight bytes. -/
def wrds : Nat → List Int → List Int
  | 0, _ => []
  | k + 1, zs => lev (zs.take 8) :: wrds k (zs.drop 8)

theorem wrds_length : ∀ (k : Nat) (zs : List Int), (wrds k zs).length = k
  | 0, _ => rfl
  | k + 1, zs => by simp [wrds, wrds_length k]
theorem wrds_snoc : ∀ (k : Nat) (zs : List Int), wrds (k + 1) zs = wrds k zs ++ [lev ((zs.drop (8 * k)).take 8)]
  | 0, zs => by simp [wrds]
  | k + 1, zs => by
    rw [wrds, wrds_snoc k (zs.drop 8), wrds, List.cons_append, List.drop_drop, show 8 + 8 * k = 8 * (k + 1) by omega]
theorem wrds_fill {k m : Nat} (h : k < m) (zs : List Int) : (wrds k zs ++ List.replicate (m - k) 0).set k (lev ((zs.drop (8 * k)).take 8)) = wrds (k + 1) zs ++ List.replicate (m - (k + 1)) 0 := by
  rw [List.set_append_right _ _ (by rw [wrds_length]; omega), wrds_length, Nat.sub_self, wrds_snoc, List.append_assoc]
  congr 1
  obtain ⟨j, hj⟩ : ∃ j, m - k = j + 1 := ⟨m - k - 1, by omega⟩
  rw [hj, List.replicate_succ, List.set_cons_zero, show m - (k + 1) = j by omega]
  rfl

/-- Words: so many numbers, in a new row. -/
def RWordsPost (w : World) (B g m : Nat) (p : Int) (zs : List Int) (bad : Bool) (A1 : Option Addr) (c1 : Nat) (w' : World) : Prop :=
  w'.ownsRow w.heap.size 22 1 (.slice A1 m c1) m (cellsOf .u64 (wrds m zs)) ∧ RdPost w B g (p + 8 * m) (zs.drop (8 * m)) bad w'

end Go.Proofs.Ytdajjkjpjhpnjaa
