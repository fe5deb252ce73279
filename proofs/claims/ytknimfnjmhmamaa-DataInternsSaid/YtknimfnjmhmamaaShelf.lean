/-
  THE LIBRARY'S CONTRACTS LAID AT THIS PROGRAM: the tables of numbers, each field a fact of the program. Written by program.
-/
import Derived.Shelf.Strings.Search1
import Derived.Test.YtknimfnjmhmamaaProg
namespace Go.Proofs
open Go.Shelf
def Try.layIndexByte_ren : Go.Shelf.Ren := ⟨fun | 217 => 97 | 266 => 104 | n => n, fun | 9 => 9 | 5 => 5 | 3 => 3 | n => n, fun | n => n⟩
theorem Try.layIndexByte : Go.Proofs.Lays.n217 Try.prog Try.layIndexByte_ren := {
  mixed := by kernel_rfl
  f217 := Try.func97.trans (congrArg some (by kernel_rfl))
  f266 := Try.func104.trans (congrArg some (by kernel_rfl))
  t3 := Try.underlying3
  a3 := Try.isAgg3
  z3 := Try.sizeOf3
  v3 := Try.zeroValue3
  t5 := Try.underlying5
  a5 := Try.isAgg5
  z5 := Try.sizeOf5
  v5 := Try.zeroValue5
  t9 := Try.underlying9
  a9 := Try.isAgg9
  z9 := Try.sizeOf9
  v9 := Try.zeroValue9 }
end Go.Proofs
