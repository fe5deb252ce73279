/-
  THE CHAPTER'S EXAMPLES (awake), AND LeWrites: the bytes of every number, of every width, and the next multiple of eight.
-/
import Derived.Test.YtdajjkjpjhpnjaaLeByt
import Derived.Test.YtdajjkjpjhpnjaaLeNum
import Derived.Test.YtdajjkjpjhpnjaaFrame
set_option linter.unusedVariables false
set_option maxRecDepth 100000
namespace Go.Proofs.Ytdajjkjpjhpnjaa
open Go.RowKit

theorem enb_gnum {zs : List Int} (hz : AreB zs) {j m : Nat} (hw : isw (m : Int) = true) (hj : j + m ≤ zs.length) : bts (lev ((zs.drop j).take m)) m = (zs.drop j).take m := by
  have hm := isw_cases hw
  have hl : ((zs.drop j).take m).length = m := by rw [List.length_take, List.length_drop]; omega
  unfold bts
  rw [Int.toNat_natCast, Nat.min_eq_left (by omega)]
  have h := enb_lev _ ((hz.drop j).take m)
  rwa [hl] at h

end Go.Proofs.Ytdajjkjpjhpnjaa
