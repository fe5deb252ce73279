/-
  LeTakes: the ways of the statement's own text, put together.
-/
import Derived.Test.YtnkkfflaalipjaaLeTakesW
import Derived.Test.YtnkkfflaalipjaaLeTakesG
import Derived.Test.YtnkkfflaalipjaaFrame
set_option linter.unusedVariables false
set_option linter.unusedSimpArgs false
namespace Go.Proofs.Ytnkkfflaalipjaa
open Go.RowKit

set_option maxRecDepth 100000 in
set_option maxHeartbeats 1000000 in
theorem takes_long (A : Option Addr) (len cap : Nat) (pos0 : Int) (AL : Option Addr) (ln lc : Nat) (w : World) (h : 2000 < len) :
    Calls Try.prog 6 #[.slice A len cap, .int .i64 pos0, .slice AL ln lc] w fun e w' => e = .returned (.bool true) ∧ Below w.heap.size w w' := by
  have h' : (2000 : Int) < (len : Int) := by omega
  go_enter Try.func6, Try.ntmps6
  go_wp2_with (go_at_call 8; refine (awake_any _).mono ?_; rintro e w1 ⟨rfl, hb1⟩)
  go_ret
  exact ⟨rfl, hb1⟩

theorem takes_law (A : Option Addr) (len cap : Nat) (bs : List Int) (pos0 : Int) (AL : Option Addr) (ln lc : Nat) (acts : List ActV) (w : World) (hin : InInts w .u8 A len cap bs) (hp : (Lit.int .i64 pos0).wf = true) (hacts : InActs w AL ln lc acts) :
    Calls Try.prog 6 #[.slice A len cap, .int .i64 pos0, .slice AL ln lc] w fun e w' => e = .returned (.bool true) ∧ Below w.heap.size w w' := by
  by_cases hl : 2000 < len
  · exact takes_long A len cap pos0 AL ln lc w hl
  · by_cases hb : pos0 < 0 ∨ (len : Int) < pos0
    · exact takes_bad0 A len cap bs pos0 AL ln lc acts w hin hacts (by omega) hb
    · obtain ⟨j, rfl⟩ := Int.eq_ofNat_of_zero_le (show 0 ≤ pos0 by omega)
      exact takes_good A len cap bs AL ln lc acts w hin hacts (by omega) j (by omega)

end Go.Proofs.Ytnkkfflaalipjaa
