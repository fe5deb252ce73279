/-
  CrcTables: the walk of the statement's own text: its last line's order is open.
-/
import Derived.Test.YtdomdokcghhbpaaCrcLaw
import Derived.Deep.RegionLaw
set_option linter.unusedVariables false
set_option linter.unusedSimpArgs false
namespace Go.Proofs.Ytdomdokcghhbpaa
open Go.RowKit

set_option maxHeartbeats 2000000 in
theorem tables_walk (i : Nat) (w : World) (hi : i < 256) :
    Calls Try.prog 3 #[.int .u8 i] w fun e w' => e = .returned (.bool true) ∧ Below w.heap.size w w' := by
  go_enter Try.func3, Try.ntmps3
  go_wp2_with (go_at_call 6; refine (crcMake_any w).mono ?_; rintro e w1 ⟨rfl, ht1, hb1⟩)
  have ht : IsTable w1 w.heap.size := ht1
  have hc := ht.at_ hi
  have hi1 : (i : Int) < 256 := by omega
  have hi2 : IntKind.u32.wrap (i : Int) = i := by rw [IntKind.wrap_u32']; omega
  go_region_law ((first
    | (go_simp; go_at_call 7; refine (rcrcEntry_any i _ (by omega)).mono ?_; rintro e w2 ⟨rfl, rfl⟩)
    | (go_simp; go_at_call 8; refine (awake_any _).mono ?_; rintro e w5 ⟨rfl, hb5⟩)))
  all_goals
    go_wp2
    go_ret
    exact ⟨rfl, hb1.trans ((below_drew0 hb5).mono hb1.size)⟩


theorem tables_law (a : Int) (w : World) (h0 : (Lit.int .u8 a).wf = true) :
    Calls Try.prog 3 #[.int .u8 a] w fun e w' => e = .returned (.bool true) ∧ Below w.heap.size w w' := by
  have hb := wf_u8_bd h0
  obtain ⟨i, rfl⟩ := Int.eq_ofNat_of_zero_le hb.1
  exact tables_walk i w (by omega)

end Go.Proofs.Ytdomdokcghhbpaa
