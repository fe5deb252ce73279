/-
  LAYER 10: WHAT THE SMALL FUNCTIONS OF PACKAGE head DO (mayHave, Right, DataTable, FieldTable, Objects, Slot), and the document's Right and Objects: contracts.
-/
import Derived.Test.YtdajjkjpjhpnjaaChecked
import Derived.Test.YtdajjkjpjhpnjaaHeadMath
import Derived.Test.YtdajjkjpjhpnjaaLeByt
import Derived.Deep.RegionHeld3
set_option linter.unusedVariables false
set_option maxRecDepth 100000
set_option linter.unusedSimpArgs false
namespace Go.Proofs.Ytdajjkjpjhpnjaa
open Go.RowKit

/-- A header by value. -/
abbrev hdV (i k d f m : Int) : Value := .agg #[.int .u64 i, .int .u64 k, .int .i64 d, .int .i64 f, .int .u64 m]
/-- The cells of a boxed header. -/
abbrev HdAt (w : World) (g : Nat) (i k d f m : Int) : Prop :=
  w.cell? ⟨g, 0, none⟩ = some (.int .u64 i) ∧ w.cell? ⟨g, 1, none⟩ = some (.int .u64 k) ∧ w.cell? ⟨g, 2, none⟩ = some (.int .i64 d) ∧ w.cell? ⟨g, 3, none⟩ = some (.int .i64 f) ∧ w.cell? ⟨g, 4, none⟩ = some (.int .u64 m)

theorem hdAt_blk {w : World} {g : Nat} {t : TypeId} {i k d f m : Int} (h : Blk w g t #[.int .u64 i, .int .u64 k, .int .i64 d, .int .i64 f, .int .u64 m]) : HdAt w g i k d f m :=
  ⟨by rw [h.cell]; rfl, by rw [h.cell]; rfl, by rw [h.cell]; rfl, by rw [h.cell]; rfl, by rw [h.cell]; rfl⟩
theorem hdAt_of {w w' : World} {t : TypeId} {i k d f m : Int}
    (h : Below (w.alloc (.cells #[.int .u64 i, .int .u64 k, .int .i64 d, .int .i64 f, .int .u64 m] t)).heap.size (w.alloc (.cells #[.int .u64 i, .int .u64 k, .int .i64 d, .int .i64 f, .int .u64 m] t)) w') : HdAt w' w.heap.size i k d f m :=
  hdAt_blk ((Blk.new w t _).below h (by simp))
theorem boxed (w : World) (o : Obj) : Below w.heap.size w (w.alloc o) := (Below.refl _ _).alloc (Nat.le_refl _) _

theorem rightH_two (d f : Int) : rightH d f = ((decide (1 ≤ d) && decide (d ≤ 256)) && (decide (1 ≤ f) && decide (f ≤ 256))) := by unfold rightH; simp only [Bool.and_assoc]
theorem rightH_bd {d f : Int} (h : rightH d f = true) : 1 ≤ d ∧ d ≤ 256 ∧ 1 ≤ f ∧ f ≤ 256 := by simp [rightH] at h; omega

theorem i64_and1 (n : Int) : bits .and .i64 n 1 = n % 2 := by
  have h1 : (BitVec.ofInt 64 1).toNat = 2 ^ 1 - 1 := by decide
  have key : (BitVec.ofInt 64 n &&& BitVec.ofInt 64 1).toNat = (n % ((2 ^ 64 : Nat) : Int)).toNat % 2 ^ 1 := by
    rw [BitVec.toNat_and, BitVec.toNat_ofInt, h1, Nat.and_two_pow_sub_one_eq_mod]
  show IntKind.i64.wrap ((BitVec.ofInt 64 n &&& BitVec.ofInt 64 1).toNat : Nat) = n % 2
  rw [key, IntKind.wrap_i64]
  omega

theorem hslot_any (n : Int) (w : World) : Calls Try.prog 28 #[.int .i64 n] w fun e w' => e = .returned (.int .i64 (64 * (1 + n % 2))) ∧ w = w' := by
  by_cases h : n % 2 = 0
  · have t : bits .and .i64 n 1 = 0 := by rw [i64_and1, h]
    have HF : Hid ((64 : Int) = 64 * (1 + n % 2)) := by show _ = _; omega
    clear h
    go_enter Try.func28, Try.ntmps28
    go_wp2
    go_ret
    exact ⟨ret_int HF.out, rfl⟩
  · have t : bits .and .i64 n 1 = 1 := by rw [i64_and1]; omega
    have HF : Hid ((128 : Int) = 64 * (1 + n % 2)) := by show _ = _; omega
    clear h
    go_enter Try.func28, Try.ntmps28
    go_wp2
    go_ret
    exact ⟨ret_int HF.out, rfl⟩

end Go.Proofs.Ytdajjkjpjhpnjaa
