/-
  LAYER 10: WHAT THE SMALL FUNCTIONS OF PACKAGE head DO (mayHave, Right, DataTable, FieldTable, Objects, Slot), and the document's Right and Objects: contracts.
-/
import Derived.Test.YtjbkkimgiageaaaChecked
import Derived.Test.YtjbkkimgiageaaaHeadMath
import Derived.Test.YtjbkkimgiageaaaLeByt
import Derived.Deep.RegionHeld3
set_option linter.unusedVariables false
set_option linter.unusedSimpArgs false
namespace Go.Proofs.Ytjbkkimgiageaaa
open Go.RowKit

/-- A header by value. -/
abbrev hdV (i k d f m : Int) : Value := .agg #[.int .u64 i, .int .u64 k, .int .i64 d, .int .i64 f, .int .u64 m]
/-- The cells of a boxed header. -/
abbrev HdAt (w : World) (g : Nat) (i k d f m : Int) : Prop :=
  w.cell? ⟨g, 0, none⟩ = some (.int .u64 i) ∧ w.cell? ⟨g, 1, none⟩ = some (.int .u64 k) ∧ w.cell? ⟨g, 2, none⟩ = some (.int .i64 d) ∧ w.cell? ⟨g, 3, none⟩ = some (.int .i64 f) ∧ w.cell? ⟨g, 4, none⟩ = some (.int .u64 m)

theorem hdAt_blk {w : World} {g : Nat} {t : TypeId} {i k d f m : Int} (h : Blk w g t #[.int .u64 i, .int .u64 k, .int .i64 d, .int .i64 f, .int .u64 m]) : HdAt w g i k d f m :=
  ⟨by rw [h.cell]; rfl, by rw [h.cell]; rfl, by rw [h.cell]; rfl, by rw [h.cell]; rfl, by rw [h.cell]; rfl⟩
theorem hdAt_of {w w' : World} {t : TypeId} {i k d f m : Int}
    (h : Below (w.alloc (.cells #[.int .u64 i, .int .u64 k, .int .i64 d, .int .i64 f, .int .u64 m] t)).heap.size (w.alloc (.cells #[.int .u64 i, .int .u64 k, .int .i64 d, .int .i64 f, .int .u64 m] t)) w') : HdAt w' w.heap.size i k d f m :=
  hdAt_blk ((Blk.new w t _).below h (by simp))
theorem boxed (w : World) (o : Obj) : Below w.heap.size w (w.alloc o) := (Below.refl _ _).alloc (Nat.le_refl _) _

theorem hmay_any (v : Int) (w : World) : Calls Try.prog 31 #[.int .i64 v] w fun e w' => e = .returned (.bool (decide (1 ≤ v) && decide (v ≤ 256))) ∧ w = w' := by
  by_cases h1 : 1 ≤ v
  · by_cases h2 : v ≤ 256
    · have HF : Hid (true = (decide (1 ≤ v) && decide (v ≤ 256))) := by show _ = _; simp [h1, h2]
      go_enter Try.func31, Try.ntmps31
      go_wp2
      go_ret
      exact ⟨ret_bool HF.out, rfl⟩
    · have HF : Hid (false = (decide (1 ≤ v) && decide (v ≤ 256))) := by show _ = _; simp [h1, h2]
      have t2 : decide (v ≤ 256) = false := by simp; omega
      clear h2
      go_enter Try.func31, Try.ntmps31
      go_wp2
      go_ret
      exact ⟨ret_bool HF.out, rfl⟩
  · have HF : Hid (false = (decide (1 ≤ v) && decide (v ≤ 256))) := by show _ = _; simp [h1]
    have t2 : decide (1 ≤ v) = false := by simp; omega
    clear h1
    go_enter Try.func31, Try.ntmps31
    go_wp2
    go_ret
    exact ⟨ret_bool HF.out, rfl⟩

theorem rightH_two (d f : Int) : rightH d f = ((decide (1 ≤ d) && decide (d ≤ 256)) && (decide (1 ≤ f) && decide (f ≤ 256))) := by unfold rightH; simp only [Bool.and_assoc]
theorem rightH_bd {d f : Int} (h : rightH d f = true) : 1 ≤ d ∧ d ≤ 256 ∧ 1 ≤ f ∧ f ≤ 256 := by simp [rightH] at h; omega

theorem hright_any (i k d f m : Int) (w : World) : Calls Try.prog 11 #[hdV i k d f m] w fun e w' => e = .returned (.bool (rightH d f)) ∧ Below w.heap.size w w' := by
  have M1 := Lib.hid (hmay_any d)
  have M2 := Lib.hid (hmay_any f)
  rw [rightH_two]
  generalize (decide (1 ≤ d) && decide (d ≤ 256)) = a at *
  generalize (decide (1 ≤ f) && decide (f ≤ 256)) = b at *
  have m1 : True := trivial
  cases a
  · go_enter Try.func11, Try.ntmps11
    go_wp2_with (go_at_call 31; refine (M1.out _).mono ?_; rintro e w1 ⟨rfl, rfl⟩)
    go_ret
    exact ⟨rfl, boxed _ _⟩
  · go_enter Try.func11, Try.ntmps11
    go_wp2_with (first
      | (go_at_call 31; clear m1; refine (M1.out _).mono ?_; rintro e w1 ⟨rfl, rfl⟩)
      | (go_at_call 31; refine (M2.out _).mono ?_; rintro e w1 ⟨rfl, rfl⟩))
    go_ret
    exact ⟨rfl, boxed _ _⟩

theorem rhright_any (i k d f m : Int) (w : World) : Calls Try.prog 12 #[hdV i k d f m] w fun e w' => e = .returned (.bool (rightH d f)) ∧ Below w.heap.size w w' := by
  by_cases h1 : 1 ≤ d
  · by_cases h2 : d ≤ 256
    · by_cases h3 : 1 ≤ f
      · by_cases h4 : f ≤ 256
        · have HF : Hid (true = rightH d f) := by show _ = _; simp [rightH, h1, h2, h3, h4]
          go_enter Try.func12, Try.ntmps12
          go_wp2
          go_ret
          exact ⟨ret_bool HF.out, boxed _ _⟩
        · have HF : Hid (false = rightH d f) := by show _ = _; simp [rightH, h4]
          have t2 : decide (f ≤ 256) = false := by simp; omega
          clear h4
          go_enter Try.func12, Try.ntmps12
          go_wp2
          go_ret
          exact ⟨ret_bool HF.out, boxed _ _⟩
      · have HF : Hid (false = rightH d f) := by show _ = _; simp [rightH, h3]
        have t2 : decide (1 ≤ f) = false := by simp; omega
        clear h3
        go_enter Try.func12, Try.ntmps12
        go_wp2
        go_ret
        exact ⟨ret_bool HF.out, boxed _ _⟩
    · have HF : Hid (false = rightH d f) := by show _ = _; simp [rightH, h2]
      have t2 : decide (d ≤ 256) = false := by simp; omega
      clear h2
      go_enter Try.func12, Try.ntmps12
      go_wp2
      go_ret
      exact ⟨ret_bool HF.out, boxed _ _⟩
  · have HF : Hid (false = rightH d f) := by show _ = _; simp [rightH, h1]
    have t2 : decide (1 ≤ d) = false := by simp; omega
    clear h1
    go_enter Try.func12, Try.ntmps12
    go_wp2
    go_ret
    exact ⟨ret_bool HF.out, boxed _ _⟩

theorem hdata_any (i k d f m : Int) (w : World) : Calls Try.prog 13 #[hdV i k d f m] w fun e w' => e = .returned (.int .i64 256) ∧ Below w.heap.size w w' := by
  go_enter Try.func13, Try.ntmps13
  go_wp2
  go_ret
  exact ⟨rfl, boxed _ _⟩

theorem hfield_any (i k d f m : Int) (w : World) (h0 : 0 ≤ d) (h1 : d ≤ 256) : Calls Try.prog 14 #[hdV i k d f m] w fun e w' => e = .returned (.int .i64 (256 + 8 * d)) ∧ Below w.heap.size w w' := by
  have HB := Lib.hid (boxed w (.cells #[.int .u64 i, .int .u64 k, .int .i64 d, .int .i64 f, .int .u64 m] 27))
  have HA := Lib.hid (fun wx (hx : Below (w.alloc (.cells #[.int .u64 i, .int .u64 k, .int .i64 d, .int .i64 f, .int .u64 m] 27)).heap.size (w.alloc (.cells #[.int .u64 i, .int .u64 k, .int .i64 d, .int .i64 f, .int .u64 m] 27)) wx) => (hdAt_of hx : HdAt wx w.heap.size i k d f m))
  go_enter Try.func14, Try.ntmps14
  go_wp2_with fail
  have hb : Below (w.alloc (.cells #[.int .u64 i, .int .u64 k, .int .i64 d, .int .i64 f, .int .u64 m] 27)).heap.size (w.alloc (.cells #[.int .u64 i, .int .u64 k, .int .i64 d, .int .i64 f, .int .u64 m] 27)) (w.alloc (.cells #[.int .u64 i, .int .u64 k, .int .i64 d, .int .i64 f, .int .u64 m] 27)).drew := below_drewn (Below.refl _ _) 1
  have HK := Lib.hid (HA.out _ hb)
  go_region_held3 (fun w' => HdAt w' w.heap.size i k d f m)
    (first | assumption | exact HK.out | exact HA.out _ hb)
    ((go_at_call 13; refine (hdata_any _ _ _ _ _ _).mono ?_; rintro e wx ⟨rfl, hbx⟩; have hb := hb.trans (hbx.mono hb.size); clear hbx))
  go_wp2
  go_ret
  exact ⟨ret_int (by simp only [IntKind.wrap_i64]; omega), HB.out.trans (hb.mono HB.out.size)⟩

theorem hobjects_any (i k d f m : Int) (w : World) (h0 : 0 ≤ d) (h1 : d ≤ 256) (h2 : 0 ≤ f) (h3 : f ≤ 256) : Calls Try.prog 15 #[hdV i k d f m] w fun e w' => e = .returned (.int .i64 (256 + 8 * (d + f))) ∧ Below w.heap.size w w' := by
  have HB := Lib.hid (boxed w (.cells #[.int .u64 i, .int .u64 k, .int .i64 d, .int .i64 f, .int .u64 m] 27))
  have HA := Lib.hid (fun wx (hx : Below (w.alloc (.cells #[.int .u64 i, .int .u64 k, .int .i64 d, .int .i64 f, .int .u64 m] 27)).heap.size (w.alloc (.cells #[.int .u64 i, .int .u64 k, .int .i64 d, .int .i64 f, .int .u64 m] 27)) wx) => (hdAt_of hx : HdAt wx w.heap.size i k d f m))
  go_enter Try.func15, Try.ntmps15
  go_wp2_with fail
  have hb : Below (w.alloc (.cells #[.int .u64 i, .int .u64 k, .int .i64 d, .int .i64 f, .int .u64 m] 27)).heap.size (w.alloc (.cells #[.int .u64 i, .int .u64 k, .int .i64 d, .int .i64 f, .int .u64 m] 27)) (w.alloc (.cells #[.int .u64 i, .int .u64 k, .int .i64 d, .int .i64 f, .int .u64 m] 27)).drew := below_drewn (Below.refl _ _) 1
  have HK := Lib.hid (HA.out _ hb)
  go_region_held3 (fun w' => HdAt w' w.heap.size i k d f m)
    (first | assumption | exact HK.out | exact HA.out _ hb)
    ((go_at_call 14; refine (hfield_any _ _ _ _ _ _ h0 h1).mono ?_; rintro e wx ⟨rfl, hbx⟩; have hb := hb.trans (hbx.mono hb.size); clear hbx))
  go_wp2
  go_ret
  exact ⟨ret_int (by simp only [IntKind.wrap_i64]; omega), HB.out.trans (hb.mono HB.out.size)⟩

theorem rhobjects_any (i k d f m : Int) (w : World) (h0 : 0 ≤ d) (h1 : d ≤ 256) (h2 : 0 ≤ f) (h3 : f ≤ 256) : Calls Try.prog 16 #[hdV i k d f m] w fun e w' => e = .returned (.int .i64 (256 + 8 * (d + f))) ∧ Below w.heap.size w w' := by
  go_enter Try.func16, Try.ntmps16
  go_wp2
  go_ret
  exact ⟨ret_int (by omega), boxed _ _⟩

theorem i64_and1 (n : Int) : bits .and .i64 n 1 = n % 2 := by
  have h1 : (BitVec.ofInt 64 1).toNat = 2 ^ 1 - 1 := by decide
  have key : (BitVec.ofInt 64 n &&& BitVec.ofInt 64 1).toNat = (n % ((2 ^ 64 : Nat) : Int)).toNat % 2 ^ 1 := by
    rw [BitVec.toNat_and, BitVec.toNat_ofInt, h1, Nat.and_two_pow_sub_one_eq_mod]
  show IntKind.i64.wrap ((BitVec.ofInt 64 n &&& BitVec.ofInt 64 1).toNat : Nat) = n % 2
  rw [key, IntKind.wrap_i64]
  omega

theorem hslot_any (n : Int) (w : World) : Calls Try.prog 17 #[.int .i64 n] w fun e w' => e = .returned (.int .i64 (64 * (1 + n % 2))) ∧ w = w' := by
  by_cases h : n % 2 = 0
  · have t : bits .and .i64 n 1 = 0 := by rw [i64_and1, h]
    have HF : Hid ((64 : Int) = 64 * (1 + n % 2)) := by show _ = _; omega
    clear h
    go_enter Try.func17, Try.ntmps17
    go_wp2
    go_ret
    exact ⟨ret_int HF.out, rfl⟩
  · have t : bits .and .i64 n 1 = 1 := by rw [i64_and1]; omega
    have HF : Hid ((128 : Int) = 64 * (1 + n % 2)) := by show _ = _; omega
    clear h
    go_enter Try.func17, Try.ntmps17
    go_wp2
    go_ret
    exact ⟨ret_int HF.out, rfl⟩

end Go.Proofs.Ytjbkkimgiageaaa
