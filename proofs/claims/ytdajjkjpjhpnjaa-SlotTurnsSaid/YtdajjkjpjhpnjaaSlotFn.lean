/-
  LAYER 11: A SLOT AS A VALUE AND IN MEMORY, AND WHAT THE SMALL FUNCTIONS OF PACKAGE slot DO (Right, Place), and the document's Right: contracts.
-/
import Derived.Test.YtdajjkjpjhpnjaaHeadFn
import Derived.Test.YtdajjkjpjhpnjaaSlotMath
import Derived.Test.YtdajjkjpjhpnjaaLeByt
set_option linter.unusedVariables false
set_option maxRecDepth 100000
set_option linter.unusedSimpArgs false
namespace Go.Proofs.Ytdajjkjpjhpnjaa
open Go.RowKit

/-- A slot by value. -/
abbrev sV (a b c d e f : Int) : Value := .agg #[.int .u64 a, .int .u64 b, .int .u64 c, .int .u64 d, .int .u64 e, .int .u64 f]
/-- Its cells. -/
abbrev sC (a b c d e f : Int) : Array Value := #[.int .u64 a, .int .u64 b, .int .u64 c, .int .u64 d, .int .u64 e, .int .u64 f]
/-- The cells of a boxed slot. -/
abbrev SlAt (w : World) (g : Nat) (a b c d e f : Int) : Prop :=
  w.cell? ⟨g, 0, none⟩ = some (.int .u64 a) ∧ w.cell? ⟨g, 1, none⟩ = some (.int .u64 b) ∧ w.cell? ⟨g, 2, none⟩ = some (.int .u64 c) ∧ w.cell? ⟨g, 3, none⟩ = some (.int .u64 d) ∧ w.cell? ⟨g, 4, none⟩ = some (.int .u64 e) ∧ w.cell? ⟨g, 5, none⟩ = some (.int .u64 f)

theorem slAt_blk {w : World} {g : Nat} {ty : TypeId} {a b c d e f : Int} (h : Blk w g ty (sC a b c d e f)) : SlAt w g a b c d e f :=
  ⟨by rw [h.cell]; rfl, by rw [h.cell]; rfl, by rw [h.cell]; rfl, by rw [h.cell]; rfl, by rw [h.cell]; rfl, by rw [h.cell]; rfl⟩
theorem slAt_of {w w' : World} {ty : TypeId} {a b c d e f : Int} (h : Below (w.alloc (.cells (sC a b c d e f) ty)).heap.size (w.alloc (.cells (sC a b c d e f) ty)) w') : SlAt w' w.heap.size a b c d e f :=
  slAt_blk ((Blk.new w ty _).below h (by simp))
theorem slAt_word {w : World} {g : Nat} {a b c d e f : Int} (h : SlAt w g a b c d e f) : w.cell? ⟨g, 0, none⟩ = some (.int .u64 a) := h.1

theorem u64_and1 (n : Int) : bits .and .u64 n 1 = n % 2 := by
  have h1 : (BitVec.ofInt 64 1).toNat = 2 ^ 1 - 1 := by decide
  have key : (BitVec.ofInt 64 n &&& BitVec.ofInt 64 1).toNat = (n % ((2 ^ 64 : Nat) : Int)).toNat % 2 ^ 1 := by
    rw [BitVec.toNat_and, BitVec.toNat_ofInt, h1, Nat.and_two_pow_sub_one_eq_mod]
  show IntKind.u64.wrap ((BitVec.ofInt 64 n &&& BitVec.ofInt 64 1).toNat : Nat) = n % 2
  rw [key, IntKind.wrap_u64]
  omega

theorem sright_any (a b c d e f : Int) (w : World) (ha : 0 ≤ a) (hb : 0 ≤ b) : Calls Try.prog 11 #[sV a b c d e f] w fun en w' => en = .returned (.bool (rightS a b f)) ∧ Below w.heap.size w w' := by
  have hq : b.tmod 8 = b % 8 := Int.tmod_eq_emod_of_nonneg hb
  obtain ⟨q, hqq⟩ : ∃ q, b.tmod 8 = q := ⟨_, rfl⟩
  have HQ : Hid (∀ x y : Int, rightS x b y = (decide (x ≠ 0) && (decide (y = 1) || decide (y = 2)) && decide (q = 0))) := fun x y => by unfold rightS; rw [← hq, hqq]
  clear hq
  by_cases h1 : a = 0
  · have HF : Hid (false = rightS a b f) := by show _ = _; rw [HQ.out, h1]; simp
    have t1 : decide (0 < a) = false := by simp; omega
    clear HQ hqq
    go_enter Try.func11, Try.ntmps11
    go_wp2
    go_ret
    exact ⟨ret_bool HF.out, boxed _ _⟩
  have h5 : 0 < a := by omega
  by_cases h3 : f = 1
  · subst h3
    by_cases h2 : q = 0
    · have HF : Hid (true = rightS a b 1) := by show _ = _; rw [HQ.out]; simp [h1, h2]
      subst h2
      clear HQ
      go_enter Try.func11, Try.ntmps11
      go_wp2
      go_ret
      exact ⟨ret_bool HF.out, boxed _ _⟩
    · have HF : Hid (false = rightS a b 1) := by show _ = _; rw [HQ.out]; simp [h1, h2]
      have t2 : (q == 0) = false := by simp; omega
      clear HQ
      go_enter Try.func11, Try.ntmps11
      go_wp2
      go_ret
      exact ⟨ret_bool HF.out, boxed _ _⟩
  by_cases h4 : f = 2
  · subst h4
    by_cases h2 : q = 0
    · have HF : Hid (true = rightS a b 2) := by show _ = _; rw [HQ.out]; simp [h1, h2]
      subst h2
      clear HQ
      go_enter Try.func11, Try.ntmps11
      go_wp2
      go_ret
      exact ⟨ret_bool HF.out, boxed _ _⟩
    · have HF : Hid (false = rightS a b 2) := by show _ = _; rw [HQ.out]; simp [h1, h2]
      have t2 : (q == 0) = false := by simp; omega
      clear HQ
      go_enter Try.func11, Try.ntmps11
      go_wp2
      go_ret
      exact ⟨ret_bool HF.out, boxed _ _⟩
  · have HF : Hid (false = rightS a b f) := by show _ = _; rw [HQ.out]; simp [h3, h4]
    have t3 : decide (f = 1) = false := by simp; omega
    have t4 : decide (f = 2) = false := by simp; omega
    clear HQ hqq
    go_enter Try.func11, Try.ntmps11
    go_wp2
    go_ret
    exact ⟨ret_bool HF.out, boxed _ _⟩

theorem rsright_any (a b c d e f : Int) (w : World) (ha : 0 ≤ a) (hb : 0 ≤ b) : Calls Try.prog 12 #[sV a b c d e f] w fun en w' => en = .returned (.bool (rightS a b f)) ∧ Below w.heap.size w w' := by
  have hq : b.tmod 8 = b % 8 := Int.tmod_eq_emod_of_nonneg hb
  obtain ⟨q, hqq⟩ : ∃ q, b.tmod 8 = q := ⟨_, rfl⟩
  have HQ : Hid (∀ x y : Int, rightS x b y = (decide (x ≠ 0) && (decide (y = 1) || decide (y = 2)) && decide (q = 0))) := fun x y => by unfold rightS; rw [← hq, hqq]
  clear hq
  by_cases h1 : a = 0
  · have HF : Hid (false = rightS a b f) := by show _ = _; rw [HQ.out, h1]; simp
    subst h1
    clear HQ hqq
    go_enter Try.func12, Try.ntmps12
    go_wp2
    go_ret
    exact ⟨ret_bool HF.out, boxed _ _⟩
  have h5 : (a != 0) = true := by simp; omega
  by_cases h3 : f = 1
  · subst h3
    by_cases h2 : q = 0
    · have HF : Hid (true = rightS a b 1) := by show _ = _; rw [HQ.out]; simp [h1, h2]
      subst h2
      clear HQ
      go_enter Try.func12, Try.ntmps12
      go_wp2
      go_ret
      exact ⟨ret_bool HF.out, boxed _ _⟩
    · have HF : Hid (false = rightS a b 1) := by show _ = _; rw [HQ.out]; simp [h1, h2]
      have t2 : (q == 0) = false := by simp; omega
      clear HQ
      go_enter Try.func12, Try.ntmps12
      go_wp2
      go_ret
      exact ⟨ret_bool HF.out, boxed _ _⟩
  by_cases h4 : f = 2
  · subst h4
    by_cases h2 : q = 0
    · have HF : Hid (true = rightS a b 2) := by show _ = _; rw [HQ.out]; simp [h1, h2]
      subst h2
      clear HQ
      go_enter Try.func12, Try.ntmps12
      go_wp2
      go_ret
      exact ⟨ret_bool HF.out, boxed _ _⟩
    · have HF : Hid (false = rightS a b 2) := by show _ = _; rw [HQ.out]; simp [h1, h2]
      have t2 : (q == 0) = false := by simp; omega
      clear HQ
      go_enter Try.func12, Try.ntmps12
      go_wp2
      go_ret
      exact ⟨ret_bool HF.out, boxed _ _⟩
  · have HF : Hid (false = rightS a b f) := by show _ = _; rw [HQ.out]; simp [h3, h4]
    have t3 : decide (f = 1) = false := by simp; omega
    have t4 : decide (f = 2) = false := by simp; omega
    clear HQ hqq
    go_enter Try.func12, Try.ntmps12
    go_wp2
    go_ret
    exact ⟨ret_bool HF.out, boxed _ _⟩

theorem splace_any (a b c d e f : Int) (w : World) : Calls Try.prog 13 #[sV a b c d e f] w fun en w' => en = .returned (.int .i64 (64 + 64 * (a % 2))) ∧ Below w.heap.size w w' := by
  have hp : 0 ≤ a % 2 ∧ a % 2 ≤ 1 := by omega
  have ha := u64_and1 a
  obtain ⟨p, hpe⟩ : ∃ p, a % 2 = p := ⟨_, rfl⟩
  rw [hpe] at ha hp ⊢
  have hpw : IntKind.i64.wrap p = p := by rw [IntKind.wrap_i64]; omega
  have HF : Hid (64 * (1 + p % 2) = 64 + 64 * p) := by show _ = _; omega
  clear hp hpe
  go_enter Try.func13, Try.ntmps13
  go_wp2_with (go_at_call 28; refine (hslot_any p _).mono ?_; rintro en w1 ⟨rfl, rfl⟩)
  go_ret
  exact ⟨ret_int HF.out, boxed _ _⟩

end Go.Proofs.Ytdajjkjpjhpnjaa
