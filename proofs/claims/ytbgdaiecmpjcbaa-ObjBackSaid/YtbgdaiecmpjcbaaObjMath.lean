/-
  PLAIN ARITHMETIC FOR LAYER 9, of no program: how many words a kind has, which objects may be, their bytes, and the object that stands at a place of bytes.
-/
import Derived.Test.YtbgdaiecmpjcbaaLeMath
set_option linter.unusedVariables false
namespace Go.Proofs.Ytbgdaiecmpjcbaa

/-- How many words a kind has. -/
def kwN (k : Int) : Nat := if k = 1 then 5 else if k = 2 then 3 else if k = 3 then 5 else if k = 4 then 1 else 0
/-- How many bytes, or numbers, at most. -/
def mostN (k : Int) : Nat := if k = 1 then 1024 else if k = 2 then 64 else if k = 3 then 64 else if k = 4 then 1024 else 0
/-- Has it numbers? -/
def hasI (k : Int) : Bool := k == 3 || k == 4
/-- Where a kind's bytes, or numbers, begin. -/
def frontN (k : Int) : Nat := 16 + 8 * kwN k

theorem kind_cases (k : Int) : k = 1 ∨ k = 2 ∨ k = 3 ∨ k = 4 ∨ (k ≠ 1 ∧ k ≠ 2 ∧ k ≠ 3 ∧ k ≠ 4) := by omega
theorem kwN_no {k : Int} (h : k ≠ 1 ∧ k ≠ 2 ∧ k ≠ 3 ∧ k ≠ 4) : kwN k = 0 := by simp [kwN, h]
theorem mostN_no {k : Int} (h : k ≠ 1 ∧ k ≠ 2 ∧ k ≠ 3 ∧ k ≠ 4) : mostN k = 0 := by simp [mostN, h]
theorem hasI_no {k : Int} (h : k ≠ 1 ∧ k ≠ 2 ∧ k ≠ 3 ∧ k ≠ 4) : hasI k = false := by
  obtain ⟨_, _, h3, h4⟩ := h
  simp [hasI, h3, h4]
theorem kwN_le (k : Int) : kwN k ≤ 5 := by unfold kwN; split <;> (try split) <;> (try split) <;> (try split) <;> omega
theorem mostN_le (k : Int) : mostN k ≤ 1024 := by unfold mostN; split <;> (try split) <;> (try split) <;> (try split) <;> omega
theorem frontN_le (k : Int) : frontN k ≤ 56 := by have := kwN_le k; unfold frontN; omega

/-- May there be an object of a kind with so many words, bytes, numbers? -/
def rightN (k : Int) (a b c : Nat) : Bool :=
  if hasI k then decide (a = kwN k) && decide (b = 0) && decide (1 ≤ c) && decide (c ≤ mostN k) else decide (a = kwN k) && decide (c = 0) && decide (1 ≤ b) && decide (b ≤ mostN k)

theorem rightN_len {k : Int} {a b c : Nat} (h : rightN k a b c = true) : a = kwN k ∧ b ≤ 1024 ∧ c ≤ 1024 ∧ a ≤ 5 := by
  have h1 := mostN_le k
  have h2 := kwN_le k
  unfold rightN at h
  split at h <;> simp at h <;> omega
theorem rightN_kind {k : Int} {a b c : Nat} (h : rightN k a b c = true) : 1 ≤ k ∧ k ≤ 4 := by
  rcases kind_cases k with rfl | rfl | rfl | rfl | hk
  · omega
  · omega
  · omega
  · omega
  · have := mostN_no hk
    unfold rightN at h
    rw [hasI_no hk, this] at h
    simp at h
    omega

/-- How many bytes an object takes, without those that fill it up. -/
def bareN (k : Int) (b c : Nat) : Nat := frontN k + 8 * c + b

end Go.Proofs.Ytbgdaiecmpjcbaa
