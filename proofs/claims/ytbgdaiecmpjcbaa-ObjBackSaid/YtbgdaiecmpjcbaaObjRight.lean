/-
  LAYER 9: Right OF PACKAGE obj, AND THE DOCUMENT'S; Size: contracts, for every input.
-/
import Derived.Test.YtbgdaiecmpjcbaaObjFn
set_option linter.unusedVariables false
set_option linter.unusedSimpArgs false
namespace Go.Proofs.Ytbgdaiecmpjcbaa
open Go.RowKit

/-- The test of an object's numbers, step by step. -/
theorem rightN_eq (k : Int) (a b c x y : Nat) (h : Hid ((hasI k = true ∧ x = c ∧ y = b) ∨ (hasI k = false ∧ x = b ∧ y = c))) (t : Bool) (ht : t = (decide (a = kwN k) && decide (y = 0) && decide (1 ≤ x) && decide (x ≤ mostN k))) : t = rightN k a b c := by
  subst ht
  unfold rightN
  rcases h.out with ⟨h1, rfl, rfl⟩ | ⟨h1, rfl, rfl⟩ <;> rw [h1] <;> rfl






set_option maxHeartbeats 2000000 in
theorem oright_any (k : Int) (A : Option Addr) (n c : Nat) (B : Option Addr) (m d : Nat) (C : Option Addr) (p q : Nat) (w : World) (hn : n ≤ 9223372036854775807) (hm : m ≤ 9223372036854775807) (hp : p ≤ 9223372036854775807) :
    Calls Try.prog 13 #[obV k A n c B m d C p q] w fun e w' => e = .returned (.bool (rightN k n m p)) ∧ Below w.heap.size w w' := by
  have K0 := kwN_le k
  have M0 := mostN_le k
  have HW := Lib.hid (owords_any k)
  have HM := Lib.hid (omost_any k)
  have HH := Lib.hid (ohas_any k)
  have HR := Lib.hid (rightN_eq k n m p)
  generalize kwN k = K at *
  generalize mostN k = M at *
  generalize hasI k = b at *
  cases b
  · rcases (show n ≠ K ∨ (n = K ∧ p ≠ 0) ∨ (n = K ∧ p = 0 ∧ m = 0) ∨ (n = K ∧ p = 0 ∧ 1 ≤ m ∧ M < m) ∨ (n = K ∧ p = 0 ∧ 1 ≤ m ∧ m ≤ M) by omega) with h1 | ⟨rfl, h1⟩ | ⟨rfl, rfl, rfl⟩ | ⟨rfl, rfl, h2, h1⟩ | ⟨rfl, rfl, h2, h1⟩
    · have HF : Hid (n ≠ K) := h1
      have t1 : ((n : Int) == (K : Int)) = false := by simp; omega
      have t2 : decide ((n : Int) = (K : Int)) = false := by simp; omega
      have HR2 := Lib.hid (HR.out _ _ (.inr ⟨rfl, rfl, rfl⟩))
      clear HR
      clear h1
      go_enter Try.func13, Try.ntmps13
      go_wp2
      go_quiet (fail)
      go_wp2_with (go_at_call 32; refine (HH.out _).mono ?_; rintro e w1 ⟨rfl, rfl⟩)
      go_quiet ((first
        | (go_at_call 17; exact quietN_eq2 (HW.out _))
        | (go_at_call 33; exact quietN_eq2 (HM.out _))))
      go_wp2
      go_ret
      exact ⟨ret_bool (HR2.out _ (by have h := HF.out; simp; try omega)), below_drewn (below_drewn ((Below.refl _ _).alloc (Nat.le_refl _) _) _) _⟩
    · have HF : Hid (p ≠ 0) := h1
      have t1 : ((p : Int) == 0) = false := by simp; omega
      have t2 : decide ((p : Int) = 0) = false := by simp; omega
      have HR2 := Lib.hid (HR.out _ _ (.inr ⟨rfl, rfl, rfl⟩))
      clear HR
      clear h1
      go_enter Try.func13, Try.ntmps13
      go_wp2
      go_quiet (fail)
      go_wp2_with (go_at_call 32; refine (HH.out _).mono ?_; rintro e w1 ⟨rfl, rfl⟩)
      go_quiet ((first
        | (go_at_call 17; exact quietN_eq2 (HW.out _))
        | (go_at_call 33; exact quietN_eq2 (HM.out _))))
      go_wp2
      go_ret
      exact ⟨ret_bool (HR2.out _ (by have h := HF.out; simp; try omega)), below_drewn (below_drewn ((Below.refl _ _).alloc (Nat.le_refl _) _) _) _⟩
    · have HF : Hid True := trivial
      have HR2 := Lib.hid (HR.out _ _ (.inr ⟨rfl, rfl, rfl⟩))
      clear HR
      skip
      go_enter Try.func13, Try.ntmps13
      go_wp2
      go_quiet (fail)
      go_wp2_with (go_at_call 32; refine (HH.out _).mono ?_; rintro e w1 ⟨rfl, rfl⟩)
      go_quiet ((first
        | (go_at_call 17; exact quietN_eq2 (HW.out _))
        | (go_at_call 33; exact quietN_eq2 (HM.out _))))
      go_wp2
      go_ret
      exact ⟨ret_bool (HR2.out _ (by have h := HF.out; simp; try omega)), below_drewn (below_drewn ((Below.refl _ _).alloc (Nat.le_refl _) _) _) _⟩
    · have HF : Hid (1 ≤ m ∧ M < m) := ⟨h2, h1⟩
      have t2 : (1 : Int) ≤ (m : Int) := by omega
      have t1 : decide ((m : Int) ≤ (M : Int)) = false := by simp; omega
      have HR2 := Lib.hid (HR.out _ _ (.inr ⟨rfl, rfl, rfl⟩))
      clear HR
      clear h1 h2
      go_enter Try.func13, Try.ntmps13
      go_wp2
      go_quiet (fail)
      go_wp2_with (go_at_call 32; refine (HH.out _).mono ?_; rintro e w1 ⟨rfl, rfl⟩)
      go_quiet ((first
        | (go_at_call 17; exact quietN_eq2 (HW.out _))
        | (go_at_call 33; exact quietN_eq2 (HM.out _))))
      go_wp2
      go_ret
      exact ⟨ret_bool (HR2.out _ (by have h := HF.out; simp; try omega)), below_drewn (below_drewn ((Below.refl _ _).alloc (Nat.le_refl _) _) _) _⟩
    · have HF : Hid (1 ≤ m ∧ m ≤ M) := ⟨h2, h1⟩
      have t2 : (1 : Int) ≤ (m : Int) := by omega
      have t1 : (m : Int) ≤ (M : Int) := by omega
      have HR2 := Lib.hid (HR.out _ _ (.inr ⟨rfl, rfl, rfl⟩))
      clear HR
      clear h1 h2
      go_enter Try.func13, Try.ntmps13
      go_wp2
      go_quiet (fail)
      go_wp2_with (go_at_call 32; refine (HH.out _).mono ?_; rintro e w1 ⟨rfl, rfl⟩)
      go_quiet ((first
        | (go_at_call 17; exact quietN_eq2 (HW.out _))
        | (go_at_call 33; exact quietN_eq2 (HM.out _))))
      go_wp2
      go_ret
      exact ⟨ret_bool (HR2.out _ (by have h := HF.out; simp; try omega)), below_drewn (below_drewn ((Below.refl _ _).alloc (Nat.le_refl _) _) _) _⟩
  · rcases (show n ≠ K ∨ (n = K ∧ m ≠ 0) ∨ (n = K ∧ m = 0 ∧ p = 0) ∨ (n = K ∧ m = 0 ∧ 1 ≤ p ∧ M < p) ∨ (n = K ∧ m = 0 ∧ 1 ≤ p ∧ p ≤ M) by omega) with h1 | ⟨rfl, h1⟩ | ⟨rfl, rfl, rfl⟩ | ⟨rfl, rfl, h2, h1⟩ | ⟨rfl, rfl, h2, h1⟩
    · have HF : Hid (n ≠ K) := h1
      have t1 : ((n : Int) == (K : Int)) = false := by simp; omega
      have t2 : decide ((n : Int) = (K : Int)) = false := by simp; omega
      have HR2 := Lib.hid (HR.out _ _ (.inl ⟨rfl, rfl, rfl⟩))
      clear HR
      clear h1
      go_enter Try.func13, Try.ntmps13
      go_wp2
      go_quiet (fail)
      go_wp2_with (go_at_call 32; refine (HH.out _).mono ?_; rintro e w1 ⟨rfl, rfl⟩)
      go_quiet ((first
        | (go_at_call 17; exact quietN_eq2 (HW.out _))
        | (go_at_call 33; exact quietN_eq2 (HM.out _))))
      go_wp2
      go_ret
      exact ⟨ret_bool (HR2.out _ (by have h := HF.out; simp; try omega)), below_drewn (below_drewn ((Below.refl _ _).alloc (Nat.le_refl _) _) _) _⟩
    · have HF : Hid (m ≠ 0) := h1
      have t1 : ((m : Int) == 0) = false := by simp; omega
      have t2 : decide ((m : Int) = 0) = false := by simp; omega
      have HR2 := Lib.hid (HR.out _ _ (.inl ⟨rfl, rfl, rfl⟩))
      clear HR
      clear h1
      go_enter Try.func13, Try.ntmps13
      go_wp2
      go_quiet (fail)
      go_wp2_with (go_at_call 32; refine (HH.out _).mono ?_; rintro e w1 ⟨rfl, rfl⟩)
      go_quiet ((first
        | (go_at_call 17; exact quietN_eq2 (HW.out _))
        | (go_at_call 33; exact quietN_eq2 (HM.out _))))
      go_wp2
      go_ret
      exact ⟨ret_bool (HR2.out _ (by have h := HF.out; simp; try omega)), below_drewn (below_drewn ((Below.refl _ _).alloc (Nat.le_refl _) _) _) _⟩
    · have HF : Hid True := trivial
      have HR2 := Lib.hid (HR.out _ _ (.inl ⟨rfl, rfl, rfl⟩))
      clear HR
      skip
      go_enter Try.func13, Try.ntmps13
      go_wp2
      go_quiet (fail)
      go_wp2_with (go_at_call 32; refine (HH.out _).mono ?_; rintro e w1 ⟨rfl, rfl⟩)
      go_quiet ((first
        | (go_at_call 17; exact quietN_eq2 (HW.out _))
        | (go_at_call 33; exact quietN_eq2 (HM.out _))))
      go_wp2
      go_ret
      exact ⟨ret_bool (HR2.out _ (by have h := HF.out; simp; try omega)), below_drewn (below_drewn ((Below.refl _ _).alloc (Nat.le_refl _) _) _) _⟩
    · have HF : Hid (1 ≤ p ∧ M < p) := ⟨h2, h1⟩
      have t2 : (1 : Int) ≤ (p : Int) := by omega
      have t1 : decide ((p : Int) ≤ (M : Int)) = false := by simp; omega
      have HR2 := Lib.hid (HR.out _ _ (.inl ⟨rfl, rfl, rfl⟩))
      clear HR
      clear h1 h2
      go_enter Try.func13, Try.ntmps13
      go_wp2
      go_quiet (fail)
      go_wp2_with (go_at_call 32; refine (HH.out _).mono ?_; rintro e w1 ⟨rfl, rfl⟩)
      go_quiet ((first
        | (go_at_call 17; exact quietN_eq2 (HW.out _))
        | (go_at_call 33; exact quietN_eq2 (HM.out _))))
      go_wp2
      go_ret
      exact ⟨ret_bool (HR2.out _ (by have h := HF.out; simp; try omega)), below_drewn (below_drewn ((Below.refl _ _).alloc (Nat.le_refl _) _) _) _⟩
    · have HF : Hid (1 ≤ p ∧ p ≤ M) := ⟨h2, h1⟩
      have t2 : (1 : Int) ≤ (p : Int) := by omega
      have t1 : (p : Int) ≤ (M : Int) := by omega
      have HR2 := Lib.hid (HR.out _ _ (.inl ⟨rfl, rfl, rfl⟩))
      clear HR
      clear h1 h2
      go_enter Try.func13, Try.ntmps13
      go_wp2
      go_quiet (fail)
      go_wp2_with (go_at_call 32; refine (HH.out _).mono ?_; rintro e w1 ⟨rfl, rfl⟩)
      go_quiet ((first
        | (go_at_call 17; exact quietN_eq2 (HW.out _))
        | (go_at_call 33; exact quietN_eq2 (HM.out _))))
      go_wp2
      go_ret
      exact ⟨ret_bool (HR2.out _ (by have h := HF.out; simp; try omega)), below_drewn (below_drewn ((Below.refl _ _).alloc (Nat.le_refl _) _) _) _⟩

set_option maxHeartbeats 4000000 in
theorem rright_any (k : Int) (A : Option Addr) (n c : Nat) (B : Option Addr) (m d : Nat) (C : Option Addr) (p q : Nat) (w : World) (hn : n ≤ 9223372036854775807) (hm : m ≤ 9223372036854775807) (hp : p ≤ 9223372036854775807) :
    Calls Try.prog 14 #[obV k A n c B m d C p q] w fun e w' => e = .returned (.bool (rightN k n m p)) ∧ Below w.heap.size w w' := by
  rcases kind_cases k with rfl | rfl | rfl | rfl | hk
  rotate_left 4
  · have HW := Lib.hid (rwordsk_any k)
    have HR : Hid (false = rightN k n m p) := by
      show _ = _
      unfold rightN
      rw [hasI_no hk, mostN_no hk]
      simp
      omega
    rw [kwN_no hk] at HW
    clear hk
    go_enter Try.func14, Try.ntmps14
    go_wp2
    go_quiet ((go_at_call 16; exact quietN_eq (HW.out _)))
    go_wp2
    go_ret
    exact ⟨ret_bool HR.out, below_drewn ((Below.refl _ _).alloc (Nat.le_refl _) _) _⟩
  · rcases (show n ≠ 5 ∨ (n = 5 ∧ p ≠ 0) ∨ (n = 5 ∧ p = 0 ∧ m = 0) ∨ (n = 5 ∧ p = 0 ∧ 1 ≤ m ∧ 1024 < m) ∨ (n = 5 ∧ p = 0 ∧ 1 ≤ m ∧ m ≤ 1024) by omega) with h1 | ⟨rfl, h1⟩ | ⟨rfl, rfl, rfl⟩ | ⟨rfl, rfl, h2, h1⟩ | ⟨rfl, rfl, h2, h1⟩
    · have HF : Hid (false = rightN 1 n m p) := by show _ = _; simp [rightN, hasI, kwN, mostN]; omega
      have t1 : ((n : Int) == 5) = false := by simp; omega
      have t2 : decide ((n : Int) = 5) = false := by simp; omega
      have HW : Hid (∀ w, Calls Try.prog 16 #[.int .i64 1] w fun e w' => e = .returned (.int .i64 5) ∧ w = w') := rwordsk_any 1
      clear h1
      go_enter Try.func14, Try.ntmps14
      go_wp2
      go_quiet ((go_at_call 16; exact quietN_eq (HW.out _)))
      go_wp2
      go_ret
      exact ⟨ret_bool HF.out, below_drewn ((Below.refl _ _).alloc (Nat.le_refl _) _) _⟩
    · have HF : Hid (false = rightN 1 5 m p) := by show _ = _; simp [rightN, hasI, kwN, mostN]; omega
      have t1 : ((p : Int) == 0) = false := by simp; omega
      have t2 : decide ((p : Int) = 0) = false := by simp; omega
      have HW : Hid (∀ w, Calls Try.prog 16 #[.int .i64 1] w fun e w' => e = .returned (.int .i64 5) ∧ w = w') := rwordsk_any 1
      clear h1
      go_enter Try.func14, Try.ntmps14
      go_wp2
      go_quiet ((go_at_call 16; exact quietN_eq (HW.out _)))
      go_wp2
      go_quiet (fail)
      go_wp2
      go_ret
      exact ⟨ret_bool HF.out, below_drewn ((Below.refl _ _).alloc (Nat.le_refl _) _) _⟩
    · have HF : Hid (false = rightN 1 5 0 0) := by show _ = _; simp [rightN, hasI, kwN, mostN]
      have HW : Hid (∀ w, Calls Try.prog 16 #[.int .i64 1] w fun e w' => e = .returned (.int .i64 5) ∧ w = w') := rwordsk_any 1
      skip
      go_enter Try.func14, Try.ntmps14
      go_wp2
      go_quiet ((go_at_call 16; exact quietN_eq (HW.out _)))
      go_wp2
      go_quiet (fail)
      go_wp2
      go_ret
      exact ⟨ret_bool HF.out, below_drewn ((Below.refl _ _).alloc (Nat.le_refl _) _) _⟩
    · have HF : Hid (false = rightN 1 5 m 0) := by show _ = _; simp [rightN, hasI, kwN, mostN]; omega
      have t2 : (1 : Int) ≤ (m : Int) := by omega
      have t1 : decide ((m : Int) ≤ 1024) = false := by simp; omega
      have HW : Hid (∀ w, Calls Try.prog 16 #[.int .i64 1] w fun e w' => e = .returned (.int .i64 5) ∧ w = w') := rwordsk_any 1
      clear h1 h2
      go_enter Try.func14, Try.ntmps14
      go_wp2
      go_quiet ((go_at_call 16; exact quietN_eq (HW.out _)))
      go_wp2
      go_quiet (fail)
      go_wp2
      go_ret
      exact ⟨ret_bool HF.out, below_drewn ((Below.refl _ _).alloc (Nat.le_refl _) _) _⟩
    · have HF : Hid (true = rightN 1 5 m 0) := by show _ = _; simp [rightN, hasI, kwN, mostN]; omega
      have t2 : (1 : Int) ≤ (m : Int) := by omega
      have t1 : (m : Int) ≤ 1024 := by omega
      have HW : Hid (∀ w, Calls Try.prog 16 #[.int .i64 1] w fun e w' => e = .returned (.int .i64 5) ∧ w = w') := rwordsk_any 1
      clear h1 h2
      go_enter Try.func14, Try.ntmps14
      go_wp2
      go_quiet ((go_at_call 16; exact quietN_eq (HW.out _)))
      go_wp2
      go_quiet (fail)
      go_wp2
      go_ret
      exact ⟨ret_bool HF.out, below_drewn ((Below.refl _ _).alloc (Nat.le_refl _) _) _⟩
  · rcases (show n ≠ 3 ∨ (n = 3 ∧ p ≠ 0) ∨ (n = 3 ∧ p = 0 ∧ m = 0) ∨ (n = 3 ∧ p = 0 ∧ 1 ≤ m ∧ 64 < m) ∨ (n = 3 ∧ p = 0 ∧ 1 ≤ m ∧ m ≤ 64) by omega) with h1 | ⟨rfl, h1⟩ | ⟨rfl, rfl, rfl⟩ | ⟨rfl, rfl, h2, h1⟩ | ⟨rfl, rfl, h2, h1⟩
    · have HF : Hid (false = rightN 2 n m p) := by show _ = _; simp [rightN, hasI, kwN, mostN]; omega
      have t1 : ((n : Int) == 3) = false := by simp; omega
      have t2 : decide ((n : Int) = 3) = false := by simp; omega
      have HW : Hid (∀ w, Calls Try.prog 16 #[.int .i64 2] w fun e w' => e = .returned (.int .i64 3) ∧ w = w') := rwordsk_any 2
      clear h1
      go_enter Try.func14, Try.ntmps14
      go_wp2
      go_quiet ((go_at_call 16; exact quietN_eq (HW.out _)))
      go_wp2
      go_ret
      exact ⟨ret_bool HF.out, below_drewn ((Below.refl _ _).alloc (Nat.le_refl _) _) _⟩
    · have HF : Hid (false = rightN 2 3 m p) := by show _ = _; simp [rightN, hasI, kwN, mostN]; omega
      have t1 : ((p : Int) == 0) = false := by simp; omega
      have t2 : decide ((p : Int) = 0) = false := by simp; omega
      have HW : Hid (∀ w, Calls Try.prog 16 #[.int .i64 2] w fun e w' => e = .returned (.int .i64 3) ∧ w = w') := rwordsk_any 2
      clear h1
      go_enter Try.func14, Try.ntmps14
      go_wp2
      go_quiet ((go_at_call 16; exact quietN_eq (HW.out _)))
      go_wp2
      go_quiet (fail)
      go_wp2
      go_ret
      exact ⟨ret_bool HF.out, below_drewn ((Below.refl _ _).alloc (Nat.le_refl _) _) _⟩
    · have HF : Hid (false = rightN 2 3 0 0) := by show _ = _; simp [rightN, hasI, kwN, mostN]
      have HW : Hid (∀ w, Calls Try.prog 16 #[.int .i64 2] w fun e w' => e = .returned (.int .i64 3) ∧ w = w') := rwordsk_any 2
      skip
      go_enter Try.func14, Try.ntmps14
      go_wp2
      go_quiet ((go_at_call 16; exact quietN_eq (HW.out _)))
      go_wp2
      go_quiet (fail)
      go_wp2
      go_ret
      exact ⟨ret_bool HF.out, below_drewn ((Below.refl _ _).alloc (Nat.le_refl _) _) _⟩
    · have HF : Hid (false = rightN 2 3 m 0) := by show _ = _; simp [rightN, hasI, kwN, mostN]; omega
      have t2 : (1 : Int) ≤ (m : Int) := by omega
      have t1 : decide ((m : Int) ≤ 64) = false := by simp; omega
      have HW : Hid (∀ w, Calls Try.prog 16 #[.int .i64 2] w fun e w' => e = .returned (.int .i64 3) ∧ w = w') := rwordsk_any 2
      clear h1 h2
      go_enter Try.func14, Try.ntmps14
      go_wp2
      go_quiet ((go_at_call 16; exact quietN_eq (HW.out _)))
      go_wp2
      go_quiet (fail)
      go_wp2
      go_ret
      exact ⟨ret_bool HF.out, below_drewn ((Below.refl _ _).alloc (Nat.le_refl _) _) _⟩
    · have HF : Hid (true = rightN 2 3 m 0) := by show _ = _; simp [rightN, hasI, kwN, mostN]; omega
      have t2 : (1 : Int) ≤ (m : Int) := by omega
      have t1 : (m : Int) ≤ 64 := by omega
      have HW : Hid (∀ w, Calls Try.prog 16 #[.int .i64 2] w fun e w' => e = .returned (.int .i64 3) ∧ w = w') := rwordsk_any 2
      clear h1 h2
      go_enter Try.func14, Try.ntmps14
      go_wp2
      go_quiet ((go_at_call 16; exact quietN_eq (HW.out _)))
      go_wp2
      go_quiet (fail)
      go_wp2
      go_ret
      exact ⟨ret_bool HF.out, below_drewn ((Below.refl _ _).alloc (Nat.le_refl _) _) _⟩
  · rcases (show n ≠ 5 ∨ (n = 5 ∧ m ≠ 0) ∨ (n = 5 ∧ m = 0 ∧ p = 0) ∨ (n = 5 ∧ m = 0 ∧ 1 ≤ p ∧ 64 < p) ∨ (n = 5 ∧ m = 0 ∧ 1 ≤ p ∧ p ≤ 64) by omega) with h1 | ⟨rfl, h1⟩ | ⟨rfl, rfl, rfl⟩ | ⟨rfl, rfl, h2, h1⟩ | ⟨rfl, rfl, h2, h1⟩
    · have HF : Hid (false = rightN 3 n m p) := by show _ = _; simp [rightN, hasI, kwN, mostN]; omega
      have t1 : ((n : Int) == 5) = false := by simp; omega
      have t2 : decide ((n : Int) = 5) = false := by simp; omega
      have HW : Hid (∀ w, Calls Try.prog 16 #[.int .i64 3] w fun e w' => e = .returned (.int .i64 5) ∧ w = w') := rwordsk_any 3
      clear h1
      go_enter Try.func14, Try.ntmps14
      go_wp2
      go_quiet ((go_at_call 16; exact quietN_eq (HW.out _)))
      go_wp2
      go_ret
      exact ⟨ret_bool HF.out, below_drewn ((Below.refl _ _).alloc (Nat.le_refl _) _) _⟩
    · have HF : Hid (false = rightN 3 5 m p) := by show _ = _; simp [rightN, hasI, kwN, mostN]; omega
      have t1 : ((m : Int) == 0) = false := by simp; omega
      have t2 : decide ((m : Int) = 0) = false := by simp; omega
      have HW : Hid (∀ w, Calls Try.prog 16 #[.int .i64 3] w fun e w' => e = .returned (.int .i64 5) ∧ w = w') := rwordsk_any 3
      clear h1
      go_enter Try.func14, Try.ntmps14
      go_wp2
      go_quiet ((go_at_call 16; exact quietN_eq (HW.out _)))
      go_wp2
      go_quiet (fail)
      go_wp2
      go_ret
      exact ⟨ret_bool HF.out, below_drewn ((Below.refl _ _).alloc (Nat.le_refl _) _) _⟩
    · have HF : Hid (false = rightN 3 5 0 0) := by show _ = _; simp [rightN, hasI, kwN, mostN]
      have HW : Hid (∀ w, Calls Try.prog 16 #[.int .i64 3] w fun e w' => e = .returned (.int .i64 5) ∧ w = w') := rwordsk_any 3
      skip
      go_enter Try.func14, Try.ntmps14
      go_wp2
      go_quiet ((go_at_call 16; exact quietN_eq (HW.out _)))
      go_wp2
      go_quiet (fail)
      go_wp2
      go_ret
      exact ⟨ret_bool HF.out, below_drewn ((Below.refl _ _).alloc (Nat.le_refl _) _) _⟩
    · have HF : Hid (false = rightN 3 5 0 p) := by show _ = _; simp [rightN, hasI, kwN, mostN]; omega
      have t2 : (1 : Int) ≤ (p : Int) := by omega
      have t1 : decide ((p : Int) ≤ 64) = false := by simp; omega
      have HW : Hid (∀ w, Calls Try.prog 16 #[.int .i64 3] w fun e w' => e = .returned (.int .i64 5) ∧ w = w') := rwordsk_any 3
      clear h1 h2
      go_enter Try.func14, Try.ntmps14
      go_wp2
      go_quiet ((go_at_call 16; exact quietN_eq (HW.out _)))
      go_wp2
      go_quiet (fail)
      go_wp2
      go_ret
      exact ⟨ret_bool HF.out, below_drewn ((Below.refl _ _).alloc (Nat.le_refl _) _) _⟩
    · have HF : Hid (true = rightN 3 5 0 p) := by show _ = _; simp [rightN, hasI, kwN, mostN]; omega
      have t2 : (1 : Int) ≤ (p : Int) := by omega
      have t1 : (p : Int) ≤ 64 := by omega
      have HW : Hid (∀ w, Calls Try.prog 16 #[.int .i64 3] w fun e w' => e = .returned (.int .i64 5) ∧ w = w') := rwordsk_any 3
      clear h1 h2
      go_enter Try.func14, Try.ntmps14
      go_wp2
      go_quiet ((go_at_call 16; exact quietN_eq (HW.out _)))
      go_wp2
      go_quiet (fail)
      go_wp2
      go_ret
      exact ⟨ret_bool HF.out, below_drewn ((Below.refl _ _).alloc (Nat.le_refl _) _) _⟩
  · rcases (show n ≠ 1 ∨ (n = 1 ∧ m ≠ 0) ∨ (n = 1 ∧ m = 0 ∧ p = 0) ∨ (n = 1 ∧ m = 0 ∧ 1 ≤ p ∧ 1024 < p) ∨ (n = 1 ∧ m = 0 ∧ 1 ≤ p ∧ p ≤ 1024) by omega) with h1 | ⟨rfl, h1⟩ | ⟨rfl, rfl, rfl⟩ | ⟨rfl, rfl, h2, h1⟩ | ⟨rfl, rfl, h2, h1⟩
    · have HF : Hid (false = rightN 4 n m p) := by show _ = _; simp [rightN, hasI, kwN, mostN]; omega
      have t1 : ((n : Int) == 1) = false := by simp; omega
      have t2 : decide ((n : Int) = 1) = false := by simp; omega
      have HW : Hid (∀ w, Calls Try.prog 16 #[.int .i64 4] w fun e w' => e = .returned (.int .i64 1) ∧ w = w') := rwordsk_any 4
      clear h1
      go_enter Try.func14, Try.ntmps14
      go_wp2
      go_quiet ((go_at_call 16; exact quietN_eq (HW.out _)))
      go_wp2
      go_ret
      exact ⟨ret_bool HF.out, below_drewn ((Below.refl _ _).alloc (Nat.le_refl _) _) _⟩
    · have HF : Hid (false = rightN 4 1 m p) := by show _ = _; simp [rightN, hasI, kwN, mostN]; omega
      have t1 : ((m : Int) == 0) = false := by simp; omega
      have t2 : decide ((m : Int) = 0) = false := by simp; omega
      have HW : Hid (∀ w, Calls Try.prog 16 #[.int .i64 4] w fun e w' => e = .returned (.int .i64 1) ∧ w = w') := rwordsk_any 4
      clear h1
      go_enter Try.func14, Try.ntmps14
      go_wp2
      go_quiet ((go_at_call 16; exact quietN_eq (HW.out _)))
      go_wp2
      go_quiet (fail)
      go_wp2
      go_ret
      exact ⟨ret_bool HF.out, below_drewn ((Below.refl _ _).alloc (Nat.le_refl _) _) _⟩
    · have HF : Hid (false = rightN 4 1 0 0) := by show _ = _; simp [rightN, hasI, kwN, mostN]
      have HW : Hid (∀ w, Calls Try.prog 16 #[.int .i64 4] w fun e w' => e = .returned (.int .i64 1) ∧ w = w') := rwordsk_any 4
      skip
      go_enter Try.func14, Try.ntmps14
      go_wp2
      go_quiet ((go_at_call 16; exact quietN_eq (HW.out _)))
      go_wp2
      go_quiet (fail)
      go_wp2
      go_ret
      exact ⟨ret_bool HF.out, below_drewn ((Below.refl _ _).alloc (Nat.le_refl _) _) _⟩
    · have HF : Hid (false = rightN 4 1 0 p) := by show _ = _; simp [rightN, hasI, kwN, mostN]; omega
      have t2 : (1 : Int) ≤ (p : Int) := by omega
      have t1 : decide ((p : Int) ≤ 1024) = false := by simp; omega
      have HW : Hid (∀ w, Calls Try.prog 16 #[.int .i64 4] w fun e w' => e = .returned (.int .i64 1) ∧ w = w') := rwordsk_any 4
      clear h1 h2
      go_enter Try.func14, Try.ntmps14
      go_wp2
      go_quiet ((go_at_call 16; exact quietN_eq (HW.out _)))
      go_wp2
      go_quiet (fail)
      go_wp2
      go_ret
      exact ⟨ret_bool HF.out, below_drewn ((Below.refl _ _).alloc (Nat.le_refl _) _) _⟩
    · have HF : Hid (true = rightN 4 1 0 p) := by show _ = _; simp [rightN, hasI, kwN, mostN]; omega
      have t2 : (1 : Int) ≤ (p : Int) := by omega
      have t1 : (p : Int) ≤ 1024 := by omega
      have HW : Hid (∀ w, Calls Try.prog 16 #[.int .i64 4] w fun e w' => e = .returned (.int .i64 1) ∧ w = w') := rwordsk_any 4
      clear h1 h2
      go_enter Try.func14, Try.ntmps14
      go_wp2
      go_quiet ((go_at_call 16; exact quietN_eq (HW.out _)))
      go_wp2
      go_quiet (fail)
      go_wp2
      go_ret
      exact ⟨ret_bool HF.out, below_drewn ((Below.refl _ _).alloc (Nat.le_refl _) _) _⟩

theorem obare_any (k : Int) (A : Option Addr) (n c : Nat) (B : Option Addr) (m d : Nat) (C : Option Addr) (p q : Nat) (w : World) (hm : m ≤ 1099511627776) (hp : p ≤ 1099511627776) :
    Calls Try.prog 27 #[obV k A n c B m d C p q] w fun e w' => e = .returned (.int .i64 (bareN k m p)) ∧ Below w.heap.size w w' := by
  have hk := frontN_le k
  go_enter Try.func27, Try.ntmps27
  go_wp2
  go_quiet ((go_at_call 20; exact quietN_eq (oitem_any k _ _ (by omega) (by omega))))
  go_wp2
  go_ret
  exact ⟨ret_int (by unfold bareN; omega), below_drewn ((Below.refl _ _).alloc (Nat.le_refl _) _) _⟩

theorem osize_any (k : Int) (A : Option Addr) (n c : Nat) (B : Option Addr) (m d : Nat) (C : Option Addr) (p q : Nat) (w : World) (hm : m ≤ 1099511627776) (hp : p ≤ 1099511627776) :
    Calls Try.prog 15 #[obV k A n c B m d C p q] w fun e w' => e = .returned (.int .i64 (algn (bareN k m p))) ∧ Below w.heap.size w w' := by
  have hk := frontN_le k
  have hb : bareN k m p ≤ 100000000000000 := by unfold bareN; omega
  go_enter Try.func15, Try.ntmps15
  go_wp2_with (first
    | (go_at_call 27; refine (obare_any k A n c B m d C p q _ hm hp).mono ?_; rintro e w1 ⟨rfl, hb1⟩)
    | (go_at_call 34; refine (align_any _ _ (by omega) (by omega)).mono ?_; rintro e w2 ⟨rfl, rfl⟩))
  go_ret
  exact ⟨rfl, ((Below.refl _ _).alloc (Nat.le_refl _) _).trans (hb1.mono (by simp))⟩


end Go.Proofs.Ytbgdaiecmpjcbaa
