/-
  LAYER 9: THE DOCUMENT'S Decode, all its ways.
-/
import Derived.Test.YtbgdaiecmpjcbaaObjDecR3
import Derived.Test.YtbgdaiecmpjcbaaObjDecR4
set_option linter.unusedVariables false
set_option linter.unusedSimpArgs false
namespace Go.Proofs.Ytbgdaiecmpjcbaa
open Go.RowKit

theorem may_one {k s : Nat} (h : mayB k s = true) : 1 ≤ k := by
  rcases Nat.eq_zero_or_pos k with h0 | h0
  · subst h0
    have e1 : hasI ((0 : Nat) : Int) = false := rfl
    have e2 : mostN ((0 : Nat) : Int) = 0 := rfl
    unfold mayB at h
    rw [e1, e2] at h
    simp at h
    omega
  · exact h0

theorem rodec_main {B : Nat} (A : Option Addr) (n c j k s : Nat) (zs : List Int) (w : World) (hr : Reads w B 1 A n (cellsOf .u8 zs)) (hB : B ≤ w.heap.size) (hz : AreB zs) (hl : n ≤ c) (hcap : c ≤ 9223372036854775807) (hn : n ≤ 140737488355328)
    (h : DecAt zs j k s) (hk1 : 1 ≤ k) (hs : frontN k ≤ s) :
    Calls Try.prog 22 #[.slice A n c, .int .i64 j] w (RDec zs j k s w) := by
  have h4 := h.kk
  by_cases hk : k ≤ 2
  · exact rodec_raw A n c j k s zs w hr hB hz hl hcap hn h ⟨hk1, hk⟩ hs
  · exact rodec_items A n c j k s zs w hr hB hz hl hcap hn h ⟨by omega, h4⟩ hs

theorem rodec_yes {B : Nat} (A : Option Addr) (n c j k s : Nat) (zs : List Int) (w : World) (hr : Reads w B 1 A n (cellsOf .u8 zs)) (hB : B ≤ w.heap.size) (hz : AreB zs) (hl : n ≤ c) (hcap : c ≤ 9223372036854775807) (hn : n ≤ 140737488355328)
    (h : DecAt zs j k s) (hd : decB zs j k s = true) :
    Calls Try.prog 22 #[.slice A n c, .int .i64 j] w fun e w' => ∃ A1 n1 c1 A2 n2 c2 A3 n3 c3, e = .returned (.tuple #[obV k A1 n1 c1 A2 n2 c2 A3 n3 c3, .int .i64 (j + (s + padn s 8) : Nat), .bool true]) ∧ Below w.heap.size w w' ∧
      ObR w' w'.heap.size A1 n1 c1 (dW (objB zs j s) k) A2 n2 c2 (dR (objB zs j s) k) A3 n3 c3 (dI (objB zs j s) k) := by
  have hm : mayB k s = true := by unfold decB at hd; simp only [Bool.and_eq_true] at hd; exact hd.1.1
  refine (rodec_main A n c j k s zs w hr hB hz hl hcap hn h (may_one hm) (right_may h hm).2.1).mono fun e w' ⟨hb, hh⟩ => ?_
  rcases hh with ⟨_, A1, n1, c1, A2, n2, c2, A3, n3, c3, h1, h2⟩ | ⟨h1, _⟩
  · exact ⟨A1, n1, c1, A2, n2, c2, A3, n3, c3, h1, hb, h2⟩
  · rw [hd] at h1; cases h1

theorem rodec_no {B : Nat} (A : Option Addr) (n c : Nat) (at_ : Int) (zs : List Int) (w : World) (hr : Reads w B 1 A n (cellsOf .u8 zs)) (hB : B ≤ w.heap.size) (hz : AreB zs) (hl : n ≤ c) (hcap : c ≤ 9223372036854775807) (hn : n ≤ 140737488355328) (h0 : -9223372036854775808 ≤ at_) (h1 : at_ ≤ 4611686018427387904)
    (hno : ∀ j k s, at_ = (j : Nat) → DecAt zs j k s → decB zs j k s = false) :
    Calls Try.prog 22 #[.slice A n c, .int .i64 at_] w fun e w' => e = .returned (.tuple #[obZ, .int .i64 0, .bool false]) ∧ Below w.heap.size w w' := by
  by_cases h : ∃ j k s, at_ = (j : Nat) ∧ DecAt zs j k s ∧ 1 ≤ k
  · obtain ⟨j, k, s, rfl, h, hk⟩ := h
    by_cases hs : s < frontN k
    · exact rodec_short A n c j k s zs w hr hB hz hl hcap hn h hk hs
    · refine (rodec_main A n c j k s zs w hr hB hz hl hcap hn h hk (by omega)).mono fun e w' ⟨hb, hh⟩ => ?_
      rcases hh with ⟨hd, _⟩ | ⟨_, he⟩
      · rw [hno j k s rfl h] at hd; cases hd
      · exact ⟨he, hb⟩
  · refine rodec_no1 A n c at_ zs w hr hB hz hl hcap hn h0 h1 (fun j k s e hd => ?_)
    rcases Nat.lt_or_ge k 1 with hk | hk
    · exact hk
    · exact absurd ⟨j, k, s, e, hd, hk⟩ h

end Go.Proofs.Ytbgdaiecmpjcbaa
