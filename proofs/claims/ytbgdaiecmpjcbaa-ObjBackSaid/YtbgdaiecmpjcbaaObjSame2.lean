/-
  LAYER 9: Same OF PACKAGE obj, AND THE DOCUMENT'S: contracts, for every input.
-/
import Derived.Test.YtbgdaiecmpjcbaaObjSame
set_option linter.unusedVariables false
set_option linter.unusedSimpArgs false
namespace Go.Proofs.Ytbgdaiecmpjcbaa
open Go.RowKit

set_option maxHeartbeats 2000000 in
theorem osame_any {L : Nat} (k k' : Int) (A A' : Option Addr) (n n' c c' : Nat) (ws ws' : List Int) (B B' : Option Addr) (m m' d d' : Nat) (rs rs' : List Int) (C C' : Option Addr) (p p' q q' : Nat) (is is' : List Int) (w : World)
    (h : ObR w L A n c ws B m d rs C p q is) (h' : ObR w L A' n' c' ws' B' m' d' rs' C' p' q' is') (hL : L ≤ w.heap.size) (br : AreB rs) (br' : AreB rs') (hn : n ≤ 140737488355328 ∧ n' ≤ 140737488355328 ∧ p ≤ 140737488355328 ∧ p' ≤ 140737488355328) :
    Calls Try.prog 25 #[obV k A n c B m d C p q, obV k' A' n' c' B' m' d' C' p' q'] w fun e w' => e = .returned (.bool (sameO k k' ws ws' rs rs' is is')) ∧ Below w.heap.size w w' := by
  have hb0 : Below w.heap.size w ((w.alloc (.cells #[.int .i64 k, .slice A n c, .slice B m d, .slice C p q] 30)).alloc (.cells #[.int .i64 k', .slice A' n' c', .slice B' m' d', .slice C' p' q'] 30)) := ((Below.refl _ _).alloc (Nat.le_refl _) _).alloc (by simp) _
  have h1 := h.below hb0 hL
  have h2 := h'.below hb0 hL
  obtain ⟨n1, n2, n3, n4⟩ := hn
  clear h h'
  have HB := Lib.hid hb0
  clear hb0
  have HS : Hid (sameO k k' ws ws' rs rs' is is' = (decide (k = k') && (decide (ws = ws') && (decide (rs = rs') && decide (is = is'))))) := by
    show _ = _
    unfold sameO
    by_cases a : k = k' <;> by_cases b : ws = ws' <;> by_cases c : rs = rs' <;> by_cases d : is = is' <;> simp [a, b, c, d]
  obtain ⟨b1, e1⟩ : ∃ b, Hid (decide (ws = ws') = b) := ⟨_, rfl⟩
  obtain ⟨b2, e2⟩ : ∃ b, Hid (decide (rs = rs') = b) := ⟨_, rfl⟩
  obtain ⟨b3, e3⟩ : ∃ b, Hid (decide (is = is') = b) := ⟨_, rfl⟩
  by_cases hk : k = k'
  rotate_left
  · have t1 : (k == k') = false := by simpa using hk
    have HK := Lib.hid hk
    clear hk h1 h2
    go_enter Try.func25, Try.ntmps25
    go_wp2
    go_ret
    exact ⟨ret_bool (by rw [HS.out, decide_eq_false HK.out]; rfl), HB.out⟩
  subst hk
  cases b1
  · go_enter Try.func25, Try.ntmps25
    go_wp2_with (go_at_call 42; refine (weq_any A A' n n' c c' ws ws' _ h1.wr h2.wr n1 n2).mono ?_; rintro e w1 ⟨rfl, q1, rfl⟩; rw [e1.out])
    go_ret
    exact ⟨ret_bool (by rw [HS.out, e1.out]; simp), below_drewn HB.out _⟩
  cases b2
  · go_enter Try.func25, Try.ntmps25
    go_wp2_with (first
      | (go_at_call 42; refine (weq_any A A' n n' c c' ws ws' _ h1.wr h2.wr n1 n2).mono ?_; rintro e w1 ⟨rfl, q1, rfl⟩; rw [e1.out])
      | (go_at_call 43; refine (beq_any B B' m m' d d' rs rs' _ (h1.rr.drewN q1) (h2.rr.drewN q1) br br').mono ?_; rintro e w2 ⟨rfl, rfl⟩; rw [e2.out]))
    go_ret
    exact ⟨ret_bool (by rw [HS.out, e1.out, e2.out]; simp), below_drewn HB.out _⟩
  cases b3
  · go_enter Try.func25, Try.ntmps25
    have m1 : True := trivial
    go_wp2_with (first
      | (go_at_call 42; clear m1; refine (weq_any A A' n n' c c' ws ws' _ h1.wr h2.wr n1 n2).mono ?_; rintro e w1 ⟨rfl, q1, rfl⟩; rw [e1.out])
      | (go_at_call 43; refine (beq_any B B' m m' d d' rs rs' _ (h1.rr.drewN q1) (h2.rr.drewN q1) br br').mono ?_; rintro e w2 ⟨rfl, rfl⟩; rw [e2.out])
      | (go_at_call 42; refine (weq_any C C' p p' q q' is is' _ (h1.ir.drewN q1) (h2.ir.drewN q1) n3 n4).mono ?_; rintro e w1 ⟨rfl, q2, rfl⟩; rw [e3.out]))
    go_ret
    exact ⟨ret_bool (by rw [HS.out, e1.out, e2.out, e3.out]; simp), below_drewn HB.out _⟩
  · go_enter Try.func25, Try.ntmps25
    have m1 : True := trivial
    go_wp2_with (first
      | (go_at_call 42; clear m1; refine (weq_any A A' n n' c c' ws ws' _ h1.wr h2.wr n1 n2).mono ?_; rintro e w1 ⟨rfl, q1, rfl⟩; rw [e1.out])
      | (go_at_call 43; refine (beq_any B B' m m' d d' rs rs' _ (h1.rr.drewN q1) (h2.rr.drewN q1) br br').mono ?_; rintro e w2 ⟨rfl, rfl⟩; rw [e2.out])
      | (go_at_call 42; refine (weq_any C C' p p' q q' is is' _ (h1.ir.drewN q1) (h2.ir.drewN q1) n3 n4).mono ?_; rintro e w1 ⟨rfl, q2, rfl⟩; rw [e3.out]))
    go_ret
    exact ⟨ret_bool (by rw [HS.out, e1.out, e2.out, e3.out]; simp), below_drewn HB.out _⟩

set_option maxHeartbeats 2000000 in
theorem rosame_any {L : Nat} (k k' : Int) (A A' : Option Addr) (n n' c c' : Nat) (ws ws' : List Int) (B B' : Option Addr) (m m' d d' : Nat) (rs rs' : List Int) (C C' : Option Addr) (p p' q q' : Nat) (is is' : List Int) (w : World)
    (h : ObR w L A n c ws B m d rs C p q is) (h' : ObR w L A' n' c' ws' B' m' d' rs' C' p' q' is') (hL : L ≤ w.heap.size) (br : AreB rs) (br' : AreB rs') (hn : n ≤ 140737488355328 ∧ n' ≤ 140737488355328 ∧ p ≤ 140737488355328 ∧ p' ≤ 140737488355328) :
    Calls Try.prog 23 #[obV k A n c B m d C p q, obV k' A' n' c' B' m' d' C' p' q'] w fun e w' => e = .returned (.bool (sameO k k' ws ws' rs rs' is is')) ∧ Below w.heap.size w w' := by
  have hb0 : Below w.heap.size w ((w.alloc (.cells #[.int .i64 k, .slice A n c, .slice B m d, .slice C p q] 25)).alloc (.cells #[.int .i64 k', .slice A' n' c', .slice B' m' d', .slice C' p' q'] 25)) := ((Below.refl _ _).alloc (Nat.le_refl _) _).alloc (by simp) _
  have h1 := h.below hb0 hL
  have h2 := h'.below hb0 hL
  obtain ⟨n1, n2, n3, n4⟩ := hn
  clear h h'
  have HB := Lib.hid hb0
  clear hb0
  have HS : Hid (sameO k k' ws ws' rs rs' is is' = (decide (k = k') && (decide (ws = ws') && (decide (rs = rs') && decide (is = is'))))) := by
    show _ = _
    unfold sameO
    by_cases a : k = k' <;> by_cases b : ws = ws' <;> by_cases c : rs = rs' <;> by_cases d : is = is' <;> simp [a, b, c, d]
  obtain ⟨b1, e1⟩ : ∃ b, Hid (decide (ws = ws') = b) := ⟨_, rfl⟩
  obtain ⟨b2, e2⟩ : ∃ b, Hid (decide (rs = rs') = b) := ⟨_, rfl⟩
  obtain ⟨b3, e3⟩ : ∃ b, Hid (decide (is = is') = b) := ⟨_, rfl⟩
  by_cases hk : k = k'
  rotate_left
  · have t1 : (k == k') = false := by simpa using hk
    have HK := Lib.hid hk
    clear hk h1 h2
    go_enter Try.func23, Try.ntmps23
    go_wp2
    go_ret
    exact ⟨ret_bool (by rw [HS.out, decide_eq_false HK.out]; rfl), HB.out⟩
  subst hk
  cases b1
  · go_enter Try.func23, Try.ntmps23
    go_wp2_with (go_at_call 41; refine (rweq_any A A' n n' c c' ws ws' _ h1.wr h2.wr n1 n2).mono ?_; rintro e w1 ⟨rfl, q1, rfl⟩; rw [e1.out])
    go_ret
    exact ⟨ret_bool (by rw [HS.out, e1.out]; simp), below_drewn HB.out _⟩
  cases b2
  · go_enter Try.func23, Try.ntmps23
    go_wp2_with (first
      | (go_at_call 41; refine (rweq_any A A' n n' c c' ws ws' _ h1.wr h2.wr n1 n2).mono ?_; rintro e w1 ⟨rfl, q1, rfl⟩; rw [e1.out])
      | (go_at_call 12; refine (same_any B B' m m' d d' rs rs' _ (h1.rr.drewN q1) (h2.rr.drewN q1) br br').mono ?_; rintro e w2 ⟨rfl, rfl⟩; rw [e2.out]))
    go_ret
    exact ⟨ret_bool (by rw [HS.out, e1.out, e2.out]; simp), below_drewn HB.out _⟩
  cases b3
  · go_enter Try.func23, Try.ntmps23
    have m1 : True := trivial
    go_wp2_with (first
      | (go_at_call 41; clear m1; refine (rweq_any A A' n n' c c' ws ws' _ h1.wr h2.wr n1 n2).mono ?_; rintro e w1 ⟨rfl, q1, rfl⟩; rw [e1.out])
      | (go_at_call 12; refine (same_any B B' m m' d d' rs rs' _ (h1.rr.drewN q1) (h2.rr.drewN q1) br br').mono ?_; rintro e w2 ⟨rfl, rfl⟩; rw [e2.out])
      | (go_at_call 41; refine (rweq_any C C' p p' q q' is is' _ (h1.ir.drewN q1) (h2.ir.drewN q1) n3 n4).mono ?_; rintro e w1 ⟨rfl, q2, rfl⟩; rw [e3.out]))
    go_ret
    exact ⟨ret_bool (by rw [HS.out, e1.out, e2.out, e3.out]; simp), below_drewn HB.out _⟩
  · go_enter Try.func23, Try.ntmps23
    have m1 : True := trivial
    go_wp2_with (first
      | (go_at_call 41; clear m1; refine (rweq_any A A' n n' c c' ws ws' _ h1.wr h2.wr n1 n2).mono ?_; rintro e w1 ⟨rfl, q1, rfl⟩; rw [e1.out])
      | (go_at_call 12; refine (same_any B B' m m' d d' rs rs' _ (h1.rr.drewN q1) (h2.rr.drewN q1) br br').mono ?_; rintro e w2 ⟨rfl, rfl⟩; rw [e2.out])
      | (go_at_call 41; refine (rweq_any C C' p p' q q' is is' _ (h1.ir.drewN q1) (h2.ir.drewN q1) n3 n4).mono ?_; rintro e w1 ⟨rfl, q2, rfl⟩; rw [e3.out]))
    go_ret
    exact ⟨ret_bool (by rw [HS.out, e1.out, e2.out, e3.out]; simp), below_drewn HB.out _⟩

end Go.Proofs.Ytbgdaiecmpjcbaa
