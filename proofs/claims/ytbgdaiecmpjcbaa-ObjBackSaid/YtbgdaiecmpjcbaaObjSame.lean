/-
  LAYER 9: Same OF PACKAGE obj, AND THE DOCUMENT'S; what they call (slices.Equal, bytes.Equal, the document's Words): contracts, for every input.
-/
import Derived.Test.YtbgdaiecmpjcbaaObjFn
import Derived.Test.YtbgdaiecmpjcbaaLeR2
set_option linter.unusedVariables false
set_option linter.unusedSimpArgs false
namespace Go.Proofs.Ytbgdaiecmpjcbaa
open Go.RowKit

theorem take_ext_snoc {xs ys : List Int} {k : Nat} (hx : k < xs.length) (hy : k < ys.length) (h : xs.take k = ys.take k) (he : xs.getD k 0 = ys.getD k 0) : xs.take (k + 1) = ys.take (k + 1) := by
  rw [List.take_succ_eq_append_getElem hx, List.take_succ_eq_append_getElem hy, h]
  simp [List.getD_eq_getElem?_getD, List.getElem?_eq_getElem hx, List.getElem?_eq_getElem hy] at he
  rw [he]
theorem ne_of_getD {xs ys : List Int} {k : Nat} (he : xs.getD k 0 ≠ ys.getD k 0) : xs ≠ ys := fun h => he (by rw [h])

set_option maxHeartbeats 1000000 in
/-- slices.Equal of numbers. -/
theorem weq_any {L L' : Nat} (A A' : Option Addr) (n n' c c' : Nat) (xs ys : List Int) (w : World) (hx : Reads w L 1 A n (cellsOf .u64 xs)) (hy : Reads w L' 1 A' n' (cellsOf .u64 ys)) (hn : n ≤ 140737488355328) (hn' : n' ≤ 140737488355328) :
    Calls Try.prog 42 #[.slice A n c, .slice A' n' c'] w fun e w' => e = .returned (.bool (decide (xs = ys))) ∧ ∃ q, w' = w.drewN q := by
  have hlx := hx.len
  have hly := hy.len
  by_cases hnn : n = n'
  · subst hnn
    have HLX := Lib.hid hlx
    have HLY := Lib.hid hly
    clear hlx hly
    go_enter Try.func42, Try.ntmps42
    go_wp2
    go_loopw [13] (fun i wr => ∃ k q : Nat, k ≤ n ∧ i = .int .i64 k ∧ wr = w.drewN q ∧ Hid (xs.take k = ys.take k)) (fun i _ => n - (intOf i).toNat)
    case atStart => exact ⟨0, 0, Nat.zero_le _, rfl, rfl, rfl⟩
    case round =>
      obtain ⟨k, q, hk, rfl, rfl, heq⟩ := hrel
      by_cases hlt : k < n
      · obtain ⟨b1, o1, rfl, _, h1⟩ := hx.plain (by omega)
        obtain ⟨b2, o2, rfl, _, h2⟩ := hy.plain (by omega)
        have q1 := h1 k hlt
        have q2 := h2 k hlt
        generalize hxe : xs.getD k 0 = x at q1
        generalize hye : ys.getD k 0 = y at q2
        have i1 : (k : Int) < (n : Int) := by omega
        have HX := Lib.hid hxe
        have HY := Lib.hid hye
        clear h1 h2 hx hy hxe hye
        by_cases hxy : x = y
        · subst hxy
          go_wp2
          go_quiet (fail)
          go_wp2
          go_roundw
          case rel => exact ⟨k + 1, _, by omega, by go_num, rfl, take_ext_snoc (by rw [HLX.out]; exact hlt) (by rw [HLY.out]; exact hlt) heq.out (HX.out.trans HY.out.symm)⟩
          case measure => simp [intOf]; omega
        · have t1 : (x == y) = false := by simpa using hxy
          have HXY := Lib.hid hxy
          clear hxy
          go_wp2
          go_quiet (fail)
          go_wp2
          go_ret
          exact ⟨ret_bool (decide_eq_false (ne_of_getD (by rw [HX.out, HY.out]; exact HXY.out))).symm, _, World.drewN_drewN _ _ _⟩
      · have e : k = n := by omega
        subst e
        clear hx hy
        go_wp2
        go_ret
        refine ⟨ret_bool (decide_eq_true ?_).symm, _, rfl⟩
        have h := heq.out
        rwa [List.take_of_length_le (by rw [HLX.out]; exact Nat.le_refl _), List.take_of_length_le (by rw [HLY.out]; exact Nat.le_refl _)] at h
  · have HF : Hid (xs ≠ ys) := fun h => hnn (by rw [← hlx, ← hly, h])
    clear hlx hly hx hy
    go_enter Try.func42, Try.ntmps42
    go_wp2
    go_ret
    exact ⟨ret_bool (decide_eq_false HF.out).symm, 0, rfl⟩

set_option maxHeartbeats 1000000 in
/-- The document's comparison of numbers. -/
theorem rweq_any {L L' : Nat} (A A' : Option Addr) (n n' c c' : Nat) (xs ys : List Int) (w : World) (hx : Reads w L 1 A n (cellsOf .u64 xs)) (hy : Reads w L' 1 A' n' (cellsOf .u64 ys)) (hn : n ≤ 140737488355328) (hn' : n' ≤ 140737488355328) :
    Calls Try.prog 41 #[.slice A n c, .slice A' n' c'] w fun e w' => e = .returned (.bool (decide (xs = ys))) ∧ ∃ q, w' = w.drewN q := by
  have hlx := hx.len
  have hly := hy.len
  by_cases hnn : n = n'
  · subst hnn
    have HLX := Lib.hid hlx
    have HLY := Lib.hid hly
    clear hlx hly
    go_enter Try.func41, Try.ntmps41
    go_wp2
    go_loopw [5] (fun i wr => ∃ k q : Nat, k ≤ n ∧ i = .int .i64 k ∧ wr = w.drewN q ∧ Hid (xs.take k = ys.take k)) (fun i _ => n - (intOf i).toNat)
    case atStart => exact ⟨0, 0, Nat.zero_le _, rfl, rfl, rfl⟩
    case round =>
      obtain ⟨k, q, hk, rfl, rfl, heq⟩ := hrel
      by_cases hlt : k < n
      · obtain ⟨b1, o1, rfl, _, h1⟩ := hx.plain (by omega)
        obtain ⟨b2, o2, rfl, _, h2⟩ := hy.plain (by omega)
        have q1 := h1 k hlt
        have q2 := h2 k hlt
        generalize hxe : xs.getD k 0 = x at q1
        generalize hye : ys.getD k 0 = y at q2
        have i1 : (k : Int) < (n : Int) := by omega
        have HX := Lib.hid hxe
        have HY := Lib.hid hye
        clear h1 h2 hx hy hxe hye
        by_cases hxy : x = y
        · subst hxy
          go_wp2
          go_quiet (fail)
          go_wp2
          go_roundw
          case rel => exact ⟨k + 1, _, by omega, by go_num, rfl, take_ext_snoc (by rw [HLX.out]; exact hlt) (by rw [HLY.out]; exact hlt) heq.out (HX.out.trans HY.out.symm)⟩
          case measure => simp [intOf]; omega
        · have t1 : (x == y) = false := by simpa using hxy
          have HXY := Lib.hid hxy
          clear hxy
          go_wp2
          go_quiet (fail)
          go_wp2
          go_ret
          exact ⟨ret_bool (decide_eq_false (ne_of_getD (by rw [HX.out, HY.out]; exact HXY.out))).symm, _, World.drewN_drewN _ _ _⟩
      · have e : k = n := by omega
        subst e
        clear hx hy
        go_wp2
        go_ret
        refine ⟨ret_bool (decide_eq_true ?_).symm, _, rfl⟩
        have h := heq.out
        rwa [List.take_of_length_le (by rw [HLX.out]; exact Nat.le_refl _), List.take_of_length_le (by rw [HLY.out]; exact Nat.le_refl _)] at h
  · have HF : Hid (xs ≠ ys) := fun h => hnn (by rw [← hlx, ← hly, h])
    clear hlx hly hx hy
    go_enter Try.func41, Try.ntmps41
    go_wp2
    go_ret
    exact ⟨ret_bool (decide_eq_false HF.out).symm, 0, rfl⟩

theorem beq_any {L L' : Nat} (A A' : Option Addr) (n n' c c' : Nat) (xs ys : List Int) (w : World) (hx : Reads w L 1 A n (cellsOf .u8 xs)) (hy : Reads w L' 1 A' n' (cellsOf .u8 ys)) (bx : AreB xs) (byy : AreB ys) :
    Calls Try.prog 43 #[.slice A n c, .slice A' n' c'] w fun e w' => e = .returned (.bool (decide (xs = ys))) ∧ w = w' := by
  have h1 := run_text (P := Try.prog) 23 5 9 Try.underlying23 Try.underlying5 Try.underlying9 hx c
  have h2 := run_text (P := Try.prog) 23 5 9 Try.underlying23 Try.underlying5 Try.underlying9 hy c'
  clear hx hy
  go_enter Try.func43, Try.ntmps43
  go_wp2
  go_ret
  exact ⟨ret_bool (strOfNums_beq bx byy), rfl⟩

/-- An object by value, whose lists read so. -/
structure ObR (w : World) (L : Nat) (A : Option Addr) (n c : Nat) (ws : List Int) (B : Option Addr) (m d : Nat) (rs : List Int) (C : Option Addr) (p q : Nat) (is : List Int) : Prop where
  wr : Reads w L 1 A n (cellsOf .u64 ws)
  rr : Reads w L 1 B m (cellsOf .u8 rs)
  ir : Reads w L 1 C p (cellsOf .u64 is)
  wc : n ≤ c ∧ c ≤ 9223372036854775807
  rc : m ≤ d ∧ d ≤ 9223372036854775807
  ic : p ≤ q ∧ q ≤ 9223372036854775807

section
variable {w w' : World} {L L' : Nat} {A : Option Addr} {n c : Nat} {ws : List Int} {B : Option Addr} {m d : Nat} {rs : List Int} {C : Option Addr} {p q : Nat} {is : List Int}
theorem ObR.below (h : ObR w L A n c ws B m d rs C p q is) (hb : Below w.heap.size w w') (hL : L ≤ w.heap.size) : ObR w' L A n c ws B m d rs C p q is :=
  ⟨h.wr.keep fun p hp => hb.cell (by omega), h.rr.keep fun p hp => hb.cell (by omega), h.ir.keep fun p hp => hb.cell (by omega), h.wc, h.rc, h.ic⟩
theorem ObR.more (h : ObR w L A n c ws B m d rs C p q is) (hL : L ≤ L') : ObR w L' A n c ws B m d rs C p q is := ⟨h.wr.more hL, h.rr.more hL, h.ir.more hL, h.wc, h.rc, h.ic⟩
theorem ObR.chg {S : Nat → Prop} (h : ObR w L A n c ws B m d rs C p q is) (hc : Chg S w w') (hL : L ≤ w.heap.size) (hS : ∀ k, k < L → ¬ S k) : ObR w' L A n c ws B m d rs C p q is :=
  ⟨h.wr.keep fun p hp => World.cell?_of_block (hc.block _ (by omega) (hS _ hp)), h.rr.keep fun p hp => World.cell?_of_block (hc.block _ (by omega) (hS _ hp)), h.ir.keep fun p hp => World.cell?_of_block (hc.block _ (by omega) (hS _ hp)), h.wc, h.rc, h.ic⟩
end

/-- Are two objects alike? -/
def sameO (k k' : Int) (ws ws' rs rs' is is' : List Int) : Bool := decide (k = k' ∧ ws = ws' ∧ rs = rs' ∧ is = is')

theorem below_q {w w' : World} (h : ∃ q, w' = w.drewN q) : Below w.heap.size w w' := by
  obtain ⟨q, rfl⟩ := h
  exact below_drewn (Below.refl _ _) q


end Go.Proofs.Ytbgdaiecmpjcbaa
