/-
  WHAT Bytes AND Align OF PACKAGE le DO, AND THE DOCUMENT'S OWN ANSWERS: contracts, for every input.
-/
import Derived.Test.YtdajjkjpjhpnjaaChecked
import Derived.Test.YtdajjkjpjhpnjaaWords
import Derived.Test.YtdajjkjpjhpnjaaInfo
import Derived.Test.YtdajjkjpjhpnjaaLeMath
import Derived.WalkKit
import Derived.Outline
import Derived.Lib.Hide
set_option linter.unusedVariables false
set_option maxRecDepth 100000
namespace Go.Proofs.Ytdajjkjpjhpnjaa
open Go.RowKit

theorem bytes_in (n v : Int) (m : Nat) (w : World) (hm : (m : Int) = min (max v 0) 8) :
    Calls Try.prog 34 #[.int .u64 n, .int .i64 v] w fun e w' => e = .returned (.slice (some ⟨w.heap.size, 0, none⟩) m m) ∧ w'.ownsRow w.heap.size 5 1 (.slice (some ⟨w.heap.size, 0, none⟩) m m) m (cellsOf .u8 (enb m n)) ∧ Below w.heap.size w w' := by
  obtain ⟨i0, hi, hz0, hz1, hz2⟩ := info_parts byteInfo
  have hm8 : m ≤ 8 := by omega
  have HM := Lib.hid hm
  clear hm
  have hbw : Below w.heap.size w w := Below.refl _ _
  go_enter Try.func34, Try.ntmps34
  go_wp2_with (at_make; refine wpList_make_full _ rfl _ _ 26 rfl w.heap.size 5 i0 (.int .u8 0) 1 Try.underlying26 hi hz0 hz1 _ _ _ _ m rfl rfl ?_ ?_ ?_ ?_ (Nat.le_refl _) ?_)
  all_goals try (have h := HM.out; omega)
  all_goals try (rw [hz2]; omega)
  all_goals try (unfold maxLen; omega)
  all_goals
    intro w1 hown hgr
    have hb1 : Below w.heap.size w w1 := hbw.grown hgr (Nat.le_refl _) (by simp)
    have hst : (madeCells #[Value.int IntKind.u8 0] m).toList = cellsOf .u8 (List.replicate m 0) := by
      rw [toList_madeCells_one]; simp [cellsOf]
    rw [hst] at hown
    clear hst hgr
    go_wp2
    go_loopw [6, 13] (fun _ i wr => ∃ k : Nat, k ≤ m ∧ i = .int .i64 k ∧ wr.ownsRow w.heap.size 5 1 (.slice (some ⟨w.heap.size, 0, none⟩) m m) m (cellsOf .u8 (enb k n ++ List.replicate (m - k) 0)) ∧ Below w.heap.size w wr)
      (fun _ i _ => m - (intOf i).toNat)
    case atStart => exact ⟨0, Nat.zero_le _, rfl, by simpa [enb] using hown, hb1⟩
    case round =>
      obtain ⟨k, hk, rfl, hown, hb⟩ := hrel
      by_cases hlt : k < m
      · have hlen : (enb k n ++ List.replicate (m - k) 0).length = m := by rw [List.length_append, enb_length, List.length_replicate]; omega
        have hcell : _ := hown.cellAt k (by omega)
        rw [cellsOf_get (by omega)] at hcell
        have hfr := hown.frozenAt k
        go_wp2
        go_roundw
        case rel =>
          have hs := (hown.stored k (.int .u8 (n / 2 ^ (8 * k) % 256))).1
          rw [cellsOf_set, enb_fill hlt] at hs
          exact ⟨k + 1, by omega, by go_num, hs, hb.setCell (Nat.le_refl _) _⟩
        case measure => simp [intOf]; omega
      · have e : k = m := by omega
        subst e
        go_wp2
        go_ret
        exact ⟨rfl, by simpa using hown, hb⟩

/-- le.Bytes: the least bytes of n, in a new row. -/
theorem bytes_any (n v : Int) (w : World) : Calls Try.prog 34 #[.int .u64 n, .int .i64 v] w fun e w' =>
    ∃ A c, e = .returned (.slice A (bts n v).length c) ∧ w'.ownsRow w.heap.size 5 1 (.slice A (bts n v).length c) (bts n v).length (cellsOf .u8 (bts n v)) ∧ Below w.heap.size w w' := by
  refine (bytes_in n v (min v.toNat 8) w (by omega)).mono fun e w' ⟨he, hown, hb⟩ => ?_
  rw [bts_length]; exact ⟨_, _, he, hown, hb⟩

theorem rbytes_in (n v : Int) (m : Nat) (w : World) (h0 : Hid (0 ≤ n ∧ n < 18446744073709551616)) (hm : (m : Int) = min (max v 0) 8) :
    Calls Try.prog 26 #[.int .u64 n, .int .i64 v] w fun e w' => ∃ x, e = .returned x ∧ w'.ownsRow w.heap.size 5 1 x m (cellsOf .u8 (enb m n)) ∧ Below w.heap.size w w' := by
  obtain ⟨i0, hi, hz0, hz1, hz2⟩ := info_parts byteInfo
  have hm8 : m ≤ 8 := by omega
  have hm1 : (m : Int) ≤ 0 ∨ (m : Int) ≤ v := by omega
  have hm2 : 8 ≤ m ∨ v ≤ m := by omega
  clear hm
  go_enter Try.func26, Try.ntmps26
  go_wp2
  go_loopw [0, 5, 6] (fun q b i wr => ∃ k : Nat, k ≤ m ∧ i = .int .i64 k ∧ q = .int .u64 (n / 256 ^ k) ∧ wr.ownsRow w.heap.size 5 1 b k (cellsOf .u8 (enb k n)) ∧ Below w.heap.size w wr)
    (fun _ _ i _ => m - (intOf i).toNat)
  case atStart => exact ⟨0, Nat.zero_le _, rfl, by simp, World.ownsRow_nil _ _ _ _, Below.refl _ _⟩
  case round =>
    obtain ⟨k, hk, rfl, rfl, hown, hb⟩ := hrel
    have hqq := div_pow h0.out k
    have hq := hqq.1
    have hqs : n / 256 ^ k / 256 = n / 256 ^ (k + 1) := by rw [Int.pow_succ, Int.ediv_ediv_of_nonneg (Int.le_of_lt (Int.pow_pos (by omega)))]
    have hsn := enb_snoc k n
    generalize n / 256 ^ k = q at hq hqs hsn hqq ⊢
    have HQQ := Lib.hid hqq
    have HQ := Lib.hid hqs
    have HS := Lib.hid hsn
    clear hqs hsn hqq
    by_cases hlt : k < m
    · have h1 : (k : Int) < v := by omega
      have h2 : (k : Int) < 8 := by omega
      obtain ⟨A, c, rfl, _, _⟩ := own_form hown
      have s2 : k + 1 ≤ maxLen := by unfold maxLen; omega
      have s3 : (k + 1) * 1 ≤ 140737488355328 := by omega
      have s4 : w.heap.size ≤ (wr.alloc (.cells #[Value.int IntKind.u8 (q % 256)] 5)).heap.size := by have := hb.size; simp; omega
      go_wp2_with (at_builtin; refine wpList_append_any _ rfl _ _ _ rfl w.heap.size 5 i0 (.int .u8 0) 1 1 Try.underlying26 hi hz0 hz1 hz2 rfl (Nat.lt_succ_self 0) (.slice A k c) k (cellsOf .u8 (enb k n)) rfl (hown.alloc _) (wr.heap.size + 1) _ 1 1 [.int .u8 (q % 256)] rfl (Reads.new1 _ _ _) (one_oneCell _ _) s2 s3 s4 ?_; intro v1 w1 hown1 hg1 hat1)
      go_roundw
      case rel =>
        rw [show cellsOf .u8 (enb k n) ++ [Value.int IntKind.u8 (q % 256)] = cellsOf .u8 (enb (k + 1) n) by rw [HS.out]; simp [cellsOf]] at hown1
        refine ⟨k + 1, by omega, by go_num, by rw [div_256 HQQ.out, HQ.out], hown1, (hb.alloc hb.size _).grown hg1 s4 (fun g hg => ?_)⟩
        exact (hown.lt g hg).1
      case measure => simp [intOf]; omega
    · have e : k = m := by omega
      subst e
      by_cases h8 : k < 8
      · have h1 : ¬ (k : Int) < v := by omega
        go_wp2
        all_goals
          go_ret
          exact ⟨_, rfl, hown, hb⟩
      · go_wp2
        all_goals
          go_ret
          exact ⟨_, rfl, hown, hb⟩

/-- The document's own Bytes: the same bytes. -/
theorem rbytes_any (n v : Int) (w : World) (h0 : Hid (0 ≤ n ∧ n < 18446744073709551616)) : Calls Try.prog 26 #[.int .u64 n, .int .i64 v] w fun e w' =>
    ∃ A c, e = .returned (.slice A (bts n v).length c) ∧ w'.ownsRow w.heap.size 5 1 (.slice A (bts n v).length c) (bts n v).length (cellsOf .u8 (bts n v)) ∧ Below w.heap.size w w' := by
  refine (rbytes_in n v (min v.toNat 8) w h0 (by omega)).mono fun e w' ⟨x, he, hown, hb⟩ => ?_
  obtain ⟨A, c, rfl, _, _⟩ := own_form hown
  rw [bts_length]; exact ⟨_, _, he, hown, hb⟩

theorem same_any {B B' : Nat} (A A' : Option Addr) (n n' c c' : Nat) (xs ys : List Int) (w : World) (hx : Reads w B 1 A n (cellsOf .u8 xs)) (hy : Reads w B' 1 A' n' (cellsOf .u8 ys)) (bx : AreB xs) (byy : AreB ys) :
    Calls Try.prog 6 #[.slice A n c, .slice A' n' c'] w fun e w' => e = .returned (.bool (decide (xs = ys))) ∧ w = w' := by
  have h1 := run_text (P := Try.prog) 26 5 9 Try.underlying26 Try.underlying5 Try.underlying9 hx c
  have h2 := run_text (P := Try.prog) 26 5 9 Try.underlying26 Try.underlying5 Try.underlying9 hy c'
  clear hx hy
  go_enter Try.func6, Try.ntmps6
  go_wp2
  go_ret
  exact ⟨ret_bool (strOfNums_beq bx byy), rfl⟩

theorem same_yes {B B' : Nat} (A A' : Option Addr) (n n' c c' : Nat) (xs ys : List Int) (w : World) (hx : Reads w B 1 A n (cellsOf .u8 xs)) (hy : Reads w B' 1 A' n' (cellsOf .u8 ys)) (bx : AreB xs) (h : Hid (xs = ys)) :
    Calls Try.prog 6 #[.slice A n c, .slice A' n' c'] w fun e w' => e = .returned (.bool true) ∧ w = w' :=
  (same_any A A' n n' c c' xs ys w hx hy bx (h.out ▸ bx)).mono fun _ _ ⟨he, hw⟩ => ⟨by rw [he, decide_eq_true h.out], hw⟩

end Go.Proofs.Ytdajjkjpjhpnjaa
