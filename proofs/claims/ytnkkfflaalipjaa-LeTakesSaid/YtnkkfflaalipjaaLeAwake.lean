/-
  THE CHAPTER'S EXAMPLES (awake), AND LeWrites: the bytes of every number, of every width, and the next multiple of eight.
-/
import Derived.Test.YtnkkfflaalipjaaLeByt
import Derived.Test.YtnkkfflaalipjaaLeNum
import Derived.Test.YtnkkfflaalipjaaFrame
set_option linter.unusedVariables false
namespace Go.Proofs.Ytnkkfflaalipjaa
open Go.RowKit

theorem awake_any (w : World) : Calls Try.prog 8 #[] w fun e w' => e = .returned (.bool true) ∧ Below w.heap.size w w' := by
  have hbts : bts 258 4 = [2, 1, 0, 0] := by decide
  have HB := Lib.hid hbts
  clear hbts
  go_enter Try.func8, Try.ntmps8
  go_wp2_with (first
    | (go_at_call 12; refine (bytes_any _ _ _).mono ?_; rintro e w1 ⟨A, c, rfl, hown1, hb1⟩; have hR1 := (Reads.of_own hown1).alloc (Nat.le_refl _) (.cells #[.int .u8 2, .int .u8 1, .int .u8 0, .int .u8 0] 5); have hR2 : Reads (w1.alloc (.cells #[.int .u8 2, .int .u8 1, .int .u8 0, .int .u8 0] 5)) (w1.heap.size + 1) 1 (some ⟨w1.heap.size, 0, none⟩) 4 (cellsOf .u8 [2, 1, 0, 0]) := Reads.newN w1 _ _; have hb2 := hb1.alloc hb1.size (.cells #[.int .u8 2, .int .u8 1, .int .u8 0, .int .u8 0] 5))
    | (go_at_call 11; refine (same_yes _ _ _ _ _ _ (bts 258 4) [2, 1, 0, 0] _ hR1 hR2 (bts_bytes _ _) HB).mono ?_; rintro e w2 ⟨rfl, rfl⟩)
    | (go_at_call 14; refine (align_any 9 _ (by omega) (by omega)).mono ?_; rintro e w3 ⟨rfl, rfl⟩))
  go_ret
  exact ⟨rfl, hb2⟩

set_option maxHeartbeats 1000000 in
theorem writes_walk (n v k : Int) (w : World) (h0 : Hid (0 ≤ n ∧ n < 18446744073709551616)) (hv : -9223372036854775808 ≤ v) (hv' : v ≤ 9223372036854775807) (hk : -9223372036854775808 ≤ k) (hk' : k ≤ 9223372036854775807) :
    Calls Try.prog 4 #[.int .u64 n, .int .i64 v, .int .i64 k] w fun e w' => e = .returned (.bool true) ∧ Below w.heap.size w w' := by
  by_cases hkk : 1099511627776 < k
  · go_enter Try.func4, Try.ntmps4
    go_wp2_with (go_at_call 8; refine (awake_any _).mono ?_; rintro e w1 ⟨rfl, hb1⟩)
    go_ret
    exact ⟨rfl, hb1⟩
  · go_enter Try.func4, Try.ntmps4
    go_wp2_with (first
      | (go_at_call 12; refine (bytes_any _ _ _).mono ?_; rintro e w1 ⟨A, c, rfl, hown1, hb1⟩)
      | (go_at_call 13; refine (rbytes_any _ _ _ h0).mono ?_; rintro e w2 ⟨A2, c2, rfl, hown2, hb2⟩; have hR1 := (Reads.of_own hown1).below hb2; have hR2 := Reads.of_own hown2)
      | (go_at_call 11; refine (same_yes _ _ _ _ _ _ (bts n v) (bts n v) _ hR1 hR2 (bts_bytes _ _) rfl).mono ?_; rintro e w3 ⟨rfl, rfl⟩)
      | (go_at_call 14; refine (align_any k _ (by omega) (by omega)).mono ?_; rintro e w3 ⟨rfl, rfl⟩)
      | (go_at_call 15; refine (ralign_any k _ (by omega) (by omega)).mono ?_; rintro e w3 ⟨rfl, rfl⟩)
      | (go_at_call 8; refine (awake_any _).mono ?_; rintro e w5 ⟨rfl, hb5⟩))
    go_ret
    exact ⟨rfl, (hb1.trans (hb2.mono hb1.size)).trans (hb5.mono (by have := hb1.size; have := hb2.size; omega))⟩

theorem writes_law (n v k : Int) (w : World) (h0 : (Lit.int .u64 n).wf = true) (h1 : (Lit.int .i64 v).wf = true) (h2 : (Lit.int .i64 k).wf = true) :
    Calls Try.prog 4 #[.int .u64 n, .int .i64 v, .int .i64 k] w fun e w' => e = .returned (.bool true) ∧ Below w.heap.size w w' := by
  have b1 := bounds_i64 h1
  have b2 := bounds_i64 h2
  exact writes_walk n v k w (wf_u64_bd h0) b1.1 b1.2 b2.1 b2.2

theorem enb_gnum {zs : List Int} (hz : AreB zs) {j m : Nat} (hw : isw (m : Int) = true) (hj : j + m ≤ zs.length) : bts (lev ((zs.drop j).take m)) m = (zs.drop j).take m := by
  have hm := isw_cases hw
  have hl : ((zs.drop j).take m).length = m := by rw [List.length_take, List.length_drop]; omega
  unfold bts
  rw [Int.toNat_natCast, Nat.min_eq_left (by omega)]
  have h := enb_lev _ ((hz.drop j).take m)
  rwa [hl] at h

end Go.Proofs.Ytnkkfflaalipjaa
