/-
  LAYER 3: the chapter's example (awake), and the walks of CrcTables, CrcSums and CrcJoins.
-/
import Derived.Test.YtdomdokcghhbpaaCrcFn
import Derived.Test.YtdomdokcghhbpaaInfo
import Derived.BigQuiet
import Derived.Deep.QuietTactic
import Derived.Deep.Draws
set_option linter.unusedVariables false
set_option linter.unusedSimpArgs false
namespace Go.Proofs.Ytdomdokcghhbpaa
open Go.RowKit

theorem crc_nine : crcAdd 0 [49, 50, 51, 52, 53, 54, 55, 56, 57] = 3421780262 := by decide +kernel
theorem nineBytes : ∀ z ∈ ([49, 50, 51, 52, 53, 54, 55, 56, 57] : List Int), 0 ≤ z ∧ z < 256 := by decide

theorem awake_any (w : World) : Calls Try.prog 8 #[] w fun e w' => e = .returned (.bool true) ∧ Below w.heap.size w w' := by
  go_enter Try.func8, Try.ntmps8
  go_wp2_with (first
    | (go_at_call 6; refine (crcMake_any w).mono ?_; rintro e w1 ⟨rfl, ht1, hb1⟩)
    | (go_at_call 9; refine (crcSum_any w.heap.size _ 9 9 [49, 50, 51, 52, 53, 54, 55, 56, 57] _ (Blk.alloc ht1 _) (litReads w1 _ [49, 50, 51, 52, 53, 54, 55, 56, 57]) nineBytes (by omega) (by omega)).mono ?_; rw [crc_nine]; rintro e w2 ⟨rfl, rfl⟩))
  go_ret
  exact ⟨rfl, hb1.alloc hb1.size _⟩

theorem sums_walk (s : Nat) (A : Option Addr) (len cap : Nat) (zs : List Int) (w : World) (hs : s < 4294967296) (hin : InInts w .u8 A len cap zs) :
    Calls Try.prog 4 #[.int .u32 s, .slice A len cap] w fun e w' => e = .returned (.bool true) ∧ Below w.heap.size w w' := by
  have hz : ∀ z ∈ zs, 0 ≤ z ∧ z < 256 := fun z h => wf_u8_bd (hin.wf z h)
  have hr := hin.reads
  have hl := hin.le
  have hcap := hin.cap
  by_cases h : 3000 < len
  · go_enter Try.func4, Try.ntmps4
    go_wp2_with (go_at_call 8; refine (awake_any _).mono ?_; rintro e w5 ⟨rfl, hb5⟩)
    go_ret
    exact ⟨rfl, hb5⟩
  · have m1 : True := trivial
    have m2 : True := trivial
    have m3 : True := trivial
    go_enter Try.func4, Try.ntmps4
    go_wp2_with (first
      | (go_at_call 6; refine (crcMake_any w).mono ?_; rintro e w1 ⟨rfl, ht1, hb1⟩; have hr1 := hr.below hb1)
      | (go_at_call 9; clear m1; refine (crcSum_any w.heap.size A len cap zs w1 ht1 hr1 hz hl hcap).mono ?_; rintro e w2 ⟨rfl, rfl⟩)
      | (go_at_call 11; clear m2; refine (crcAdd_any w.heap.size s A len cap zs w1 ht1 hs hr1 hz hl hcap).mono ?_; rintro e w2 ⟨rfl, rfl⟩)
      | (go_at_call 10; clear m3; refine (rcrcAdd_any 0 A len cap zs w1 (by omega) hr1 hz hl hcap).mono ?_; rintro e w2 ⟨rfl, rfl⟩)
      | (go_at_call 10; refine (rcrcAdd_any s A len cap zs w1 hs hr1 hz hl hcap).mono ?_; rintro e w2 ⟨rfl, rfl⟩)
      | (go_at_call 9; refine (crcSum_none A len cap w1).mono ?_; rintro e w2 ⟨rfl, rfl⟩)
      | (go_at_call 11; refine (crcAdd_none s A len cap w1).mono ?_; rintro e w2 ⟨rfl, rfl⟩)
      | (go_at_call 8; refine (awake_any _).mono ?_; rintro e w5 ⟨rfl, hb5⟩))
    go_ret
    exact ⟨rfl, hb1.trans (hb5.mono hb1.size)⟩

theorem IsTable.grown {w w' : World} {g base : Nat} {e : TypeId} {size n : Nat} {v : Value} {xs : List Value} (h : IsTable w g) (ho : w.ownsRow base e size v n xs) (hB : g < base) (hg : w.grownBy w' v.ownBlock) : IsTable w' g :=
  Blk.grown h hg (fun he => by have := (ho.lt g he.symm).1; omega)

set_option maxHeartbeats 1000000 in
theorem joins_walk (A1 : Option Addr) (len1 cap1 : Nat) (z1 : List Int) (A2 : Option Addr) (len2 cap2 : Nat) (z2 : List Int) (w : World) (hin1 : InInts w .u8 A1 len1 cap1 z1) (hin2 : InInts w .u8 A2 len2 cap2 z2) :
    Calls Try.prog 5 #[.slice A1 len1 cap1, .slice A2 len2 cap2] w fun e w' => e = .returned (.bool true) ∧ Below w.heap.size w w' := by
  have hz1 : ∀ z ∈ z1, 0 ≤ z ∧ z < 256 := fun z h => wf_u8_bd (hin1.wf z h)
  have hz2 : ∀ z ∈ z2, 0 ≤ z ∧ z < 256 := fun z h => wf_u8_bd (hin2.wf z h)
  have hr1 := hin1.reads
  have hr2 := hin2.reads
  have hl1 := hin1.le
  have hl2 := hin2.le
  have hc1 := hin1.cap
  have hc2 := hin2.cap
  by_cases h : 2000 < len1
  · go_enter Try.func5, Try.ntmps5
    go_wp2_with (go_at_call 8; refine (awake_any _).mono ?_; rintro e w5 ⟨rfl, hb5⟩)
    go_ret
    exact ⟨rfl, hb5⟩
  by_cases h2 : 2000 < len2
  · go_enter Try.func5, Try.ntmps5
    go_wp2_with (go_at_call 8; refine (awake_any _).mono ?_; rintro e w5 ⟨rfl, hb5⟩)
    go_ret
    exact ⟨rfl, hb5⟩
  have hll1 := hr1.len
  have hll2 := hr2.len
  have hzz : ∀ z ∈ z1 ++ z2, 0 ≤ z ∧ z < 256 := fun z h => by exact (List.mem_append.1 h).elim (hz1 z) (hz2 z)
  have HJ := Lib.hid (crcAdd_append z1 z2 0 (by omega) hz1)
  have hlt := crcAdd_lt (s := 0) (by omega) hz1
  obtain ⟨i0, hi, q0, q1, q2⟩ := info_parts byteInfo
  have m1 : True := trivial
  have m2 : True := trivial
  have s2 : 0 + len1 ≤ maxLen := by unfold maxLen; omega
  have s3 : (0 + len1) * 1 ≤ 140737488355328 := by omega
  have s5 : len1 + len2 ≤ maxLen := by unfold maxLen; omega
  have s6 : (len1 + len2) * 1 ≤ 140737488355328 := by omega
  go_enter Try.func5, Try.ntmps5
  go_wp2_with (first
    | (go_at_call 6; refine (crcMake_any w).mono ?_; rintro e w1 ⟨rfl, ht1, hb1⟩; have ht1 : IsTable w1 w.heap.size := ht1; have hr11 := (hr1.below hb1).alloc hb1.size (.cells #[] 5); have hlt1 := Blk.lt ht1; have hown0 : (w1.alloc (.cells #[] 5)).ownsRow w1.heap.size 5 1 (.slice (some ⟨w1.heap.size, 0, none⟩) 0 0) 0 [] := World.ownsRow_made w1 #[] 0 (Nat.le_refl _) (Nat.zero_le _) rfl; have s4 : w1.heap.size ≤ (w1.alloc (.cells #[] 5)).heap.size := (by simp))
    | (at_builtin; clear m1; refine wpList_append_any _ rfl _ _ _ rfl w1.heap.size 5 i0 (.int .u8 0) 1 1 Try.underlying28 hi q0 q1 q2 rfl (Nat.lt_succ_self 0) (.slice (some ⟨w1.heap.size, 0, none⟩) 0 0) 0 [] rfl hown0 w.heap.size A1 len1 cap1 (cellsOf .u8 z1) rfl hr11 (cellsOf_one _ _) s2 s3 s4 ?_; intro v1 w3 hown1 hg1 hat1; have hb3 := own_grown (hb1.alloc hb1.size _) hown0 (Nat.le_of_lt hlt1) (Nat.le_trans hb1.size s4) hg1; have ht3 := IsTable.grown (Blk.alloc ht1 _) hown0 hlt1 hg1; have hs3 := Nat.le_trans s4 hg1.size; rw [Nat.zero_add, List.nil_append] at hown1; obtain ⟨A3, c3, rfl, hc31, hc32⟩ := own_form hown1; have hr23 := hr2.below hb3; clear hown0 hr11 ht1 hg1 hat1 s4)
    | (at_builtin; clear m2; refine wpList_append_any _ rfl _ _ _ rfl w1.heap.size 5 i0 (.int .u8 0) 1 1 Try.underlying28 hi q0 q1 q2 rfl (Nat.lt_succ_self 0) (.slice A3 len1 c3) len1 (cellsOf .u8 z1) rfl hown1 w.heap.size A2 len2 cap2 (cellsOf .u8 z2) rfl hr23 (cellsOf_one _ _) s5 s6 hs3 ?_; intro v2 w4 hown2 hg2 hat2; have hb4 := own_grown hb3 hown1 (Nat.le_of_lt hlt1) (Nat.le_trans hb1.size hs3) hg2; have ht4 := IsTable.grown ht3 hown1 hlt1 hg2; rw [← cellsOf_append] at hown2; obtain ⟨A4, c4, rfl, hc41, hc42⟩ := own_form hown2; have hr4 := Reads.of_own hown2; have hr14 := hr1.below hb4; have hr24 := hr2.below hb4; have m3 : True := trivial; clear ht3 hown1 hg2 hat2 hr23 hb3 hown2)
    | (go_at_call 9; clear m3; refine (crcSum_any w.heap.size A4 (len1 + len2) c4 (z1 ++ z2) w4 ht4 hr4 hzz hc41 hc42).mono ?_; rintro e w5 ⟨rfl, rfl⟩)
    | (go_at_call 9; refine (crcSum_any w.heap.size A1 len1 cap1 z1 w4 ht4 hr14 hz1 hl1 hc1).mono ?_; rintro e w5 ⟨rfl, rfl⟩)
    | (go_at_call 11; refine (crcAdd_any w.heap.size (crcAdd 0 z1) A2 len2 cap2 z2 w4 ht4 hlt hr24 hz2 hl2 hc2).mono ?_; rw [← HJ.out]; rintro e w5 ⟨rfl, rfl⟩)
    | (go_at_call 8; refine (awake_any _).mono ?_; rintro e w6 ⟨rfl, hb6⟩))
  go_ret
  exact ⟨rfl, hb4.trans (hb6.mono hb4.size)⟩

theorem sums_law (a : Int) (A : Option Addr) (len cap : Nat) (zs : List Int) (w : World) (h0 : (Lit.int .u32 a).wf = true) (hin : InInts w .u8 A len cap zs) :
    Calls Try.prog 4 #[.int .u32 a, .slice A len cap] w fun e w' => e = .returned (.bool true) ∧ Below w.heap.size w w' := by
  have hb := bounds_u32 h0
  obtain ⟨s, rfl⟩ := Int.eq_ofNat_of_zero_le hb.1
  exact sums_walk s A len cap zs w (by omega) hin

end Go.Proofs.Ytdomdokcghhbpaa
