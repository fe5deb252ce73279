/-
  LAYER 9: THE DOCUMENT'S Decode, where no kind and no size stand, or too small a one: contracts.
-/
import Derived.Test.YtbgdaiecmpjcbaaObjDec3
set_option linter.unusedVariables false
set_option linter.unusedSimpArgs false
set_option maxRecDepth 100000
namespace Go.Proofs.Ytbgdaiecmpjcbaa
open Go.RowKit

theorem rget_not {B : Nat} (A : Option Addr) (n c : Nat) (v : Int) (zs : List Int) (w : World) (hr : Reads w B 1 A n (cellsOf .u8 zs)) (hz : AreB zs) (hl : n ≤ c) (hcap : c ≤ 9223372036854775807) (h0 : -9223372036854775808 ≤ v) (h1 : v ≤ 9223372036854775807) (hn : v < 0 ∨ (n : Int) < v + 8) :
    Calls Try.prog 40 #[.slice A n c, .int .i64 v, .int .i64 8] w fun e w' => e = .returned (.tuple #[.int .u64 0, .bool false]) ∧ w = w' := by
  have hlen := hr.len
  have h := rget_any A n c v 8 zs w hr hz hl hcap h0 h1 (by omega) (by omega)
  have hok : gok n v 8 = false := by rw [gok_isw]; simp [isw]; omega
  have hnum : gnum zs v 8 = 0 := by unfold gnum; rw [hlen, hok]; rfl
  rw [hok, hnum] at h
  exact h

set_option maxHeartbeats 1000000 in
theorem rodec_no1 {B : Nat} (A : Option Addr) (n c : Nat) (at_ : Int) (zs : List Int) (w : World) (hr : Reads w B 1 A n (cellsOf .u8 zs)) (hB : B ≤ w.heap.size) (hz : AreB zs) (hl : n ≤ c) (hcap : c ≤ 9223372036854775807) (hn : n ≤ 140737488355328) (h0 : -9223372036854775808 ≤ at_) (h1 : at_ ≤ 4611686018427387904)
    (hno : ∀ j k s, at_ = (j : Nat) → DecAt zs j k s → k < 1) :
    Calls Try.prog 22 #[.slice A n c, .int .i64 at_] w fun e w' => e = .returned (.tuple #[obZ, .int .i64 0, .bool false]) ∧ Below w.heap.size w w' := by
  have hb1 : Below w.heap.size w (w.alloc (.cells #[.int .i64 0, .slice none 0 0, .slice none 0 0, .slice none 0 0] 25)) := (Below.refl _ _).alloc (Nat.le_refl _) _
  have hr1 : Reads (w.alloc (.cells #[.int .i64 0, .slice none 0 0, .slice none 0 0, .slice none 0 0] 25)) B 1 A n (cellsOf .u8 zs) := hr.keep fun p hp => hb1.cell (by omega)
  have hlen := hr.len
  clear hr
  by_cases ha : at_ < 0 ∨ (n : Int) < at_ + 8
  · have G1 := Lib.hid (rget_not A n c at_ zs _ hr1 hz hl hcap h0 (by omega) ha)
    obtain ⟨u, b, G2⟩ : ∃ u b, Hid (Calls Try.prog 40 #[.slice A n c, .int .i64 (at_ + 8), .int .i64 8] (w.alloc (.cells #[.int .i64 0, .slice none 0 0, .slice none 0 0, .slice none 0 0] 25)) fun e w' => e = .returned (.tuple #[.int .u64 u, .bool b]) ∧ (w.alloc (.cells #[.int .i64 0, .slice none 0 0, .slice none 0 0, .slice none 0 0] 25)) = w') := ⟨_, _, rget_any A n c (at_ + 8) 8 zs _ hr1 hz hl hcap (by omega) (by omega) (by omega) (by omega)⟩
    clear hno ha hr1
    go_enter Try.func22, Try.ntmps22
    have m1 : True := trivial
    go_wp2_with (first
      | (go_at_call 40; clear m1; refine G1.out.mono ?_; rintro e w1 ⟨rfl, rfl⟩)
      | (go_at_call 40; refine G2.out.mono ?_; rintro e w1 ⟨rfl, rfl⟩))
    refine bodyPost_ret (results_cell3 rfl _ _ w.heap.size 25 _ (0, 0) _ rfl (Blk.new _ _ _) Try.underlying25 rfl (by kernel_rfl)) rfl ?_
    exact ⟨rfl, hb1⟩
  obtain ⟨j, rfl⟩ := Int.eq_ofNat_of_zero_le (show 0 ≤ at_ by omega)
  obtain ⟨k, hk, hkb⟩ := lev8_nat hz j
  obtain ⟨s, hs, hsb⟩ := lev8_nat hz (j + 8)
  have G1 := Lib.hid (rget8 A n c j j zs _ hr1 hz hl hcap rfl (by omega))
  rw [hk] at G1
  by_cases hd : (n : Int) < (j : Int) + 8 + 8
  · have G2 := Lib.hid (rget_not A n c ((j : Int) + 8) zs _ hr1 hz hl hcap (by omega) (by omega) (.inr hd))
    clear hno ha hr1 hk hs hd
    go_enter Try.func22, Try.ntmps22
    have m1 : True := trivial
    go_wp2_with (first
      | (go_at_call 40; clear m1; refine G1.out.mono ?_; rintro e w1 ⟨rfl, rfl⟩)
      | (go_at_call 40; refine G2.out.mono ?_; rintro e w1 ⟨rfl, rfl⟩))
    refine bodyPost_ret (results_cell3 rfl _ _ w.heap.size 25 _ (0, 0) _ rfl (Blk.new _ _ _) Try.underlying25 rfl (by kernel_rfl)) rfl ?_
    exact ⟨rfl, hb1⟩
  have G2 := Lib.hid (rget8 A n c (j + 8) ((j : Int) + 8) zs _ hr1 hz hl hcap (by omega) (by omega))
  rw [hs] at G2
  have hwn : IntKind.u64.wrap ((n : Int) - j) = (n : Int) - j := by rw [IntKind.wrap_u64]; omega
  have fin : (j % 8 ≠ 0) ∨ (j % 8 = 0 ∧ k < 1) ∨ (j % 8 = 0 ∧ 1 ≤ k ∧ 4 < k) ∨ (j % 8 = 0 ∧ 1 ≤ k ∧ k ≤ 4 ∧ n < j + s) := by
    by_cases q1 : j % 8 = 0
    · by_cases q2 : k < 1
      · exact .inr (.inl ⟨q1, q2⟩)
      · by_cases q3 : 4 < k
        · exact .inr (.inr (.inl ⟨q1, by omega, q3⟩))
        · by_cases q4 : n < j + s
          · exact .inr (.inr (.inr ⟨q1, by omega, by omega, q4⟩))
          · exact absurd (hno j k s rfl ⟨q1, by omega, hk, hs, by omega, by omega⟩) q2
    · exact .inl q1
  clear hno ha hk hs hr1 hd
  rcases fin with q1 | ⟨q1, q2⟩ | ⟨q1, q2, q3⟩ | ⟨q1, q2, q3, q4⟩
  · have t1 : ((j : Int) % 8 == 0) = false := by simp; omega
    have t2 : ¬ (j : Int) % 8 = 0 := by omega
    clear q1
    go_enter Try.func22, Try.ntmps22
    have m1 : True := trivial
    go_wp2_with (first
      | (go_at_call 40; clear m1; refine G1.out.mono ?_; rintro e w1 ⟨rfl, rfl⟩)
      | (go_at_call 40; refine G2.out.mono ?_; rintro e w1 ⟨rfl, rfl⟩))
    refine bodyPost_ret (results_cell3 rfl _ _ w.heap.size 25 _ (0, 0) _ rfl (Blk.new _ _ _) Try.underlying25 rfl (by kernel_rfl)) rfl ?_
    exact ⟨rfl, hb1⟩
  all_goals
    have t1 : ((j : Int) % 8 == 0) = true := by simp; omega
    have t2 : (j : Int) % 8 = 0 := by omega
    clear q1
  · have t3 : (k : Int) < 1 := by omega
    go_enter Try.func22, Try.ntmps22
    have m1 : True := trivial
    go_wp2_with (first
      | (go_at_call 40; clear m1; refine G1.out.mono ?_; rintro e w1 ⟨rfl, rfl⟩)
      | (go_at_call 40; refine G2.out.mono ?_; rintro e w1 ⟨rfl, rfl⟩))
    refine bodyPost_ret (results_cell3 rfl _ _ w.heap.size 25 _ (0, 0) _ rfl (Blk.new _ _ _) Try.underlying25 rfl (by kernel_rfl)) rfl ?_
    exact ⟨rfl, hb1⟩
  · have t3 : ¬ (k : Int) < 1 := by omega
    have t4 : (4 : Int) < k := by omega
    go_enter Try.func22, Try.ntmps22
    have m1 : True := trivial
    go_wp2_with (first
      | (go_at_call 40; clear m1; refine G1.out.mono ?_; rintro e w1 ⟨rfl, rfl⟩)
      | (go_at_call 40; refine G2.out.mono ?_; rintro e w1 ⟨rfl, rfl⟩))
    refine bodyPost_ret (results_cell3 rfl _ _ w.heap.size 25 _ (0, 0) _ rfl (Blk.new _ _ _) Try.underlying25 rfl (by kernel_rfl)) rfl ?_
    exact ⟨rfl, hb1⟩
  · have t3 : ¬ (k : Int) < 1 := by omega
    have t4 : ¬ (4 : Int) < k := by omega
    have t5 : (n : Int) - j < s := by omega
    go_enter Try.func22, Try.ntmps22
    have m1 : True := trivial
    go_wp2_with (first
      | (go_at_call 40; clear m1; refine G1.out.mono ?_; rintro e w1 ⟨rfl, rfl⟩)
      | (go_at_call 40; refine G2.out.mono ?_; rintro e w1 ⟨rfl, rfl⟩))
    refine bodyPost_ret (results_cell3 rfl _ _ w.heap.size 25 _ (0, 0) _ rfl (Blk.new _ _ _) Try.underlying25 rfl (by kernel_rfl)) rfl ?_
    exact ⟨rfl, hb1⟩

set_option maxHeartbeats 1000000 in
theorem rodec_short {B : Nat} (A : Option Addr) (n c j k s : Nat) (zs : List Int) (w : World) (hr : Reads w B 1 A n (cellsOf .u8 zs)) (hB : B ≤ w.heap.size) (hz : AreB zs) (hl : n ≤ c) (hcap : c ≤ 9223372036854775807) (hn : n ≤ 140737488355328)
    (h : DecAt zs j k s) (hk1 : 1 ≤ k) (hs : s < frontN k) :
    Calls Try.prog 22 #[.slice A n c, .int .i64 j] w fun e w' => e = .returned (.tuple #[obZ, .int .i64 0, .bool false]) ∧ Below w.heap.size w w' := by
  have hb1 : Below w.heap.size w (w.alloc (.cells #[.int .i64 0, .slice none 0 0, .slice none 0 0, .slice none 0 0] 25)) := (Below.refl _ _).alloc (Nat.le_refl _) _
  have hr1 : Reads (w.alloc (.cells #[.int .i64 0, .slice none 0 0, .slice none 0 0, .slice none 0 0] 25)) B 1 A n (cellsOf .u8 zs) := hr.keep fun p hp => hb1.cell (by omega)
  have hlen := hr.len
  have hb := h.al
  have hroom := h.room
  have hfit := h.fit
  have hk4 := h.kk
  rw [hlen] at hroom hfit
  have G1 := Lib.hid (rget8 A n c j j zs _ hr1 hz hl hcap rfl (by omega))
  have G2 := Lib.hid (rget8 A n c (j + 8) ((j : Int) + 8) zs _ hr1 hz hl hcap (by omega) (by omega))
  rw [h.kd] at G1
  rw [h.sd] at G2
  have HW := Lib.hid (rwordsk_any (k : Int))
  have hF : frontN k = 16 + 8 * kwN k := rfl
  rw [hF] at hs
  have hM5 := kwN_le (k : Int)
  generalize kwN (k : Int) = M at *
  have hwn : IntKind.u64.wrap ((n : Int) - j) = (n : Int) - j := by rw [IntKind.wrap_u64]; omega
  have t1 : ((j : Int) % 8 == 0) = true := by simp; omega
  have t2 : (j : Int) % 8 = 0 := by omega
  have t3 : ¬ (k : Int) < 1 := by omega
  have t4 : ¬ (4 : Int) < k := by omega
  have t5 : ¬ (n : Int) - j < s := by omega
  have t6 : (s : Int) < 16 + 8 * (M : Int) := by omega
  clear hr hr1 h hlen hb
  go_enter Try.func22, Try.ntmps22
  have m1 : True := trivial
  go_wp2_with (first
    | (go_at_call 40; clear m1; refine G1.out.mono ?_; rintro e w1 ⟨rfl, rfl⟩)
    | (go_at_call 40; refine G2.out.mono ?_; rintro e w1 ⟨rfl, rfl⟩)
    | (go_at_call 16; refine (HW.out _).mono ?_; rintro e w1 ⟨rfl, rfl⟩))
  refine bodyPost_ret (results_cell3 rfl _ _ w.heap.size 25 _ (0, 0) _ rfl ((Blk.new _ _ _).alloc _) Try.underlying25 rfl (by kernel_rfl)) rfl ?_
  exact ⟨rfl, hb1.alloc (by simp) _⟩

end Go.Proofs.Ytbgdaiecmpjcbaa
