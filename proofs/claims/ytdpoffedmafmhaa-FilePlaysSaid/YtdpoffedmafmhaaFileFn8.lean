/-
  LAYER 6: WHAT Read AND Copy DO: contracts.
-/
import Derived.Test.YtdpoffedmafmhaaFileFn7
import Derived.StillTailTactics
set_option linter.unusedVariables false
set_option linter.unusedSimpArgs false
namespace Go.Proofs.Ytdpoffedmafmhaa
open Go.RowKit

theorem fread_none {s : FS} {a n : Int} (h : a < 0 ∨ (s.now.length : Int) ≤ a ∨ n < 1) : s.read a n = [] := by
  unfold FS.read
  by_cases h0 : 0 ≤ a ∧ 0 < n
  · rw [if_pos h0, List.drop_of_length_le (by omega), List.take_nil]
  · rw [if_neg h0]
theorem Gives.none_ (w : World) : Gives [] w (.returned (.slice none 0 0)) w := ⟨none, 0, rfl, World.ownsRow_nil _ _ _ _, Below.refl _ _⟩

theorem fread_nil (a n : Int) (w : World) : Calls Try.prog 14 #[.pointer none, .int .i64 a, .int .i64 n] w fun e w' => e = .returned (.slice none 0 0) ∧ w = w' := by
  by_cases h : a < 0
  · go_enter Try.func14, Try.ntmps14
    go_wp2
    go_ret
    exact ⟨rfl, rfl⟩
  · have h1 : 0 ≤ a := by omega
    go_enter Try.func14, Try.ntmps14
    go_wp2_with (go_at_call 17; refine (flen_nil w).mono ?_; rintro e w1 ⟨rfl, rfl⟩)
    go_ret
    exact ⟨rfl, rfl⟩

set_option maxHeartbeats 1000000 in
theorem fread_any (p : Nat) (a n : Int) (base : Nat) (S : Nat → Prop) (s : FS) (nv sv pv : Value) (w : World) (h : CF w base S p s nv sv pv) (h0 : -9223372036854775808 ≤ a) (h1 : a ≤ 9223372036854775807) (h2 : -9223372036854775808 ≤ n) (h3 : n ≤ 9223372036854775807) (hl : s.now.length ≤ 1048576) :
    Calls Try.prog 14 #[.pointer (some ⟨p, 0, none⟩), .int .i64 a, .int .i64 n] w (Gives (s.read a n) w) := by
  obtain ⟨A, c, rfl, hc1, hc2⟩ := own_form h.now
  obtain ⟨d0, -⟩ := h.blkB (Below.refl _ _)
  have hE : Hid ((a < 0 ∨ (s.now.length : Int) ≤ a ∨ n < 1) → s.read a n = []) := Lib.hid fread_none
  have hR : Hid (∀ k : Nat, a = k → k < s.now.length → 0 < n → s.read a n = sizeL (s.now.drop k) (min n.toNat (s.now.length - k))) := Lib.hid fun k hk hlt hn => by
    unfold FS.read sizeL
    rw [if_pos ⟨by omega, hn⟩, hk, Int.toNat_natCast, List.length_drop, show min n.toNat (s.now.length - k) - (s.now.length - k) = 0 by omega]
    simp only [List.replicate_zero, List.append_nil]
    rcases Nat.le_total n.toNat (s.now.length - k) with hh | hh
    · rw [Nat.min_eq_left hh]
    · rw [Nat.min_eq_right hh, List.take_of_length_le (by rw [List.length_drop]; omega), List.take_of_length_le (by rw [List.length_drop]; omega)]
  obtain ⟨m, hm⟩ : ∃ m, m = s.now.length := ⟨_, rfl⟩
  rw [← hm] at d0 hl h hE hR hc1
  obtain ⟨r1, r2, r3⟩ := h.nowR hm
  clear h hm
  by_cases ha : a < 0
  · rw [hE.out (.inl ha)]
    go_enter Try.func14, Try.ntmps14
    go_wp2
    go_ret
    exact Gives.none_ w
  · by_cases hb : (m : Int) ≤ a
    · rw [hE.out (.inr (.inl hb))]
      clear r1
      go_enter Try.func14, Try.ntmps14
      go_wp2_with (go_at_call 17; refine (flen_any p m _ c w d0).mono ?_; rintro e w1 ⟨rfl, rfl⟩)
      go_ret
      exact Gives.none_ w
    · by_cases hn : n < 1
      · rw [hE.out (.inr (.inr hn))]
        clear r1
        go_enter Try.func14, Try.ntmps14
        go_wp2_with (go_at_call 17; refine (flen_any p m _ c w d0).mono ?_; rintro e w1 ⟨rfl, rfl⟩)
        go_ret
        exact Gives.none_ w
      · obtain ⟨k, rfl⟩ : ∃ k : Nat, a = k := ⟨a.toNat, by omega⟩
        rw [hR.out k rfl (by omega) (by omega)]
        obtain ⟨q, hq⟩ : ∃ q, q = min n.toNat (m - k) := ⟨_, rfl⟩
        rw [← hq]
        have hcut := r1.cut (k := k) (cap := c) (by omega) r2
        rw [if_neg (by omega), Nat.mul_one, cellsOf_drop] at hcut
        have SZ := Lib.hid (fun w1 (hb : Below w.heap.size w w1) => (size_any (A.map (·.add k)) (m - k) (c - k) q (s.now.drop k) w.heap.size w1 (hcut.below hb) hb.size (by omega) (by omega)).mono fun e w' hh => hh.gives (by rw [sizeL_length]; unfold maxLen; omega))
        have n7 : (if (m : Int) - (k : Int) < n then (m : Int) - (k : Int) else n) = (q : Int) := by split <;> omega
        have n2 : ¬ c = k := by omega
        have n3 : (k : Int) ≤ (m : Int) := by omega
        have n4 : ¬ (m : Int) ≤ (k : Int) := by omega
        have n5 : IntKind.i64.wrap ((m : Int) - (k : Int)) = (m : Int) - (k : Int) := by rw [IntKind.wrap_i64]; omega
        clear r1 hcut hq
        go_enter Try.func14, Try.ntmps14
        go_wp2_with (go_at_call 17; refine (flen_any p m _ c w d0).mono ?_; rintro e w1 ⟨rfl, rfl⟩)
        go_region_law ((first
          | (go_simp; go_at_call 17; refine (flen_any p m A c w.drew d0).mono ?_; rintro e w1 ⟨rfl, rfl⟩)
          | (go_simp; go_at_call 27; go_loud ((with_reducible refine (SZ.out w.drew (below_drewn (Below.refl _ _) 1)).mono ?_); rintro e w1 ⟨A1, c1, rfl, hown1, hb1⟩; have HO := Lib.hid (And.intro hown1 hb1); clear hown1 hb1))))
        all_goals
          go_wp2
          go_ret
          exact ⟨A1, c1, rfl, HO.out.1, below_drew0 (w := w) HO.out.2⟩

end Go.Proofs.Ytdpoffedmafmhaa
