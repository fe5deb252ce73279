/-
  LAYER 4: the order by fields, and once: a list sorted, each text once: contracts.
-/
import Derived.Test.YtggjimpnimlmmaaItemPut
import Derived.Lib.OwnBridge
set_option linter.unusedVariables false
set_option linter.unusedSimpArgs false
namespace Go.Proofs.Ytggjimpnimlmmaa
open Go.RowKit Go.Sort

/-- What a comparison leaves: draws, blocks of its own. -/
def Grew (w w' : World) : Prop := ∃ (q : Nat) (os : Array Obj), w' = grow (w.drewN q) os

def orI (x y : Int) : Int := if x = 0 then y else x
theorem orI_pos {x : Int} (y : Int) (h : x = 0) : orI x y = y := if_pos h
theorem orI_neg {x : Int} (y : Int) (h : ¬ x = 0) : orI x y = x := if_neg h
theorem cfF_or (a b : ByteArray) : cfF a b = orI (cfT (spF a) (spF b)) (cfT a b) := rfl

theorem or_any (x y : Int) (g : Nat) (w : World) (h0 : w.cell? ⟨g, 0, none⟩ = some (.int .i64 x)) (h1 : w.cell? ⟨g, 1, none⟩ = some (.int .i64 y)) :
    Calls Try.prog 41 #[.slice (some ⟨g, 0, none⟩) 2 2] w fun e w' => e = .returned (.int .i64 (orI x y)) ∧ w = w' := by
  go_enter Try.func41, Try.ntmps41
  go_wp2
  go_loop [8] (fun i => ∃ k : Nat, k ≤ 2 ∧ Hid ((1 ≤ k → x = 0) ∧ (2 ≤ k → y = 0)) ∧ i = .int .i64 k) (fun i => 2 - (intOf i).toNat)
  case atStart => exact ⟨0, by omega, Lib.hid ⟨fun h => absurd h (by omega), fun h => absurd h (by omega)⟩, rfl⟩
  case round =>
    obtain ⟨k, hk, hz, rfl⟩ := hrel
    have hc : k = 0 ∨ k = 1 ∨ k = 2 := by omega
    rcases hc with rfl | rfl | rfl
    · by_cases hx : x = 0
      · have d1 : (x == 0) = true := by rw [hx]; rfl
        have d2 : (x != 0) = false := by rw [hx]; rfl
        have HX := Lib.hid hx
        clear hx
        go_wp2
        go_round
        case rel => exact ⟨1, by omega, Lib.hid ⟨fun _ => HX.out, fun h => absurd h (by omega)⟩, rfl⟩
        case measure => simp [intOf]
      · have d1 : (x == 0) = false := by rw [beq_eq_false_iff_ne]; exact hx
        have d2 : (x != 0) = true := by rw [bne_iff_ne]; exact hx
        have HE := Lib.hid (show Ending.returned (.int .i64 x) = Ending.returned (.int .i64 (orI x y)) by rw [orI_neg y hx])
        clear hx
        go_wp2
        go_ret
        exact ⟨HE.out, rfl⟩
    · have hx := hz.out.1 (by omega)
      by_cases hy : y = 0
      · have d1 : (y == 0) = true := by rw [hy]; rfl
        have d2 : (y != 0) = false := by rw [hy]; rfl
        have HX := Lib.hid hx
        have HY := Lib.hid hy
        clear hx hy
        go_wp2
        go_round
        case rel => exact ⟨2, by omega, Lib.hid ⟨fun _ => HX.out, fun _ => HY.out⟩, rfl⟩
        case measure => simp [intOf]
      · have d1 : (y == 0) = false := by rw [beq_eq_false_iff_ne]; exact hy
        have d2 : (y != 0) = true := by rw [bne_iff_ne]; exact hy
        have HE := Lib.hid (show Ending.returned (.int .i64 y) = Ending.returned (.int .i64 (orI x y)) by rw [orI_pos y hx])
        clear hx hy
        go_wp2
        go_ret
        exact ⟨HE.out, rfl⟩
    · have hx := hz.out.1 (by omega)
      have hy := hz.out.2 (by omega)
      have HE := Lib.hid (show Ending.returned (.int .i64 0) = Ending.returned (.int .i64 (orI x y)) by rw [orI_pos y hx, hy])
      clear hx hy
      go_wp2
      go_ret
      exact ⟨HE.out, rfl⟩

theorem compare_any (a b : ByteArray) (w : World) :
    Calls Try.prog 31 #[.string a, .string b] w fun e w' => e = .returned (.int .i64 (cfT a b)) ∧ w = w' := by
  have h := Any.strings_Compare Try.layCompare a b w
  exact h.mono fun e w' ⟨he, hw⟩ => ⟨he, hw.symm⟩

theorem orCell0 (w : World) (n : Nat) (x y : Int) (t : TypeId) : ((w.drewN n).alloc (.cells #[.int .i64 x, .int .i64 y] t)).cell? ⟨w.heap.size, 0, none⟩ = some (.int .i64 x) := (Blk.new (w.drewN n) t #[.int .i64 x, .int .i64 y]).cell 0
theorem orCell1 (w : World) (n : Nat) (x y : Int) (t : TypeId) : ((w.drewN n).alloc (.cells #[.int .i64 x, .int .i64 y] t)).cell? ⟨w.heap.size, 1, none⟩ = some (.int .i64 y) := (Blk.new (w.drewN n) t #[.int .i64 x, .int .i64 y]).cell 1

theorem byField_any (a b : ByteArray) (w : World) (ha : a.size ≤ maxLen) (hb : b.size ≤ maxLen) :
    Calls Try.prog 34 #[.string a, .string b] w fun e w' => e = .returned (.int .i64 (cfF a b)) ∧ Grew w w' := by
  rw [cfF_or]
  go_enter Try.func34, Try.ntmps34
  go_wp2_with (first
    | (go_at_call 13; refine (field_any _ _ (by assumption)).mono ?_; rintro e w1 ⟨rfl, n1, rfl⟩)
    | (go_at_call 31; refine (compare_any _ _ _).mono ?_; rintro e w1 ⟨rfl, rfl⟩)
    | (go_at_call 41; refine (or_any _ _ _ _ (orCell0 w _ _ _ _) (orCell1 w _ _ _ _)).mono ?_; rintro e w1 ⟨rfl, rfl⟩))
  go_ret
  exact ⟨rfl, by simp only [alloc_eq_grow, World.drewN_drewN]; exact ⟨_, _, rfl⟩⟩

end Go.Proofs.Ytggjimpnimlmmaa
