/-
  WHAT THE FUNCTIONS OF PACKAGE le ON NUMBERS DO (Get, Bytes, Align), AND THE DOCUMENT'S OWN ANSWERS: contracts, for every input.
-/
import Derived.Test.YtdajjkjpjhpnjaaChecked
import Derived.Test.YtdajjkjpjhpnjaaWords
import Derived.Test.YtdajjkjpjhpnjaaLeMath
import Derived.WalkKit
import Derived.Outline
import Derived.Lib.Hide
set_option linter.unusedVariables false
set_option maxRecDepth 100000
namespace Go.Proofs.Ytdajjkjpjhpnjaa
open Go.RowKit

def isw (w : Int) : Bool := w == 1 || w == 2 || w == 4 || w == 8

theorem isw_cases {w : Int} (h : isw w = true) : w = 1 ∨ w = 2 ∨ w = 4 ∨ w = 8 := by simp [isw] at h; omega
theorem isw_not {w : Int} (h : isw w = false) : w ≠ 1 ∧ w ≠ 2 ∧ w ≠ 4 ∧ w ≠ 8 := by simp [isw] at h; omega
theorem gok_isw (len : Nat) (i w : Int) : gok len i w = (isw w && decide (0 ≤ i) && decide (i ≤ (len : Int) - w)) := rfl

theorem isw_any (v : Int) (w : World) : Calls Try.prog 41 #[.int .i64 v] w fun e w' => e = .returned (.bool (isw v)) ∧ w = w' := by
  by_cases h1 : v = 1
  · subst h1; go_enter Try.func41, Try.ntmps41
    go_wp2
    go_ret
    exact ⟨rfl, rfl⟩
  by_cases h2 : v = 2
  · subst h2; go_enter Try.func41, Try.ntmps41
    go_wp2
    go_ret
    exact ⟨rfl, rfl⟩
  by_cases h4 : v = 4
  · subst h4; go_enter Try.func41, Try.ntmps41
    go_wp2
    go_ret
    exact ⟨rfl, rfl⟩
  by_cases h8 : v = 8
  · subst h8; go_enter Try.func41, Try.ntmps41
    go_wp2
    go_ret
    exact ⟨rfl, rfl⟩
  go_enter Try.func41, Try.ntmps41
  go_wp2
  go_ret
  exact ⟨by simp [isw, h1, h2, h4, h8], rfl⟩

theorem get_no (A : Option Addr) (len cap : Nat) (i v : Int) (w : World) (h : gok len i v = false) (hl : len ≤ 9223372036854775807) (hi : -9223372036854775808 ≤ i) (hi' : i ≤ 9223372036854775807) (hv : -9223372036854775808 ≤ v) (hv' : v ≤ 9223372036854775807) :
    Calls Try.prog 38 #[.slice A len cap, .int .i64 i, .int .i64 v] w fun e w' => e = .returned (.tuple #[.int .u64 0, .bool false]) ∧ w = w' := by
  rw [gok_isw] at h
  by_cases hw : isw v = true
  · have hc := isw_cases hw
    rw [hw] at h
    simp at h
    by_cases h0 : i < 0
    · clear h
      go_enter Try.func38, Try.ntmps38
      go_wp2_with (go_at_call 41; refine (isw_any _ _).mono ?_; rintro e w' ⟨rfl, rfl⟩)
      go_ret2
      exact ⟨rfl, rfl⟩
    · have h1 := h (by omega)
      clear h
      go_enter Try.func38, Try.ntmps38
      go_wp2_with (go_at_call 41; refine (isw_any _ _).mono ?_; rintro e w' ⟨rfl, rfl⟩)
      go_ret2
      exact ⟨rfl, rfl⟩
  · have hw : isw v = false := by simpa using hw
    clear h
    go_enter Try.func38, Try.ntmps38
    go_wp2_with (go_at_call 41; refine (isw_any _ _).mono ?_; rintro e w' ⟨rfl, rfl⟩)
    go_ret2
    exact ⟨rfl, rfl⟩

theorem get_yes (b off len cap j m : Nat) (zs : List Int) (w : World) (hw : isw (m : Int) = true) (hz : AreB zs) (hlen : zs.length = len) (hl : len ≤ cap) (hcap : cap ≤ 9223372036854775807) (hj : j + m ≤ len)
    (hc : ∀ i, i < len → w.cell? ⟨b, off + i, none⟩ = some (.int .u8 (zs.getD i 0))) :
    Calls Try.prog 38 #[.slice (some ⟨b, off, none⟩) len cap, .int .i64 j, .int .i64 m] w fun e w' => e = .returned (.tuple #[.int .u64 (lev ((zs.drop j).take m)), .bool true]) ∧ w = w' := by
  have hm : 1 ≤ m ∧ m ≤ 8 := by have := isw_cases hw; omega
  have h1 : (j : Int) ≤ (len : Int) - m := by omega
  have h2 : (j : Int) ≤ (j : Int) + m := by omega
  have h3 : (j : Int) + m ≤ cap := by omega
  have h4 : j ≠ cap := by omega
  go_enter Try.func38, Try.ntmps38
  go_wp2_with (go_at_call 41; refine (isw_any _ _).mono ?_; rintro e w' ⟨rfl, rfl⟩)
  go_loop [8, 33] (fun n i => ∃ k : Nat, k ≤ m ∧ i = .int .i64 k ∧ n = .int .u64 (lev ((zs.drop j).take k))) (fun _ i => m - (intOf i).toNat)
  case atStart => exact ⟨0, Nat.zero_le _, rfl, rfl⟩
  case round =>
    obtain ⟨k, hk, rfl, rfl⟩ := hrel
    by_cases hlt : k < m
    · have hcell : w.cell? ⟨b, off + j + k, none⟩ = some (.int .u8 (zs.getD (j + k) 0)) := by rw [Nat.add_assoc]; exact hc (j + k) (by omega)
      have hx := hz.get (j + k)
      have hlev := lev_bound _ ((hz.drop j).take k)
      generalize hxe : zs.getD (j + k) 0 = x at hcell hx
      generalize hne : lev ((zs.drop j).take k) = n at hlev ⊢
      have HX := Lib.hid hxe
      have HN := Lib.hid hne
      have HL := Lib.hid hlev
      clear hxe hne hlev hc
      go_wp2
      go_round
      case rel =>
        refine ⟨k + 1, by omega, by go_num, ?_⟩
        have hl := HL.out
        rw [List.length_take, List.length_drop, Nat.min_eq_left (by omega)] at hl
        rw [or_step (by omega) hl hx, lev_step (by omega), HN.out, HX.out]
      case measure => simp [intOf]; omega
    · have e : k = m := by omega
      subst e
      go_wp2
      go_ret2
      exact ⟨rfl, rfl⟩

theorem gok_nat {len : Nat} {i v : Int} (h : gok len i v = true) : ∃ j m : Nat, i = j ∧ v = m ∧ isw (m : Int) = true ∧ j + m ≤ len := by
  rw [gok_isw] at h
  simp at h
  have hc := isw_cases h.1.1
  refine ⟨i.toNat, v.toNat, by omega, by omega, ?_, by omega⟩
  rw [show ((v.toNat : Nat) : Int) = v by omega]
  exact h.1.1

theorem get_any {B : Nat} (A : Option Addr) (len cap : Nat) (i v : Int) (zs : List Int) (w : World) (hr : Reads w B 1 A len (cellsOf .u8 zs)) (hz : AreB zs) (hl : len ≤ cap) (hcap : cap ≤ 9223372036854775807)
    (hi : -9223372036854775808 ≤ i) (hi' : i ≤ 9223372036854775807) (hv : -9223372036854775808 ≤ v) (hv' : v ≤ 9223372036854775807) :
    Calls Try.prog 38 #[.slice A len cap, .int .i64 i, .int .i64 v] w fun e w' => e = .returned (.tuple #[.int .u64 (gnum zs i v), .bool (gok len i v)]) ∧ w = w' := by
  have hlen := hr.len
  by_cases h : gok len i v = true
  · obtain ⟨j, m, rfl, rfl, hw, hjm⟩ := gok_nat h
    have hm := isw_cases hw
    obtain ⟨b, off, rfl, _, hc⟩ := hr.plain (by omega)
    have e : gnum zs j m = lev ((zs.drop j).take m) := by unfold gnum; rw [hlen, h]; simp
    rw [e, h]
    exact get_yes b off len cap j m zs w hw hz hlen hl hcap hjm hc
  · have h : gok len i v = false := by simpa using h
    have e : gnum zs i v = 0 := by unfold gnum; rw [hlen, h]; simp
    rw [e, h]
    exact get_no A len cap i v w h (by omega) hi hi' hv hv'

theorem rget_no (A : Option Addr) (len cap : Nat) (i v : Int) (w : World) (h : gok len i v = false) (_hl : len ≤ 9223372036854775807) (hi : -9223372036854775808 ≤ i) (hi' : i ≤ 9223372036854775807) (hv : -9223372036854775808 ≤ v) (hv' : v ≤ 9223372036854775807) :
    Calls Try.prog 32 #[.slice A len cap, .int .i64 i, .int .i64 v] w fun e w' => e = .returned (.tuple #[.int .u64 0, .bool false]) ∧ w = w' := by
  rw [gok_isw] at h
  by_cases hw : isw v = true
  · have hc := isw_cases hw
    rw [hw] at h
    simp at h
    by_cases h0 : i < 0
    · clear h
      rcases hc with rfl | rfl | rfl | rfl <;>
      · go_enter Try.func32, Try.ntmps32
        go_wp2
        go_ret2
        exact ⟨rfl, rfl⟩
    · have h1 := h (by omega)
      clear h
      by_cases h2 : (len : Int) < i <;> rcases hc with rfl | rfl | rfl | rfl <;>
      · go_enter Try.func32, Try.ntmps32
        go_wp2
        go_ret2
        exact ⟨rfl, rfl⟩
  · have hw : isw v = false := by simpa using hw
    have hc := isw_not hw
    clear h hw
    go_enter Try.func32, Try.ntmps32
    go_wp2
    go_ret2
    exact ⟨rfl, rfl⟩

set_option maxHeartbeats 1600000 in
theorem rget_yes (b off len cap j m : Nat) (zs : List Int) (w : World) (hw : isw (m : Int) = true) (hz : AreB zs) (hlen : zs.length = len) (hl : len ≤ cap) (hcap : cap ≤ 9223372036854775807) (hj : j + m ≤ len)
    (hc : ∀ i, i < len → w.cell? ⟨b, off + i, none⟩ = some (.int .u8 (zs.getD i 0))) :
    Calls Try.prog 32 #[.slice (some ⟨b, off, none⟩) len cap, .int .i64 j, .int .i64 m] w fun e w' => e = .returned (.tuple #[.int .u64 (lev ((zs.drop j).take m)), .bool true]) ∧ w = w' := by
  have hm := isw_cases hw
  have h1 : (j : Int) ≤ (len : Int) := by omega
  have h2 : (m : Int) ≤ (len : Int) - j := by omega
  have h3 : ¬ len < j := by omega
  obtain ⟨M, hM⟩ : ∃ M : Nat, M = m := ⟨m, rfl⟩
  rw [← hM]
  have hM1 : M ≤ m := by omega
  have hM2 : m ≤ M := by omega
  have hM3 : M ≤ 8 := by omega
  clear hM
  rcases (show m = 1 ∨ m = 2 ∨ m = 4 ∨ m = 8 by omega) with rfl | rfl | rfl | rfl <;> clear hm hw
  all_goals
    go_enter Try.func32, Try.ntmps32
    go_wp2
    go_loop [8, 9, 10] (fun n s i => ∃ (k : Nat) (sc : Int), k ≤ M ∧ i = .int .i64 k ∧ s = .int .u64 sc ∧ IsSc k sc ∧ n = .int .u64 (lev ((zs.drop j).take k))) (fun _ _ i => 8 - (intOf i).toNat)
    case atStart => exact ⟨0, 1, Nat.zero_le _, rfl, rfl, fun _ => rfl, rfl⟩
    case round =>
      obtain ⟨k, sc, hk, rfl, rfl, hsc, rfl⟩ := hrel
      by_cases hlt : k < M
      rotate_left
      · obtain rfl := Nat.le_antisymm hk (Nat.le_of_not_lt hlt)
        go_wp2
        go_ret2
        exact ⟨rfl, rfl⟩
      · have hcell : w.cell? ⟨b, off + (j + k), none⟩ = some (.int .u8 (zs.getD (j + k) 0)) := hc (j + k) (by omega)
        have hx := hz.get (j + k)
        have hlev := lev_bound _ ((hz.drop j).take k)
        generalize hxe : zs.getD (j + k) 0 = x at hcell hx
        generalize hne : lev ((zs.drop j).take k) = n at hlev ⊢
        have HX := Lib.hid hxe
        have HN := Lib.hid hne
        have HL := Lib.hid hlev
        clear hxe hne hlev hc
        go_wp2
        go_round
        case rel =>
          have hl := HL.out
          rw [List.length_take, List.length_drop, Nat.min_eq_left (by omega)] at hl
          exact ⟨k + 1, _, by omega, by go_num, rfl, isSc_step hsc, by rw [sc_step (by omega) hl hx (hsc (by omega)), lev_step (by omega), HN.out, HX.out]⟩
        case measure => simp [intOf]; omega

theorem rget_any {B : Nat} (A : Option Addr) (len cap : Nat) (i v : Int) (zs : List Int) (w : World) (hr : Reads w B 1 A len (cellsOf .u8 zs)) (hz : AreB zs) (hl : len ≤ cap) (hcap : cap ≤ 9223372036854775807)
    (hi : -9223372036854775808 ≤ i) (hi' : i ≤ 9223372036854775807) (hv : -9223372036854775808 ≤ v) (hv' : v ≤ 9223372036854775807) :
    Calls Try.prog 32 #[.slice A len cap, .int .i64 i, .int .i64 v] w fun e w' => e = .returned (.tuple #[.int .u64 (gnum zs i v), .bool (gok len i v)]) ∧ w = w' := by
  have hlen := hr.len
  by_cases h : gok len i v = true
  · obtain ⟨j, m, rfl, rfl, hw, hjm⟩ := gok_nat h
    have hm := isw_cases hw
    obtain ⟨b, off, rfl, _, hc⟩ := hr.plain (by omega)
    have e : gnum zs j m = lev ((zs.drop j).take m) := by unfold gnum; rw [hlen, h]; simp
    rw [e, h]
    exact rget_yes b off len cap j m zs w hw hz hlen hl hcap hjm hc
  · have h : gok len i v = false := by simpa using h
    have e : gnum zs i v = 0 := by unfold gnum; rw [hlen, h]; simp
    rw [e, h]
    exact rget_no A len cap i v w h (by omega) hi hi' hv hv'

end Go.Proofs.Ytdajjkjpjhpnjaa
