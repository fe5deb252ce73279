/-
  LAYER 4: what is done with lists of texts: few, the document's Texts and Put: contracts.
-/
import Derived.Test.YtggjimpnimlmmaaItemCut
import Derived.Test.YtggjimpnimlmmaaTxt
set_option linter.unusedVariables false
set_option linter.unusedSimpArgs false
namespace Go.Proofs.Ytggjimpnimlmmaa
open Go.RowKit

/-! ### few -/
def sumB : Nat → List ByteArray → Nat
  | 0, _ => 0
  | k + 1, zs => sumB k zs + min (nthT zs k).size 20000
theorem sumB_le (k : Nat) (zs : List ByteArray) : sumB k zs ≤ k * 20000 := by
  induction k with
  | zero => exact Nat.le_refl _
  | succ k ih => unfold sumB; omega
def fewB (zs : List ByteArray) : Bool := decide (zs.length ≤ 100) && decide (sumB (min zs.length 100) zs ≤ 20000)
theorem fewB_len {zs : List ByteArray} (h : fewB zs = true) : zs.length ≤ 100 := by
  unfold fewB at h
  simp at h
  exact h.1

theorem few_any (A : Option Addr) (n c : Nat) (zs : List ByteArray) (B : Nat) (w : World) (h : Txt w B A n c zs) :
    Calls Try.prog 15 #[.slice A n c] w fun e w' => e = .returned (.bool (fewB zs)) ∧ w = w' := by
  have hl := h.len
  have hle := h.le
  have hcap := h.cap
  go_enter Try.func15, Try.ntmps15
  go_wp2
  go_loop [3, 4] (fun v i => ∃ k : Nat, k ≤ n ∧ k ≤ 100 ∧ i = .int .i64 k ∧ v = .int .i64 (sumB k zs : Nat)) (fun _ i => 200 - (intOf i).toNat)
  case atStart => exact ⟨0, Nat.zero_le _, Nat.zero_le _, rfl, rfl⟩
  case round =>
    obtain ⟨k, hk, hk100, rfl, rfl⟩ := hrel
    have hsb := sumB_le k zs
    by_cases hlt : k < n ∧ k < 100
    · obtain ⟨hlt, h100⟩ := hlt
      obtain ⟨b, off, rfl, hb, hcell⟩ := h.at_ (by omega)
      have c0 := hcell k hlt
      have hz := h.size hlt
      have HS := Lib.hid (show sumB (k + 1) zs = sumB k zs + min (nthT zs k).size 20000 from rfl)
      have HL := Lib.hid hl
      have HH := Lib.hid h
      unfold maxLen at hz
      generalize nthT zs k = s at *
      clear hcell hl h
      go_wp2
      go_round
      case rel => exact ⟨k + 1, by omega, by omega, by go_num, by rw [HS.out]; congr 1; omega⟩
      case measure => simp [intOf]; omega
    · by_cases hn : n ≤ 100
      · obtain rfl : k = n := by omega
        have hv : fewB zs = decide (((sumB k zs : Nat) : Int) ≤ 20000) := by
          unfold fewB
          rw [hl, show min k 100 = k by omega, decide_eq_true hn, Bool.true_and, decide_eq_decide]
          omega
        have HV := Lib.hid hv
        have HL := Lib.hid hl
        have HH := Lib.hid h
        have h1 : ((k : Nat) : Int) ≤ 100 := by omega
        clear hv hl h hlt
        go_wp2
        go_ret
        exact ⟨ret_bool HV.out.symm, rfl⟩
      · obtain rfl : k = 100 := by omega
        have hv : fewB zs = false := by
          unfold fewB
          rw [hl, decide_eq_false hn, Bool.false_and]
        have HV := Lib.hid hv
        have HL := Lib.hid hl
        have HH := Lib.hid h
        have h1 : ¬ ((n : Nat) : Int) ≤ 100 := by omega
        have h2 : (100 : Int) < n := by omega
        clear hv hl h hlt
        go_wp2
        go_ret
        exact ⟨ret_bool HV.out.symm, rfl⟩

/-! ### the document's Texts, of alike ones -/
theorem texts_same (A1 A2 : Option Addr) (n c1 c2 : Nat) (zs : List ByteArray) (B1 B2 : Nat) (w : World) (h1 : Txt w B1 A1 n c1 zs) (h2 : Txt w B2 A2 n c2 zs) :
    Calls Try.prog 18 #[.slice A1 n c1, .slice A2 n c2] w fun e w' => e = .returned (.bool true) ∧ Drew w w' := by
  have hle := h1.le
  have hcap := h1.cap
  have hle2 := h2.le
  go_enter Try.func18, Try.ntmps18
  go_wp2
  go_loopw [5] (fun i wr => ∃ k q : Nat, k ≤ n ∧ i = .int .i64 k ∧ wr = w.drewN q) (fun i _ => n - (intOf i).toNat)
  case atStart => exact ⟨0, 0, Nat.zero_le _, rfl, rfl⟩
  case round =>
    obtain ⟨k, q, hk, rfl, rfl⟩ := hrel
    have H1 := Lib.hid h1
    have H2 := Lib.hid h2
    by_cases hlt : k < n
    · obtain ⟨b1, o1, rfl, hb1, hc1⟩ := h1.at_ (by omega)
      obtain ⟨b2, o2, rfl, hb2, hc2⟩ := h2.at_ (by omega)
      have e1 := hc1 k hlt
      have e2 := hc2 k hlt
      have hlti : (k : Int) < n := by omega
      have hk0 : (0 : Int) ≤ k := by omega
      generalize nthT zs k = s at *
      clear hc1 hc2 h1 h2
      go_wp2
      go_quiet (fail)
      go_wp2
      go_roundw
      case rel => exact ⟨k + 1, _, by omega, by go_num, by first | rfl | exact World.drewN_drewN _ _ _⟩
      case measure => simp [intOf]; omega
    · obtain rfl : k = n := by omega
      clear h1 h2
      go_wp2
      go_ret
      exact ⟨rfl, Drew.n _ _⟩

end Go.Proofs.Ytggjimpnimlmmaa
