/-
  LAYER 4: what the functions of package item on one text do, and the document's own answers: contracts.
-/
import Derived.Test.YtggjimpnimlmmaaChecked
import Derived.Test.YtggjimpnimlmmaaWords
import Derived.Test.YtggjimpnimlmmaaChg
import Derived.Test.YtggjimpnimlmmaaItemText
import Derived.Outline
import Derived.Deep.QuietTactic
import Derived.BigQuiet
import Derived.WalkLawsBesides
import Derived.WalkSpells
import Derived.LoopTactic
set_option linter.unusedVariables false
set_option linter.unusedSimpArgs false
namespace Go.Proofs.Ytggjimpnimlmmaa
open Go.RowKit

theorem isDigit_any (c : Nat) (w : World) :
    Calls Try.prog 28 #[.int .u8 c] w fun e w' => e = .returned (.bool (digB c)) ∧ w = w' := by
  by_cases h1 : 48 ≤ c
  · by_cases h2 : c ≤ 57
    · go_enter Try.func28, Try.ntmps28
      go_wp2
      go_ret
      exact ⟨ret_bool (by unfold digB; rw [decide_eq_decide]; omega), rfl⟩
    · go_enter Try.func28, Try.ntmps28
      go_wp2
      go_ret
      exact ⟨ret_bool (by unfold digB; rw [decide_eq_decide]; omega), rfl⟩
  · go_enter Try.func28, Try.ntmps28
    go_wp2
    go_ret
    exact ⟨ret_bool (by unfold digB; simp; omega), rfl⟩
theorem isDigit_yes (c : Nat) (w : World) (h : digB c = true) :
    Calls Try.prog 28 #[.int .u8 c] w fun e w' => e = .returned (.bool true) ∧ w = w' := h ▸ isDigit_any c w
theorem isDigit_no (c : Nat) (w : World) (h : digB c = false) :
    Calls Try.prog 28 #[.int .u8 c] w fun e w' => e = .returned (.bool false) ∧ w = w' := h ▸ isDigit_any c w

theorem isOfName_any (c : Nat) (w : World) :
    Calls Try.prog 29 #[.int .u8 c] w fun e w' => e = .returned (.bool (okOf c)) ∧ w = w' := by
  by_cases h1 : 65 ≤ c ∧ c ≤ 90
  · have ho : okOf c = true := by unfold okOf; simp; omega
    obtain ⟨h1, h2⟩ := h1
    rw [ho]
    clear ho
    go_enter Try.func29, Try.ntmps29
    go_wp2
    go_ret
    exact ⟨rfl, rfl⟩
  · have hp : 65 ≤ c → ¬ c ≤ 90 := fun a b => h1 ⟨a, b⟩
    cases hd : digB c with
    | true =>
      have ho : okOf c = true := by unfold digB at hd; unfold okOf; simp at hd ⊢; omega
      rw [ho]
      clear ho h1
      have H := Lib.hid hd
      clear hd
      by_cases h65 : 65 ≤ c
      · have h90 := hp h65
        clear hp
        go_enter Try.func29, Try.ntmps29
        go_wp2_with (go_at_call 28; refine (isDigit_yes c _ H.out).mono ?_; rintro e w1 ⟨rfl, rfl⟩)
        go_ret
        exact ⟨rfl, rfl⟩
      · clear hp
        go_enter Try.func29, Try.ntmps29
        go_wp2_with (go_at_call 28; refine (isDigit_yes c _ H.out).mono ?_; rintro e w1 ⟨rfl, rfl⟩)
        go_ret
        exact ⟨rfl, rfl⟩
    | false =>
      have ho : okOf c = decide (c = 95) := by
        unfold digB at hd; unfold okOf
        simp only [decide_eq_false_iff_not, decide_eq_decide] at hd ⊢
        omega
      rw [ho]
      clear ho h1
      have H := Lib.hid hd
      clear hd
      by_cases h65 : 65 ≤ c
      · have h90 := hp h65
        clear hp
        go_enter Try.func29, Try.ntmps29
        go_wp2_with (go_at_call 28; refine (isDigit_no c _ H.out).mono ?_; rintro e w1 ⟨rfl, rfl⟩)
        go_ret
        exact ⟨ret_bool (by rw [Bool.eq_iff_iff]; simp; omega), rfl⟩
      · clear hp
        go_enter Try.func29, Try.ntmps29
        go_wp2_with (go_at_call 28; refine (isDigit_no c _ H.out).mono ?_; rintro e w1 ⟨rfl, rfl⟩)
        go_ret
        exact ⟨ret_bool (by rw [Bool.eq_iff_iff]; simp; omega), rfl⟩
theorem isOfName_yes (c : Nat) (w : World) (h : okOf c = true) :
    Calls Try.prog 29 #[.int .u8 c] w fun e w' => e = .returned (.bool true) ∧ w = w' := h ▸ isOfName_any c w
theorem isOfName_no (c : Nat) (w : World) (h : okOf c = false) :
    Calls Try.prog 29 #[.int .u8 c] w fun e w' => e = .returned (.bool false) ∧ w = w' := h ▸ isOfName_any c w

/-! ### item.Name -/
theorem name_any (s : ByteArray) (w : World) (hs : s.size ≤ maxLen) :
    Calls Try.prog 11 #[.string s] w fun e w' => e = .returned (.bool (nameB s)) ∧ w = w' := by
  unfold maxLen at hs
  by_cases h0 : s.size = 0
  · have hn : nameB s = false := nameB_no (by omega)
    rw [hn]
    clear hn
    have he : s.toList = [] := by rw [_root_.Go.ByteArray.toList_eq]; exact List.eq_nil_of_length_eq_zero (by simpa using h0)
    go_enter Try.func11, Try.ntmps11
    go_wp2
    go_ret
    exact ⟨rfl, rfl⟩
  have he1 : s.toList.isEmpty = false := by rw [_root_.Go.ByteArray.toList_eq, List.isEmpty_eq_false_iff]; intro e; exact h0 (by simpa using congrArg List.length e)
  have hp : 0 < s.size := by omega
  by_cases h64 : 64 < s.size
  · have hn : nameB s = false := nameB_no (by omega)
    rw [hn]
    clear hn h0
    go_enter Try.func11, Try.ntmps11
    go_wp2
    go_ret
    exact ⟨rfl, rfl⟩
  have hle : s.size ≤ 64 := by omega
  clear hs h64
  have n0 := nthB_get s 0 hp
  cases hd : digB s[0].toNat with
  | true =>
    have hn : nameB s = false := nameB_no fun hh => by
      have := hh.2.2 0 hp
      rw [n0, okAt_dig hd] at this
      cases this
    rw [hn]
    have HD := Lib.hid hd
    clear hn h0 hd n0
    go_enter Try.func11, Try.ntmps11
    go_wp2_with (go_at_call 28; refine (isDigit_yes _ _ HD.out).mono ?_; rintro e w1 ⟨rfl, rfl⟩)
    go_ret
    exact ⟨rfl, rfl⟩
  | false =>
    have HD := Lib.hid hd
    have N0 := Lib.hid n0
    clear h0 hd n0
    go_enter Try.func11, Try.ntmps11
    go_wp2_with (go_at_call 28; refine (isDigit_no _ _ HD.out).mono ?_; rintro e w1 ⟨rfl, rfl⟩)
    go_loop [3, 18] (fun _ i => ∃ k : Nat, k ≤ s.size ∧ Hid (∀ j, j < k → okAt (nthB s j) j = true) ∧ i = .int .i64 k) (fun _ i => s.size - (intOf i).toNat)
    case atStart => exact ⟨0, Nat.zero_le _, Lib.hid (fun j hj => absurd hj (by omega)), rfl⟩
    case round =>
      obtain ⟨k, hk, hall, rfl⟩ := hrel
      by_cases hlt : k < s.size
      · have nk := nthB_get s k hlt
        cases ho : okOf s[k].toNat with
        | true =>
          have hok : okAt (nthB s k) k = true := by
            rw [nk]
            refine okAt_of ho ?_
            rcases Nat.eq_zero_or_pos k with e | e
            · subst e; exact .inr HD.out
            · exact .inl e
          have HO := Lib.hid ho
          have HK := Lib.hid hok
          clear ho hok nk
          go_wp2_with (go_at_call 29; refine (isOfName_yes _ _ HO.out).mono ?_; rintro e w1 ⟨rfl, rfl⟩)
          go_round
          case rel => exact ⟨k + 1, by omega, Lib.hid (fun j hj => by
            rcases Nat.lt_or_ge j k with e | e
            · exact hall.out j e
            · obtain rfl : j = k := by omega
              exact HK.out), by go_num⟩
          case measure => simp [intOf]; omega
        | false =>
          have hn : nameB s = false := nameB_no fun hh => by
            have := okOf_at (hh.2.2 k hlt)
            rw [nk, ho] at this
            cases this
          have HO := Lib.hid ho
          have HN := Lib.hid hn
          clear ho hn nk
          go_wp2_with (go_at_call 29; refine (isOfName_no _ _ HO.out).mono ?_; rintro e w1 ⟨rfl, rfl⟩)
          go_ret
          exact ⟨ret_bool HN.out.symm, rfl⟩
      · obtain rfl : k = s.size := by omega
        have hn := Lib.hid ((nameB_iff s).2 ⟨hp, hle, hall.out⟩)
        go_wp2
        go_ret
        exact ⟨ret_bool hn.out.symm, rfl⟩

end Go.Proofs.Ytggjimpnimlmmaa
