/-
  LAYER 4: how a text is cut: strings.Cut at one byte, item.Split, item.Field, and the document's own answers: contracts.
-/
import Derived.Test.YtggjimpnimlmmaaItemFn2
import Derived.Test.YtggjimpnimlmmaaShelf
import Derived.Lib.IndexBytes
set_option linter.unusedVariables false
set_option linter.unusedSimpArgs false
namespace Go.Proofs.Ytggjimpnimlmmaa
open Go.RowKit

theorem indexByte_eq (s : ByteArray) (w : World) :
    Calls Try.prog 46 #[.string s, .int .u8 61] w fun e w' => e = .returned (.int .i64 (eqIdx s)) ∧ w = w' := by
  have h := Any.stringslite_IndexByte Try.layIndexByte s 61 w
  exact h.mono fun e w' ⟨he, hw⟩ => ⟨he, hw.symm⟩

theorem index_eq (s : ByteArray) (w : World) (hs : s.size ≤ maxLen) :
    Calls Try.prog 42 #[.string s, .string ⟨#[61]⟩] w fun e w' => e = .returned (.int .i64 (eqIdx s)) ∧ w = w' := by
  cases he : ([61] == s.toList) with
  | true =>
    have hz : eqIdx s = 0 := by
      have e := beq_iff_eq.1 he
      rw [_root_.Go.ByteArray.toList_eq] at e
      unfold eqIdx
      rw [← e]; rfl
    rw [hz]
    clear hz
    go_enter Try.func42, Try.ntmps42
    go_wp2_with fail
    go_ret
    exact ⟨rfl, rfl⟩
  | false =>
    go_enter Try.func42, Try.ntmps42
    go_wp2_with (go_at_call 46; refine (indexByte_eq _ _).mono ?_; rintro e w1 ⟨rfl, rfl⟩)
    go_ret
    exact ⟨rfl, rfl⟩

/-- What strings.Cut tells at the sign of equality. -/
def ctB (s : ByteArray) : ByteArray := if 0 ≤ eqIdx s then s.extract 0 (eqIdx s).toNat else s
def ctA (s : ByteArray) : ByteArray := if 0 ≤ eqIdx s then s.extract ((eqIdx s).toNat + 1) s.size else ⟨#[]⟩

theorem lcut_any (s : ByteArray) (w : World) (hs : s.size ≤ maxLen) :
    Calls Try.prog 35 #[.string s, .string ⟨#[61]⟩] w fun e w' => e = .returned (.tuple #[.string (ctB s), .string (ctA s), .bool (decide (0 ≤ eqIdx s))]) ∧ Drew w w' := by
  have hi := index_eq s
  have hlt := eqIdx_lt s
  have hs' := hs
  unfold maxLen at hs
  by_cases h0 : 0 ≤ eqIdx s
  · obtain ⟨n, hn⟩ := Int.eq_ofNat_of_zero_le h0
    have e1 : ctB s = s.extract 0 n := by unfold ctB; rw [if_pos h0, hn]; rfl
    have e2 : ctA s = s.extract (n + 1) s.size := by unfold ctA; rw [if_pos h0, hn]; rfl
    rw [e1, e2, decide_eq_true h0]
    rw [hn] at hi hlt
    have hlt2 : n < s.size := by omega
    have hn1 : ((n : Nat) : Int) + 1 ≤ (s.size : Int) := by omega
    have H := Lib.hid hi
    clear hi h0 hn e1 e2
    go_enter Try.func35, Try.ntmps35
    go_wp2_with (go_at_call 42; refine (H.out _ hs').mono ?_; rintro e w1 ⟨rfl, rfl⟩)
    go_quiet (fail)
    go_wp2
    go_ret3
    exact ⟨rfl, Drew.n _ _⟩
  · have e1 : ctB s = s := by unfold ctB; rw [if_neg h0]
    have e2 : ctA s = ⟨#[]⟩ := by unfold ctA; rw [if_neg h0]
    rw [e1, e2, decide_eq_false h0]
    have hge := eqIdx_ge s
    have hn : eqIdx s = -1 := by omega
    rw [hn] at hi
    have H := Lib.hid hi
    clear hi h0 hn e1 e2 hge hlt
    go_enter Try.func35, Try.ntmps35
    go_wp2_with (go_at_call 42; refine (H.out _ hs').mono ?_; rintro e w1 ⟨rfl, rfl⟩)
    go_ret3
    exact ⟨rfl, Drew.refl _⟩

theorem cut_any (s : ByteArray) (w : World) (hs : s.size ≤ maxLen) :
    Calls Try.prog 27 #[.string s, .string ⟨#[61]⟩] w fun e w' => e = .returned (.tuple #[.string (ctB s), .string (ctA s), .bool (decide (0 ≤ eqIdx s))]) ∧ Drew w w' := by
  generalize hq : decide (0 ≤ eqIdx s) = q
  have hc := fun w => lcut_any s w hs
  rw [hq] at hc
  have H := Lib.hid hc
  clear hc hq
  go_enter Try.func27, Try.ntmps27
  go_wp2_with (go_at_call 35; refine (H.out _).mono ?_; rintro e w1 ⟨rfl, n, rfl⟩)
  go_ret3
  exact ⟨rfl, Drew.n _ _⟩

theorem split_any (s : ByteArray) (w : World) (hs : s.size ≤ maxLen) :
    Calls Try.prog 9 #[.string s] w fun e w' => e = .returned (.tuple #[.string (spF s), .string (spV s), .bool (spOk s)]) ∧ Drew w w' := by
  have hc := fun w => cut_any s w hs
  by_cases h0 : 0 ≤ eqIdx s
  · obtain ⟨n, hn⟩ := Int.eq_ofNat_of_zero_le h0
    have e1 : ctB s = s.extract 0 n := by unfold ctB; rw [if_pos h0, hn]; rfl
    have e2 : ctA s = s.extract (n + 1) s.size := by unfold ctA; rw [if_pos h0, hn]; rfl
    have hsz : (s.extract 0 n).size ≤ maxLen := by simp; omega
    have hno := spOk_name hn
    rw [e1, e2, decide_eq_true h0] at hc
    cases ho : spOk s with
    | true =>
      rw [spF_yes hn ho, spV_yes hn ho]
      have hnm : nameB (s.extract 0 n) = true := hno ▸ ho
      have hname := fun w => name_any (s.extract 0 n) w hsz
      rw [hnm] at hname
      generalize s.extract 0 n = a at *
      generalize s.extract (n + 1) s.size = b at *
      have H := Lib.hid hc
      have H2 := Lib.hid hname
      clear hc hname hnm hno ho hn h0 e1 e2 hsz
      go_enter Try.func9, Try.ntmps9
      go_wp2_with (first
        | (go_at_call 27; refine (H.out _).mono ?_; rintro e w1 ⟨rfl, n1, rfl⟩)
        | (go_at_call 11; refine (H2.out _).mono ?_; rintro e w1 ⟨rfl, rfl⟩))
      go_ret3
      exact ⟨rfl, Drew.n _ _⟩
    | false =>
      rw [spF_no ho, spV_no ho]
      have hnm : nameB (s.extract 0 n) = false := hno ▸ ho
      have hname := fun w => name_any (s.extract 0 n) w hsz
      rw [hnm] at hname
      generalize s.extract 0 n = a at *
      generalize s.extract (n + 1) s.size = b at *
      have H := Lib.hid hc
      have H2 := Lib.hid hname
      clear hc hname hnm hno ho hn h0 e1 e2 hsz
      go_enter Try.func9, Try.ntmps9
      go_wp2_with (first
        | (go_at_call 27; refine (H.out _).mono ?_; rintro e w1 ⟨rfl, n1, rfl⟩)
        | (go_at_call 11; refine (H2.out _).mono ?_; rintro e w1 ⟨rfl, rfl⟩))
      go_ret3
      exact ⟨rfl, Drew.n _ _⟩
  · have ho := spOk_none (s := s) (by omega)
    rw [spF_no ho, spV_no ho, ho]
    rw [decide_eq_false h0] at hc
    have H := Lib.hid hc
    clear hc h0 ho
    go_enter Try.func9, Try.ntmps9
    go_wp2_with (go_at_call 27; refine (H.out _).mono ?_; rintro e w1 ⟨rfl, n1, rfl⟩)
    go_ret3
    exact ⟨rfl, Drew.n _ _⟩

theorem field_any (s : ByteArray) (w : World) (hs : s.size ≤ maxLen) :
    Calls Try.prog 13 #[.string s] w fun e w' => e = .returned (.string (spF s)) ∧ Drew w w' := by
  go_enter Try.func13, Try.ntmps13
  go_wp2_with (go_at_call 9; refine (split_any s _ hs).mono ?_; rintro e w1 ⟨rfl, n1, rfl⟩)
  go_ret
  exact ⟨rfl, Drew.n _ _⟩

theorem rsplit_any (s : ByteArray) (w : World) (hs : s.size ≤ maxLen) :
    Calls Try.prog 10 #[.string s] w fun e w' => e = .returned (.tuple #[.string (spF s), .string (spV s), .bool (spOk s)]) ∧ Drew w w' := by
  have hs' := hs
  unfold maxLen at hs
  go_enter Try.func10, Try.ntmps10
  go_wp2
  go_loop [5] (fun i => ∃ k : Nat, k ≤ s.size ∧ Hid (∀ j, j < k → nthB s j ≠ 61) ∧ i = .int .i64 k) (fun i => s.size - (intOf i).toNat)
  case atStart => exact ⟨0, Nat.zero_le _, Lib.hid (fun j hj => absurd hj (by omega)), rfl⟩
  case round =>
    obtain ⟨k, hk, hall, rfl⟩ := hrel
    by_cases hlt : k < s.size
    · have nk := nthB_get s k hlt
      have hlti : (k : Int) < s.size := by omega
      by_cases h61 : s[k].toNat = 61
      · have d1 : (((s[k].toNat : Nat) : Int) == 61) = true := by rw [h61]; rfl
        have hidx : eqIdx s = k := eqIdx_of hlt (by rw [nk, h61]) hall.out
        have hsz : (s.extract 0 k).size ≤ maxLen := by simp; omega
        have hno := spOk_name hidx
        have hname := fun w => rname_any (s.extract 0 k) w hsz
        have hk1 : ((k : Nat) : Int) + 1 ≤ (s.size : Int) := by omega
        clear h61 nk
        cases ho : spOk s with
        | true =>
          have HE := Lib.hid (show Ending.returned (.tuple #[.string (s.extract 0 k), .string (s.extract (k + 1) s.size), .bool true]) = Ending.returned (.tuple #[.string (spF s), .string (spV s), .bool (spOk s)]) by rw [spF_yes hidx ho, spV_yes hidx ho, ho])
          have hnm : nameB (s.extract 0 k) = true := hno ▸ ho
          rw [hnm] at hname
          have H2 := Lib.hid hname
          clear hname hnm hno ho hidx hsz
          go_wp2_with (go_at_call 12; refine (H2.out _).mono ?_; rintro e w1 ⟨rfl, n1, rfl⟩)
          go_quiet (fail)
          go_wp2
          go_ret3
          exact ⟨HE.out, by first | exact Drew.n _ _ | exact ⟨_, World.drewN_drewN _ _ _⟩⟩
        | false =>
          have HE := Lib.hid (show Ending.returned (.tuple #[.string (⟨#[]⟩), .string (⟨#[]⟩), .bool false]) = Ending.returned (.tuple #[.string (spF s), .string (spV s), .bool (spOk s)]) by rw [spF_no ho, spV_no ho, ho])
          have hnm : nameB (s.extract 0 k) = false := hno ▸ ho
          rw [hnm] at hname
          have H2 := Lib.hid hname
          clear hname hnm hno ho hidx hsz
          go_wp2_with (go_at_call 12; refine (H2.out _).mono ?_; rintro e w1 ⟨rfl, n1, rfl⟩)
          go_ret3
          exact ⟨HE.out, Drew.n _ _⟩
      · have d1 : (((s[k].toNat : Nat) : Int) == 61) = false := by rw [beq_eq_false_iff_ne]; intro e; exact h61 (by omega)
        have hne : nthB s k ≠ 61 := by rw [nk]; exact h61
        have HN := Lib.hid hne
        clear h61 nk hne
        go_wp2
        go_round
        case rel => exact ⟨k + 1, by omega, Lib.hid (fun j hj => by
          rcases Nat.lt_or_ge j k with e | e
          · exact hall.out j e
          · obtain rfl : j = k := by omega
            exact HN.out), by go_num⟩
        case measure => simp [intOf]; omega
    · obtain rfl : k = s.size := by omega
      have ho := spOk_none (s := s) (by rw [eqIdx_no hall.out]; omega)
      have HE := Lib.hid (show Ending.returned (.tuple #[.string (⟨#[]⟩), .string (⟨#[]⟩), .bool false]) = Ending.returned (.tuple #[.string (spF s), .string (spV s), .bool (spOk s)]) by rw [spF_no ho, spV_no ho, ho])
      clear ho
      go_wp2
      go_ret3
      exact ⟨HE.out, Drew.refl _⟩

theorem rfield_any (s : ByteArray) (w : World) (hs : s.size ≤ maxLen) :
    Calls Try.prog 14 #[.string s] w fun e w' => e = .returned (.string (spF s)) ∧ Drew w w' := by
  go_enter Try.func14, Try.ntmps14
  go_wp2_with (go_at_call 10; refine (rsplit_any s _ hs).mono ?_; rintro e w1 ⟨rfl, n1, rfl⟩)
  go_ret
  exact ⟨rfl, Drew.n _ _⟩

end Go.Proofs.Ytggjimpnimlmmaa
