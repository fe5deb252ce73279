/-
  LAYER 4: the document's Name: its contract.
-/
import Derived.Test.YtggjimpnimlmmaaItemFn
set_option linter.unusedVariables false
set_option linter.unusedSimpArgs false
namespace Go.Proofs.Ytggjimpnimlmmaa
open Go.RowKit

/-- What a call leaves that only reads: draws. -/
def Drew (w w' : World) : Prop := ∃ n, w' = w.drewN n
theorem Drew.refl (w : World) : Drew w w := ⟨0, rfl⟩
theorem Drew.n (w : World) (n : Nat) : Drew w (w.drewN n) := ⟨n, rfl⟩

theorem cls (c : Nat) :
    (((decide ((65 : Int) ≤ (c : Int)) = true ∧ decide ((c : Int) ≤ 90) = true ∧ ((c : Int) == 95) = false ∧ decide ((48 : Int) ≤ (c : Int)) = true ∧ decide ((c : Int) ≤ 57) = false) ∨ (decide ((65 : Int) ≤ (c : Int)) = true ∧ decide ((c : Int) ≤ 90) = false ∧ ((c : Int) == 95) = true ∧ decide ((48 : Int) ≤ (c : Int)) = true ∧ decide ((c : Int) ≤ 57) = false)) ∧ ∀ i, okAt c i = true) ∨
    ((decide ((65 : Int) ≤ (c : Int)) = false ∧ decide ((c : Int) ≤ 90) = true ∧ ((c : Int) == 95) = false ∧ decide ((48 : Int) ≤ (c : Int)) = true ∧ decide ((c : Int) ≤ 57) = true) ∧ ∀ i, okAt c i = decide (0 < i)) ∨
    (((decide ((65 : Int) ≤ (c : Int)) = false ∧ decide ((c : Int) ≤ 90) = true ∧ ((c : Int) == 95) = false ∧ decide ((48 : Int) ≤ (c : Int)) = false ∧ decide ((c : Int) ≤ 57) = true) ∨ (decide ((65 : Int) ≤ (c : Int)) = false ∧ decide ((c : Int) ≤ 90) = true ∧ ((c : Int) == 95) = false ∧ decide ((48 : Int) ≤ (c : Int)) = true ∧ decide ((c : Int) ≤ 57) = false) ∨ (decide ((65 : Int) ≤ (c : Int)) = true ∧ decide ((c : Int) ≤ 90) = false ∧ ((c : Int) == 95) = false ∧ decide ((48 : Int) ≤ (c : Int)) = true ∧ decide ((c : Int) ≤ 57) = false)) ∧ ∀ i, okAt c i = false) := by
  have hb : ∀ (p : Prop) [Decidable p], (p → decide p = true) ∧ (¬ p → decide p = false) := fun p _ => ⟨decide_eq_true, decide_eq_false⟩
  have h95 : ((c : Int) == 95) = decide (c = 95) := by rw [Bool.eq_iff_iff]; simp; omega
  rw [h95]
  by_cases a1 : c < 48
  · refine .inr (.inr ⟨.inl ⟨decide_eq_false (by omega), decide_eq_true (by omega), decide_eq_false (by omega), decide_eq_false (by omega), decide_eq_true (by omega)⟩, fun i => decide_eq_false (by omega)⟩)
  · by_cases a2 : c ≤ 57
    · refine .inr (.inl ⟨⟨decide_eq_false (by omega), decide_eq_true (by omega), decide_eq_false (by omega), decide_eq_true (by omega), decide_eq_true (by omega)⟩, fun i => ?_⟩)
      unfold okAt
      rw [decide_eq_decide]; omega
    · by_cases a3 : c < 65
      · refine .inr (.inr ⟨.inr (.inl ⟨decide_eq_false (by omega), decide_eq_true (by omega), decide_eq_false (by omega), decide_eq_true (by omega), decide_eq_false (by omega)⟩), fun i => decide_eq_false (by omega)⟩)
      · by_cases a4 : c ≤ 90
        · exact .inl ⟨.inl ⟨decide_eq_true (by omega), decide_eq_true (by omega), decide_eq_false (by omega), decide_eq_true (by omega), decide_eq_false (by omega)⟩, fun i => decide_eq_true (by omega)⟩
        · by_cases a5 : c = 95
          · exact .inl ⟨.inr ⟨decide_eq_true (by omega), decide_eq_false (by omega), decide_eq_true (by omega), decide_eq_true (by omega), decide_eq_false (by omega)⟩, fun i => decide_eq_true (by omega)⟩
          · exact .inr (.inr ⟨.inr (.inr ⟨decide_eq_true (by omega), decide_eq_false (by omega), decide_eq_false (by omega), decide_eq_true (by omega), decide_eq_false (by omega)⟩), fun i => decide_eq_false (by omega)⟩)

theorem rname_any (s : ByteArray) (w : World) (hs : s.size ≤ maxLen) :
    Calls Try.prog 12 #[.string s] w fun e w' => e = .returned (.bool (nameB s)) ∧ Drew w w' := by
  unfold maxLen at hs
  go_enter Try.func12, Try.ntmps12
  go_wp2
  go_loopw [3] (fun i wr => ∃ k n : Nat, k ≤ s.size ∧ k ≤ 65 ∧ Hid (∀ j, j < k → okAt (nthB s j) j = true) ∧ i = .int .i64 k ∧ wr = w.drewN n) (fun i _ => 70 - (intOf i).toNat)
  case atStart => exact ⟨0, 0, Nat.zero_le _, Nat.zero_le _, Lib.hid (fun j hj => absurd hj (by omega)), rfl, rfl⟩
  case round =>
    obtain ⟨k, n, hk, hk65, hall, rfl, rfl⟩ := hrel
    by_cases hlt : k < s.size
    · by_cases h65 : k ≤ 64
      · have nk := nthB_get s k hlt
        have h65i : (k : Int) ≤ 64 := by omega
        have hlti : (k : Int) < s.size := by omega
        rcases cls s[k].toNat with ⟨hc, hok⟩ | ⟨hc, hok⟩ | ⟨hc, hok⟩
        · have hok2 : okAt (nthB s k) k = true := by rw [nk]; exact hok k
          have HK := Lib.hid hok2
          clear hok hok2 nk
          rcases hc with ⟨d1, d2, d3, d4, d5⟩ | ⟨d1, d2, d3, d4, d5⟩
          all_goals
            go_wp2
            go_quiet (fail)
            clear d1 d2 d3 d4 d5
            go_wp2
            go_roundw
            case rel => exact ⟨k + 1, n + nq, by omega, by omega, Lib.hid (fun j hj => by
              rcases Nat.lt_or_ge j k with e | e
              · exact hall.out j e
              · obtain rfl : j = k := by omega
                exact HK.out), by go_num, by first | rfl | rw [World.drewN_drewN]⟩
            case measure => simp [intOf]; omega
        · rcases hc with ⟨d1, d2, d3, d4, d5⟩
          rcases Nat.eq_zero_or_pos k with e0 | e0
          · subst e0
            have hn : nameB s = false := nameB_no fun hh => by
              have := hh.2.2 0 hlt
              rw [nk, hok 0] at this
              cases this
            have HN := Lib.hid hn
            clear hn hok nk
            go_wp2
            go_quiet (fail)
            clear d1 d2 d3 d4 d5
            go_wp2
            go_ret
            exact ⟨ret_bool HN.out.symm, by first | exact ⟨_, rfl⟩ | exact ⟨_, (World.drewN_drewN _ _ _)⟩⟩
          · have hok2 : okAt (nthB s k) k = true := by rw [nk, hok k]; exact decide_eq_true e0
            have HK := Lib.hid hok2
            clear hok hok2 nk
            go_wp2
            go_quiet (fail)
            clear d1 d2 d3 d4 d5
            go_wp2
            go_roundw
            case rel => exact ⟨k + 1, n + nq, by omega, by omega, Lib.hid (fun j hj => by
              rcases Nat.lt_or_ge j k with e | e
              · exact hall.out j e
              · obtain rfl : j = k := by omega
                exact HK.out), by go_num, by first | rfl | rw [World.drewN_drewN]⟩
            case measure => simp [intOf]; omega
        · have hn : nameB s = false := nameB_no fun hh => by
            have := hh.2.2 k hlt
            rw [nk, hok k] at this
            cases this
          have HN := Lib.hid hn
          clear hn hok nk
          rcases hc with ⟨d1, d2, d3, d4, d5⟩ | ⟨d1, d2, d3, d4, d5⟩ | ⟨d1, d2, d3, d4, d5⟩
          all_goals
            go_wp2
            go_quiet (fail)
            clear d1 d2 d3 d4 d5
            go_wp2
            go_ret
            exact ⟨ret_bool HN.out.symm, by first | exact ⟨_, rfl⟩ | exact ⟨_, (World.drewN_drewN _ _ _)⟩⟩
      · have hn := Lib.hid (nameB_no (s := s) (by omega))
        have h65i : ¬ (k : Int) ≤ 64 := by omega
        have hbig : ¬ (s.size : Int) ≤ 64 := by omega
        have h1 : 1 ≤ (s.size : Int) := by omega
        go_wp2
        go_ret
        exact ⟨ret_bool hn.out.symm, ⟨_, rfl⟩⟩
    · obtain rfl : k = s.size := by omega
      by_cases h0 : s.size = 0
      · have hn := Lib.hid (nameB_no (s := s) (by omega))
        have H0 := Lib.hid h0
        have h1 : ¬ 1 ≤ (s.size : Int) := by omega
        clear h0
        go_wp2
        go_ret
        exact ⟨ret_bool hn.out.symm, ⟨_, rfl⟩⟩
      · by_cases h64 : s.size ≤ 64
        · have hn := Lib.hid ((nameB_iff s).2 ⟨by omega, h64, hall.out⟩)
          have h1 : 1 ≤ (s.size : Int) := by omega
          have h2 : (s.size : Int) ≤ 64 := by omega
          go_wp2
          go_ret
          exact ⟨ret_bool hn.out.symm, ⟨_, rfl⟩⟩
        · have hn := Lib.hid (nameB_no (s := s) (by omega))
          have h1 : 1 ≤ (s.size : Int) := by omega
          have h2 : ¬ (s.size : Int) ≤ 64 := by omega
          go_wp2
          go_ret
          exact ⟨ret_bool hn.out.symm, ⟨_, rfl⟩⟩

end Go.Proofs.Ytggjimpnimlmmaa
