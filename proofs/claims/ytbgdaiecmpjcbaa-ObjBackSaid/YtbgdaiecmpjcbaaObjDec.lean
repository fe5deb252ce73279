/-
  LAYER 9: WHAT Decode OF PACKAGE obj CALLS (may, filled, begin): contracts, for every input.
-/
import Derived.Test.YtbgdaiecmpjcbaaObjDecM
set_option linter.unusedVariables false
set_option linter.unusedSimpArgs false
namespace Go.Proofs.Ytbgdaiecmpjcbaa
open Go.RowKit

theorem Reads.sub {w : World} {B n cap lo hi : Nat} {A : Option Addr} {k : IntKind} {zs : List Int} (h : Reads w B 1 A n (cellsOf k zs)) (h1 : lo ≤ hi) (h2 : hi ≤ n) (hc : n ≤ cap) :
    Reads w B 1 (if cap = lo then A else A.map (·.add lo)) (hi - lo) (cellsOf k ((zs.drop lo).take (hi - lo))) := by
  have hl := h.len
  have hcut := h.cut (k := lo) (cap := cap) (by omega) hc
  rw [Nat.mul_one, cellsOf_drop] at hcut
  refine ⟨by rw [cellsOf_length, List.length_take, List.length_drop]; omega, fun h0 => ?_⟩
  obtain ⟨ad, e, hb, hcc⟩ := hcut.2 (by omega)
  refine ⟨ad, e, hb, fun j u hu => hcc j u ?_⟩
  simp only [cellsOf, List.map_take, List.getElem?_take] at hu ⊢
  split at hu
  · exact hu
  · cases hu

set_option maxHeartbeats 1000000 in
theorem omay_any (k s : Int) (w : World) (h0 : 0 ≤ s) (hs : s ≤ 140737488355328) : Calls Try.prog 47 #[.int .i64 k, .int .i64 s] w fun e w' => e = .returned (.bool (mayB k s)) ∧ w = w' := by
  have F0 := frontN_le k
  have M0 := mostN_le k
  have HF := Lib.hid (ofront_any k)
  have HM := Lib.hid (omost_any k)
  have HH := Lib.hid (ohas_any k)
  have HB : Hid (∀ t : Bool, (t = if hasI k then decide ((s - frontN k) % 8 = 0) && decide (8 ≤ s - frontN k) && decide (s - frontN k ≤ 8 * mostN k) else decide (1 ≤ s - frontN k) && decide (s - frontN k ≤ mostN k)) → t = mayB k s) := fun t ht => ht
  generalize frontN k = F at *
  generalize mostN k = M at *
  generalize hasI k = b at *
  obtain ⟨n, hn⟩ : ∃ n : Int, s - F = n := ⟨_, rfl⟩
  rw [hn] at HB
  have n1 : -56 ≤ n ∧ n ≤ 140737488355328 := by omega
  have ht : (n.tmod 8 = 0 ↔ n % 8 = 0) := by
    rw [← Int.dvd_iff_tmod_eq_zero, Int.dvd_iff_emod_eq_zero]
  cases b
  · have HB2 : Hid (∀ t : Bool, (t = (decide (1 ≤ n) && decide (n ≤ (M : Int)))) → t = mayB k s) := HB.out
    clear HB ht
    rcases (show n < 1 ∨ (1 ≤ n ∧ (M : Int) < n) ∨ (1 ≤ n ∧ n ≤ M) by omega) with h | ⟨h1, h⟩ | ⟨h1, h⟩
    · have HA := Lib.hid h
      have t1 : decide (1 ≤ n) = false := by simp; omega
      go_enter Try.func47, Try.ntmps47
      go_wp2_with (first
        | (go_at_call 18; refine (HF.out _).mono ?_; rintro e w1 ⟨rfl, rfl⟩)
        | (go_at_call 32; refine (HH.out _).mono ?_; rintro e w1 ⟨rfl, rfl⟩)
        | (go_at_call 33; refine (HM.out _).mono ?_; rintro e w1 ⟨rfl, rfl⟩))
      all_goals
        go_ret
        exact ⟨ret_bool (HB2.out _ (by have := HA.out; simp; omega)), rfl⟩
    · have HA := Lib.hid (And.intro h1 h)
      have t1 : decide (n ≤ (M : Int)) = false := by simp; omega
      go_enter Try.func47, Try.ntmps47
      go_wp2_with (first
        | (go_at_call 18; refine (HF.out _).mono ?_; rintro e w1 ⟨rfl, rfl⟩)
        | (go_at_call 32; refine (HH.out _).mono ?_; rintro e w1 ⟨rfl, rfl⟩)
        | (go_at_call 33; refine (HM.out _).mono ?_; rintro e w1 ⟨rfl, rfl⟩))
      all_goals
        go_ret
        exact ⟨ret_bool (HB2.out _ (by have := HA.out; simp; omega)), rfl⟩
    · have HA := Lib.hid (And.intro h1 h)
      go_enter Try.func47, Try.ntmps47
      go_wp2_with (first
        | (go_at_call 18; refine (HF.out _).mono ?_; rintro e w1 ⟨rfl, rfl⟩)
        | (go_at_call 32; refine (HH.out _).mono ?_; rintro e w1 ⟨rfl, rfl⟩)
        | (go_at_call 33; refine (HM.out _).mono ?_; rintro e w1 ⟨rfl, rfl⟩))
      all_goals
        go_ret
        exact ⟨ret_bool (HB2.out _ (by have := HA.out; simp; omega)), rfl⟩
  · have HB2 : Hid (∀ t : Bool, (t = (decide (n % 8 = 0) && decide (8 ≤ n) && decide (n ≤ 8 * (M : Int)))) → t = mayB k s) := HB.out
    clear HB
    rcases (show n % 8 ≠ 0 ∨ (n % 8 = 0 ∧ n < 8) ∨ (n % 8 = 0 ∧ 8 ≤ n ∧ (M : Int) * 8 < n) ∨ (n % 8 = 0 ∧ 8 ≤ n ∧ n ≤ (M : Int) * 8) by omega) with h | ⟨h2, h⟩ | ⟨h2, h1, h⟩ | ⟨h2, h1, h⟩
    · have HA := Lib.hid h
      have t1 : (n.tmod 8 == 0) = false := by simp; exact fun e => h (ht.1 e)
      have t2 : ¬ n.tmod 8 = 0 := fun e => h (ht.1 e)
      clear h ht
      go_enter Try.func47, Try.ntmps47
      go_wp2_with (first
        | (go_at_call 18; refine (HF.out _).mono ?_; rintro e w1 ⟨rfl, rfl⟩)
        | (go_at_call 32; refine (HH.out _).mono ?_; rintro e w1 ⟨rfl, rfl⟩)
        | (go_at_call 33; refine (HM.out _).mono ?_; rintro e w1 ⟨rfl, rfl⟩))
      all_goals
        go_ret
        exact ⟨ret_bool (HB2.out _ (by have := HA.out; simp; omega)), rfl⟩
    · have HA := Lib.hid (And.intro h2 h)
      have t1 : (n.tmod 8 == 0) = true := by simp; exact ht.2 h2
      have t2 : n.tmod 8 = 0 := ht.2 h2
      have t3 : decide (8 ≤ n) = false := by simp; omega
      clear h h2 ht
      go_enter Try.func47, Try.ntmps47
      go_wp2_with (first
        | (go_at_call 18; refine (HF.out _).mono ?_; rintro e w1 ⟨rfl, rfl⟩)
        | (go_at_call 32; refine (HH.out _).mono ?_; rintro e w1 ⟨rfl, rfl⟩)
        | (go_at_call 33; refine (HM.out _).mono ?_; rintro e w1 ⟨rfl, rfl⟩))
      all_goals
        go_ret
        exact ⟨ret_bool (HB2.out _ (by have := HA.out; simp; omega)), rfl⟩
    · have HA := Lib.hid (And.intro h2 (And.intro h1 h))
      have t1 : (n.tmod 8 == 0) = true := by simp; exact ht.2 h2
      have t2 : n.tmod 8 = 0 := ht.2 h2
      have t3 : decide (n ≤ (M : Int) * 8) = false := by simp; omega
      clear h h2 ht
      go_enter Try.func47, Try.ntmps47
      go_wp2_with (first
        | (go_at_call 18; refine (HF.out _).mono ?_; rintro e w1 ⟨rfl, rfl⟩)
        | (go_at_call 32; refine (HH.out _).mono ?_; rintro e w1 ⟨rfl, rfl⟩)
        | (go_at_call 33; refine (HM.out _).mono ?_; rintro e w1 ⟨rfl, rfl⟩))
      all_goals
        go_ret
        exact ⟨ret_bool (HB2.out _ (by have := HA.out; simp; omega)), rfl⟩
    · have HA := Lib.hid (And.intro h2 (And.intro h1 h))
      have t1 : (n.tmod 8 == 0) = true := by simp; exact ht.2 h2
      have t2 : n.tmod 8 = 0 := ht.2 h2
      clear h2 ht
      go_enter Try.func47, Try.ntmps47
      go_wp2_with (first
        | (go_at_call 18; refine (HF.out _).mono ?_; rintro e w1 ⟨rfl, rfl⟩)
        | (go_at_call 32; refine (HH.out _).mono ?_; rintro e w1 ⟨rfl, rfl⟩)
        | (go_at_call 33; refine (HM.out _).mono ?_; rintro e w1 ⟨rfl, rfl⟩))
      all_goals
        go_ret
        exact ⟨ret_bool (HB2.out _ (by have := HA.out; simp; omega)), rfl⟩

set_option maxHeartbeats 1000000 in
theorem ofilled_any {B : Nat} (A : Option Addr) (n c : Nat) (zs : List Int) (w : World) (hr : Reads w B 1 A n (cellsOf .u8 zs)) (hn : n ≤ 140737488355328) :
    Calls Try.prog 36 #[.slice A n c] w fun e w' => e = .returned (.bool (zerB zs)) ∧ w = w' := by
  have hl := hr.len
  have HL := Lib.hid hl
  clear hl
  go_enter Try.func36, Try.ntmps36
  go_wp2
  go_loop [4, 7] (fun _ i => ∃ k : Nat, k ≤ n ∧ i = .int .i64 k ∧ Hid (∀ j, j < k → zs.getD j 0 = 0)) (fun _ i => n - (intOf i).toNat)
  case atStart => exact ⟨0, Nat.zero_le _, rfl, fun j hj => absurd hj (Nat.not_lt_zero _)⟩
  case round =>
    obtain ⟨k, hk, rfl, hz⟩ := hrel
    by_cases hlt : k < n
    · obtain ⟨b, off, rfl, _, hc⟩ := hr.plain (by omega)
      have q1 := hc k hlt
      generalize hxe : zs.getD k 0 = x at q1
      have i1 : (k : Int) < (n : Int) := by omega
      have HX := Lib.hid hxe
      clear hc hr hxe
      by_cases hx : x = 0
      · subst hx
        go_wp2
        go_round
        case rel =>
          exact ⟨k + 1, by omega, by go_num, fun j hj => by
            rcases Nat.lt_or_ge j k with h | h
            · exact hz.out j h
            · rw [show j = k by omega]; exact HX.out⟩
        case measure => simp [intOf]; omega
      · have t1 : (x == 0) = false := by simpa using hx
        have HNX := Lib.hid hx
        clear hx
        go_wp2
        go_ret
        refine ⟨ret_bool (decide_eq_false fun e => HNX.out ?_).symm, rfl⟩
        rw [← HX.out, e, List.getD_eq_getElem?_getD, List.getElem?_replicate]
        split <;> rfl
    · have e : k = n := by omega
      subst e
      clear hr
      go_wp2
      go_ret
      refine ⟨ret_bool (decide_eq_true (List.ext_getElem? fun j => ?_)).symm, rfl⟩
      rw [List.getElem?_replicate, HL.out]
      by_cases hj : j < k
      · rw [if_pos hj]
        have h := hz.out j hj
        rw [List.getD_eq_getElem?_getD, List.getElem?_eq_getElem (by rw [HL.out]; exact hj)] at h
        rw [List.getElem?_eq_getElem (by rw [HL.out]; exact hj)]
        simpa using h
      · rw [if_neg hj, List.getElem?_eq_none (by rw [HL.out]; omega)]

end Go.Proofs.Ytbgdaiecmpjcbaa
