/-
  LAYER 9: begin OF PACKAGE obj: its contract, for every input.
-/
import Derived.Test.YtbgdaiecmpjcbaaObjDec
set_option linter.unusedVariables false
set_option linter.unusedSimpArgs false
namespace Go.Proofs.Ytbgdaiecmpjcbaa
open Go.RowKit

theorem get8 {B : Nat} (A : Option Addr) (n c j : Nat) (v : Int) (zs : List Int) (w : World) (hr : Reads w B 1 A n (cellsOf .u8 zs)) (hz : AreB zs) (hl : n ≤ c) (hcap : c ≤ 9223372036854775807) (hv : v = j) (hj : j + 8 ≤ n) :
    Calls Try.prog 46 #[.slice A n c, .int .i64 v, .int .i64 8] w fun e w' => e = .returned (.tuple #[.int .u64 (lev ((zs.drop j).take 8)), .bool true]) ∧ w = w' := by
  subst hv
  have hlen := hr.len
  have h := get_any A n c j 8 zs w hr hz hl hcap (by omega) (by omega) (by omega) (by omega)
  have hok : gok n (j : Int) 8 = true := by rw [gok_isw]; simp [isw]; omega
  have hnum : gnum zs (j : Int) 8 = lev ((zs.drop j).take 8) := by unfold gnum; rw [hlen, hok]; rfl
  rw [hok, hnum] at h
  exact h
theorem rget8 {B : Nat} (A : Option Addr) (n c j : Nat) (v : Int) (zs : List Int) (w : World) (hr : Reads w B 1 A n (cellsOf .u8 zs)) (hz : AreB zs) (hl : n ≤ c) (hcap : c ≤ 9223372036854775807) (hv : v = j) (hj : j + 8 ≤ n) :
    Calls Try.prog 40 #[.slice A n c, .int .i64 v, .int .i64 8] w fun e w' => e = .returned (.tuple #[.int .u64 (lev ((zs.drop j).take 8)), .bool true]) ∧ w = w' := by
  subst hv
  have hlen := hr.len
  have h := rget_any A n c j 8 zs w hr hz hl hcap (by omega) (by omega) (by omega) (by omega)
  have hok : gok n (j : Int) 8 = true := by rw [gok_isw]; simp [isw]; omega
  have hnum : gnum zs (j : Int) 8 = lev ((zs.drop j).take 8) := by unfold gnum; rw [hlen, hok]; rfl
  rw [hok, hnum] at h
  exact h

/-- The numbers that stand there, as naturals. -/
theorem lev8_nat {zs : List Int} (hz : AreB zs) (j : Nat) : ∃ k : Nat, lev ((zs.drop j).take 8) = k ∧ k < 18446744073709551616 := by
  have h := lev8_lt ((hz.drop j).take 8) (by rw [List.length_take]; omega)
  exact ⟨(lev ((zs.drop j).take 8)).toNat, by omega, by omega⟩

set_option maxHeartbeats 1000000 in
theorem obegin_no {B : Nat} (A : Option Addr) (n c : Nat) (at_ : Int) (zs : List Int) (w : World) (hr : Reads w B 1 A n (cellsOf .u8 zs)) (hz : AreB zs) (hl : n ≤ c) (hcap : c ≤ 9223372036854775807) (hn : n ≤ 140737488355328) (h0 : -9223372036854775808 ≤ at_) (h1 : at_ ≤ 4611686018427387904)
    (hno : ∀ j k s, at_ = (j : Nat) → ¬ DecAt zs j k s) :
    Calls Try.prog 35 #[.slice A n c, .int .i64 at_] w fun e w' => e = .returned (.tuple #[.int .i64 0, .int .i64 0, .bool false]) ∧ w = w' := by
  have hlen := hr.len
  by_cases ha : at_ < 0
  · clear hno
    go_enter Try.func35, Try.ntmps35
    go_wp2
    go_ret3
    exact ⟨rfl, rfl⟩
  obtain ⟨j, rfl⟩ := Int.eq_ofNat_of_zero_le (show 0 ≤ at_ by omega)
  by_cases hb : j % 8 = 0
  rotate_left
  · clear hno
    have t1 : ((j : Int) % 8 == 0) = false := by simp; omega
    have t2 : ¬ (j : Int) % 8 = 0 := by omega
    clear hb
    go_enter Try.func35, Try.ntmps35
    go_wp2
    go_ret3
    exact ⟨rfl, rfl⟩
  have t1 : ((j : Int) % 8 == 0) = true := by simp; omega
  have t2 : (j : Int) % 8 = 0 := by omega
  by_cases hd : (n : Int) - 16 < (j : Int)
  · clear hno hb
    go_enter Try.func35, Try.ntmps35
    go_wp2
    go_ret3
    exact ⟨rfl, rfl⟩
  obtain ⟨k, hk, hkb⟩ := lev8_nat hz j
  obtain ⟨s, hs, hsb⟩ := lev8_nat hz (j + 8)
  have hwn : IntKind.u64.wrap ((n : Int) - j) = (n : Int) - j := by rw [IntKind.wrap_u64]; omega
  have hw8 : (j : Int) + 8 = ((j + 8 : Nat) : Int) := by omega
  have HK := Lib.hid hk
  have HS := Lib.hid hs
  have H8 := Lib.hid hw8
  by_cases hk4 : 4 < k
  · have i4 : (4 : Int) < (k : Int) := by omega
    clear hno hb hk hs hw8
    go_enter Try.func35, Try.ntmps35
    have m1 : True := trivial
    go_wp2_with (first
      | (go_at_call 46; clear m1; refine (get8 A n c j _ zs _ hr hz hl hcap rfl (by omega)).mono ?_; rintro e w1 ⟨rfl, rfl⟩; rw [HK.out])
      | (go_at_call 46; refine (get8 A n c (j + 8) _ zs _ hr hz hl hcap H8.out (by omega)).mono ?_; rintro e w1 ⟨rfl, rfl⟩; rw [HS.out]))
    go_ret3
    exact ⟨rfl, rfl⟩
  by_cases hsn : n < j + s
  · have i4 : ¬ (4 : Int) < (k : Int) := by omega
    have i5 : (n : Int) - j < (s : Int) := by omega
    clear hno hb hk hs hw8
    go_enter Try.func35, Try.ntmps35
    have m1 : True := trivial
    go_wp2_with (first
      | (go_at_call 46; clear m1; refine (get8 A n c j _ zs _ hr hz hl hcap rfl (by omega)).mono ?_; rintro e w1 ⟨rfl, rfl⟩; rw [HK.out])
      | (go_at_call 46; refine (get8 A n c (j + 8) _ zs _ hr hz hl hcap H8.out (by omega)).mono ?_; rintro e w1 ⟨rfl, rfl⟩; rw [HS.out]))
    go_ret3
    exact ⟨rfl, rfl⟩
  exact absurd ⟨hb, by omega, hk, hs, by omega, by omega⟩ (hno j k s rfl)

set_option maxHeartbeats 1000000 in
theorem obegin_yes {B : Nat} (A : Option Addr) (n c j k s : Nat) (zs : List Int) (w : World) (hr : Reads w B 1 A n (cellsOf .u8 zs)) (hz : AreB zs) (hl : n ≤ c) (hcap : c ≤ 9223372036854775807) (hn : n ≤ 140737488355328)
    (h : DecAt zs j k s) :
    Calls Try.prog 35 #[.slice A n c, .int .i64 j] w fun e w' => e = .returned (.tuple #[.int .i64 k, .int .i64 s, .bool (mayB k s && decide (j + s + padn s 8 ≤ n))]) ∧ w = w' := by
  have hlen := hr.len
  have hb := h.al
  have hroom := h.room
  have hfit := h.fit
  have hk4 := h.kk
  rw [hlen] at hroom hfit
  have HK := Lib.hid h.kd
  have HS := Lib.hid h.sd
  have t1 : ((j : Int) % 8 == 0) = true := by simp; omega
  have t2 : (j : Int) % 8 = 0 := by omega
  have hd : ¬ (n : Int) - 16 < (j : Int) := by omega
  have hwn : IntKind.u64.wrap ((n : Int) - j) = (n : Int) - j := by rw [IntKind.wrap_u64]; omega
  have hw8 : (j : Int) + 8 = ((j + 8 : Nat) : Int) := by omega
  have H8 := Lib.hid hw8
  have i4 : ¬ (4 : Int) < (k : Int) := by omega
  have i5 : ¬ (n : Int) - j < (s : Int) := by omega
  have HM := Lib.hid (fun w => omay_any k s w (by omega) (by omega))
  have HA := Lib.hid (fun w => align_any s w (by omega) (by omega))
  rw [algn_pad] at HA
  obtain ⟨b, hbb⟩ : ∃ b, mayB k s = b := ⟨_, rfl⟩
  rw [hbb] at HM ⊢
  clear h hb hw8 hlen
  cases b
  · go_enter Try.func35, Try.ntmps35
    have m1 : True := trivial
    go_wp2_with (first
      | (go_at_call 46; clear m1; refine (get8 A n c j _ zs _ hr hz hl hcap rfl (by omega)).mono ?_; rintro e w1 ⟨rfl, rfl⟩; rw [HK.out])
      | (go_at_call 46; refine (get8 A n c (j + 8) _ zs _ hr hz hl hcap H8.out (by omega)).mono ?_; rintro e w1 ⟨rfl, rfl⟩; rw [HS.out])
      | (go_at_call 47; refine (HM.out _).mono ?_; rintro e w1 ⟨rfl, rfl⟩))
    go_ret3
    exact ⟨rfl, rfl⟩
  · obtain ⟨P, hP⟩ : ∃ P, s + padn s 8 = P := ⟨_, rfl⟩
    rw [Nat.add_assoc]
    rw [hP] at HA ⊢
    by_cases hq : j + P ≤ n
    · have i6 : (P : Int) ≤ (n : Int) - j := by omega
      rw [decide_eq_true hq]
      clear hP
      go_enter Try.func35, Try.ntmps35
      have m1 : True := trivial
      go_wp2_with (first
        | (go_at_call 46; clear m1; refine (get8 A n c j _ zs _ hr hz hl hcap rfl (by omega)).mono ?_; rintro e w1 ⟨rfl, rfl⟩; rw [HK.out])
        | (go_at_call 46; refine (get8 A n c (j + 8) _ zs _ hr hz hl hcap H8.out (by omega)).mono ?_; rintro e w1 ⟨rfl, rfl⟩; rw [HS.out])
        | (go_at_call 47; refine (HM.out _).mono ?_; rintro e w1 ⟨rfl, rfl⟩)
        | (go_at_call 34; refine (HA.out _).mono ?_; rintro e w1 ⟨rfl, rfl⟩))
      go_ret3
      exact ⟨rfl, rfl⟩
    · have i6 : decide ((P : Int) ≤ (n : Int) - j) = false := by simp; omega
      have i7 : ¬ (P : Int) ≤ (n : Int) - j := by omega
      rw [decide_eq_false hq]
      clear hP
      go_enter Try.func35, Try.ntmps35
      have m1 : True := trivial
      go_wp2_with (first
        | (go_at_call 46; clear m1; refine (get8 A n c j _ zs _ hr hz hl hcap rfl (by omega)).mono ?_; rintro e w1 ⟨rfl, rfl⟩; rw [HK.out])
        | (go_at_call 46; refine (get8 A n c (j + 8) _ zs _ hr hz hl hcap H8.out (by omega)).mono ?_; rintro e w1 ⟨rfl, rfl⟩; rw [HS.out])
        | (go_at_call 47; refine (HM.out _).mono ?_; rintro e w1 ⟨rfl, rfl⟩)
        | (go_at_call 34; refine (HA.out _).mono ?_; rintro e w1 ⟨rfl, rfl⟩))
      go_ret3
      exact ⟨rfl, rfl⟩

end Go.Proofs.Ytbgdaiecmpjcbaa
