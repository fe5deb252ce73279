/-
  WHAT THE FUNCTIONS OF PACKAGE mix ON NUMBERS DO (stir, Bucket), AND THE DOCUMENT'S OWN ANSWERS: contracts, for every input.
-/
import Derived.Test.YtoghmjnnbmeboaaLeNum
import Derived.Test.YtoghmjnnbmeboaaMixMath
import Derived.Outline
set_option linter.unusedVariables false
namespace Go.Proofs.Ytoghmjnnbmeboaa
open Go.RowKit

theorem quo32 {y : Int} (h : IsU y) : IntKind.u64.wrap (y.tdiv 4294967296) = y / 4294967296 := by
  obtain ⟨h0, h1⟩ := h
  rw [IntKind.wrap_u64, Int.tdiv_eq_ediv_of_nonneg h0]; omega

theorem rot_any (x : Int) (w : World) (h : IsU x) : Calls Try.prog 17 #[.int .u64 x, .int .i64 29] w fun e w' => e = .returned (.int .u64 (rot29 x)) ∧ w = w' := by
  obtain ⟨h0, h1⟩ := h
  have hs : bits .and .u64 29 63 = 29 := by decide
  go_enter Try.func17, Try.ntmps17
  go_wp2
  go_ret
  exact ⟨rfl, rfl⟩

theorem stir_any (h v : Int) (w : World) (hh : IsU h) (hv : IsU v) : Calls Try.prog 15 #[.int .u64 h, .int .u64 v] w fun e w' => e = .returned (.int .u64 (stir h v)) ∧ w = w' := by
  obtain ⟨h0, h1⟩ := hh
  obtain ⟨h2, h3⟩ := hv
  go_enter Try.func15, Try.ntmps15
  go_wp2_with (go_at_call 17; refine (rot_any (stirA h v) _ (stirA_isU _ _)).mono ?_; rintro e w1 ⟨rfl, rfl⟩)
  go_ret
  exact ⟨rfl, rfl⟩

theorem rstir_any (h v : Int) (w : World) (hh : IsU h) (hv : IsU v) : Calls Try.prog 14 #[.int .u64 h, .int .u64 v] w fun e w' => e = .returned (.int .u64 (stir h v)) ∧ w = w' := by
  obtain ⟨h0, h1⟩ := hh
  obtain ⟨h2, h3⟩ := hv
  go_enter Try.func14, Try.ntmps14
  go_wp2
  go_ret
  refine ⟨ret_int ?_, rfl⟩
  unfold stir stirC stirB rot29 stirA
  rw [quo32 (wrap_isU _)]

/-- What is left of h by n; 0, if n is below 1. -/
def bucket (h n : Int) : Int := if n < 1 then 0 else h % n

theorem bucket_any (h n : Int) (w : World) (hh : IsU h) (hn : -9223372036854775808 ≤ n) (hn' : n ≤ 9223372036854775807) :
    Calls Try.prog 12 #[.int .u64 h, .int .i64 n] w fun e w' => e = .returned (.int .i64 (bucket h n)) ∧ w = w' := by
  obtain ⟨h0, h1⟩ := hh
  by_cases h2 : n < 1
  · go_enter Try.func12, Try.ntmps12
    go_wp2
    go_ret
    exact ⟨ret_int (by unfold bucket; rw [if_pos h2]), rfl⟩
  · have h3 := Int.emod_nonneg h (show n ≠ 0 by omega)
    have h4 := Int.emod_lt_of_pos h (show 0 < n by omega)
    go_enter Try.func12, Try.ntmps12
    go_wp2
    go_ret
    exact ⟨ret_int (by unfold bucket; rw [if_neg (by omega)]), rfl⟩

set_option maxHeartbeats 1000000 in
/-- The document's own Hash. -/
theorem rhash_any {B : Nat} (A : Option Addr) (len cap : Nat) (key : Int) (zs : List Int) (w : World) (hr : Reads w B 1 A len (cellsOf .u8 zs)) (hz : AreB zs) (hl : len ≤ cap) (hcap : cap ≤ 9223372036854775807) (hlen : len ≤ 4611686018427387904) (hk : IsU key) :
    Calls Try.prog 8 #[.int .u64 key, .slice A len cap] w fun e w' => e = .returned (.int .u64 (hsh key zs)) ∧ w = w' := by
  have hll := hr.len
  obtain ⟨h0, h1⟩ := hk
  go_enter Try.func8, Try.ntmps8
  go_wp2
  go_loop [5, 6, 7, 8] (fun h i _ _ => ∃ j k : Nat, Hid (j = 8 * k) ∧ j ≤ len ∧ i = .int .i64 j ∧ h = .int .u64 (hst key zs k)) (fun _ i _ _ => len - (intOf i).toNat)
  case atStart => exact ⟨0, 0, rfl, by omega, rfl, rfl⟩
  case round =>
    obtain ⟨j, k, hj, hk, rfl, rfl⟩ := hrel
    by_cases hlt : j + 8 ≤ len
    · have hw : isw 8 = true := rfl
      have hok : gok len (j : Int) 8 = true := by rw [gok_isw, hw]; simp; omega
      have hnum : gnum zs (j : Int) 8 = lev ((zs.drop j).take 8) := by unfold gnum; rw [hll, hok]; simp
      have G := Lib.hid (rget_any A len cap (j : Int) 8 zs w hr hz hl hcap (by omega) (by omega) (by omega) (by omega))
      rw [hok, hnum] at G
      have HS := Lib.hid (show hst key zs (k + 1) = stir (hst key zs k) (lev ((zs.drop j).take 8)) by rw [hj.out]; rfl)
      have hu1 := hst_isU key zs k
      have hu2 : IsU (lev ((zs.drop j).take 8)) := by
        have := lev_bound _ ((hz.drop j).take 8)
        rw [List.length_take, List.length_drop, Nat.min_eq_left (by omega)] at this
        exact ⟨this.1, by simpa using this.2⟩
      clear hok hnum hw
      generalize hst key zs k = h at hu1 HS ⊢
      generalize lev ((zs.drop j).take 8) = v at hu2 HS G ⊢
      go_wp2_with (first
        | (go_at_call 13; refine G.out.mono ?_; rintro e w1 ⟨rfl, rfl⟩)
        | (go_at_call 14; refine (rstir_any h v w hu1 hu2).mono ?_; rintro e w1 ⟨rfl, rfl⟩))
      go_round
      case rel => exact ⟨j + 8, k + 1, by have := hj.out; show _ = _; omega, by omega, by go_num, by rw [HS.out]⟩
      case measure => simp [intOf]; omega
    · have hkk : k = zs.length / 8 := by have := hj.out; omega
      have hrj : rest8 zs = zs.drop j := by unfold rest8; rw [← hkk, ← hj.out]
      have HE := Lib.hid (show hsh key zs = stir (stir (hst key zs k) (lev (rest8 zs))) zs.length by unfold hsh; rw [← hkk])
      have hu1 := hst_isU key zs k
      generalize hst key zs k = h at hu1 HE ⊢
      have HR := Lib.hid hrj
      clear hkk hrj
      go_wp2
      go_loop [9, 10, 11] (fun n s i => ∃ (q : Nat) (sc : Int), j + q ≤ len ∧ i = .int .i64 ((j : Int) + q) ∧ s = .int .u64 sc ∧ IsSc q sc ∧ n = .int .u64 (lev ((zs.drop j).take q))) (fun _ _ i => len - (intOf i).toNat)
      case atStart => exact ⟨0, 1, by omega, by simp, rfl, fun _ => rfl, rfl⟩
      case round =>
        obtain ⟨q, sc, hq, rfl, rfl, hsc, rfl⟩ := hrel
        by_cases hlt2 : j + q < len
        · obtain ⟨b, off, rfl, _, hc⟩ := hr.plain (by omega)
          have hcell : w.cell? ⟨b, off + (j + q), none⟩ = some (.int .u8 (zs.getD (j + q) 0)) := hc (j + q) (by omega)
          have hx := hz.get (j + q)
          have hlev := lev_bound _ ((hz.drop j).take q)
          generalize hxe : zs.getD (j + q) 0 = x at hcell hx
          generalize hne : lev ((zs.drop j).take q) = n at hlev ⊢
          have HX := Lib.hid hxe
          have HN := Lib.hid hne
          have HL := Lib.hid hlev
          clear hxe hne hlev hc hr
          go_wp2
          go_round
          case rel =>
            have hl := HL.out
            rw [List.length_take, List.length_drop, Nat.min_eq_left (by omega)] at hl
            exact ⟨q + 1, _, by omega, by go_num, rfl, isSc_step hsc, by rw [sc_step (by omega) hl hx (hsc (by omega)), lev_step (by omega), HN.out, HX.out]⟩
          case measure => simp [intOf]; omega
        · have e : (zs.drop j).take q = rest8 zs := by rw [HR.out, List.take_of_length_le (by rw [List.length_drop]; omega)]
          have hu2 : IsU (lev (rest8 zs)) := by
            have := lev_bound _ (rest8_bytes hz)
            have h8 := pow256_le (rest8 zs).length (by rw [rest8_length]; omega)
            exact ⟨this.1, by omega⟩
          rw [e]
          clear e
          generalize lev (rest8 zs) = v at hu2 HE ⊢
          have hu3 := stir_isU h v
          have hu4 : IsU (len : Int) := ⟨by omega, by omega⟩
          go_wp2_with (go_at_call 14; refine (rstir_any _ _ w (by assumption) (by assumption)).mono ?_; rintro e w1 ⟨rfl, rfl⟩)
          go_ret
          exact ⟨ret_int (by rw [HE.out, hll]), rfl⟩

end Go.Proofs.Ytoghmjnnbmeboaa
