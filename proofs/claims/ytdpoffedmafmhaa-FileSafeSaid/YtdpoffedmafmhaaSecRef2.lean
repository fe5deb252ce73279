/-
  THE DOCUMENT'S OWN Set OF LAYER 5: its contract.
-/
import Derived.Test.YtdpoffedmafmhaaSecRef
set_option linter.unusedVariables false
set_option linter.unusedSimpArgs false
namespace Go.Proofs.Ytdpoffedmafmhaa
open Go.RowKit

theorem setL_none (zs : List Int) (k : Int) : setL zs k [] = zs := by
  unfold setL; split
  · simp [splice]
  · rfl
theorem setL_stay {zs ss : List Int} {k : Int} {i : Nat} (h : 64 ≤ i ∨ ss.length ≤ i ∨ hasL zs k = false ∨ zs.length ≤ 64 * k.toNat + i) : setL zs k (ss.take i) = setL zs k ss := by
  refine ext_nz (by rw [setL_length, setL_length]) fun j hj => ?_
  rw [setL_length] at hj
  rw [nz_setL, nz_setL, nz_take, List.length_take]
  by_cases h2 : hasL zs k = true ∧ 64 * k.toNat ≤ j ∧ j < 64 * k.toNat + 64 ∧ j < 64 * k.toNat + ss.length ∧ j < zs.length
  · obtain ⟨h3, h4⟩ := h2
    have h' : 64 ≤ i ∨ ss.length ≤ i ∨ zs.length ≤ 64 * k.toNat + i := by
      rcases h with h | h | h | h
      · exact .inl h
      · exact .inr (.inl h)
      · rw [h3] at h; cases h
      · exact .inr (.inr h)
    rw [if_pos (c := hasL zs k = true ∧ _) ⟨h3, by omega⟩, if_pos (c := hasL zs k = true ∧ _) ⟨h3, h4⟩, if_pos (by omega)]
  · rw [if_neg h2, if_neg (fun hh => h2 ⟨hh.1, by omega⟩)]
theorem setL_set {zs ss : List Int} {n i : Nat} (hh : hasL zs n = true) (hi : i < ss.length) (h6 : i < 64) (h : 64 * n + i < zs.length) : (setL zs n (ss.take i)).set (64 * n + i) (nz ss i) = setL zs n (ss.take (i + 1)) := by
  refine ext_nz (by rw [List.length_set, setL_length, setL_length]) fun j hj => ?_
  rw [List.length_set, setL_length] at hj
  rw [nz_set _ _ _ _ (by rw [setL_length]; omega), nz_setL, nz_setL, nz_take, nz_take, List.length_take, List.length_take]
  simp only [Int.toNat_natCast]
  by_cases h1 : 64 * n + i = j
  · subst h1
    rw [if_pos rfl, if_pos (c := hasL zs n = true ∧ _) ⟨hh, by omega⟩, if_pos (by omega)]
    congr 1; omega
  · rw [if_neg h1]
    by_cases h2 : 64 * n ≤ j ∧ j < 64 * n + 64 ∧ j < 64 * n + min i ss.length ∧ j < zs.length
    · rw [if_pos (c := hasL zs n = true ∧ _) ⟨hh, h2⟩, if_pos (c := hasL zs n = true ∧ _) ⟨hh, by omega⟩, if_pos (by omega), if_pos (by omega)]
    · rw [if_neg (fun x => h2 x.2), if_neg (by omega)]

/-- An empty row of the call's own, and what is put behind it. -/
theorem below_lit {w w1 : World} {t : TypeId} {n c : Nat} (hg : (w.alloc (.cells #[] t)).grownBy w1 (Value.ownBlock (.slice (some ⟨w.heap.size, 0, none⟩) n c))) : Below w.heap.size w w1 :=
  ((Below.refl _ _).alloc (Nat.le_refl _) _).grown hg (by simp) (fun k hk => by simp [Value.ownBlock] at hk; omega)

theorem rset_any (A : Option Addr) (len cap : Nat) (k : Int) (zs : List Int) (A2 : Option Addr) (m c : Nat) (ss : List Int) (B : Nat) (w : World) (hr : Reads w B 1 A len (cellsOf .u8 zs)) (hs : Reads w B 1 A2 m (cellsOf .u8 ss)) (hB : B ≤ w.heap.size)
    (hl : len ≤ cap) (hcap : cap ≤ 9223372036854775807) (hn : len ≤ 4611686018427) (hm : m ≤ c) (hc : c ≤ 9223372036854775807) :
    Calls Try.prog 34 #[.slice A len cap, .int .i64 k, .slice A2 m c] w (Gives (setL zs k ss) w) := by
  obtain ⟨i0, hi, hz0, hz1, hz2⟩ := info_parts byteInfo
  have hlen := hr.len
  have hmm := hs.len
  have hcn : cntI len = cntN len := cntI_nat _
  have hcnt : ∀ w1 : World, Calls Try.prog 38 #[.int .i64 (len : Int)] w1 fun e w' => e = .returned (.int .i64 (cntN len : Nat)) ∧ w1 = w' := fun w1 => by
    rw [← hcn]; exact rcount_any len w1 (by omega) (by omega)
  have HCNT := Lib.hid hcnt
  clear hcn hcnt
  go_enter Try.func34, Try.ntmps34
  go_wp2_with (at_builtin; refine wpList_append_any _ rfl (.tmp 9) (.tmp 10) _ rfl w.heap.size 5 i0 (.int .u8 0) 1 1 Try.underlying26 hi hz0 hz1 hz2 rfl (Nat.lt_succ_self 0) _ 0 [] rfl (World.ownsRow_lit w #[] 0 (Nat.le_refl _) (Nat.zero_le _) rfl) B A len cap (cellsOf .u8 zs) rfl (hr.alloc hB _) (cellsOf_one _ _) (by unfold maxLen; omega) (by omega) (by simp) ?_; intro v1 w1 hown1 hg1 hat1; rw [Nat.zero_add, List.nil_append] at hown1; obtain ⟨A1, c1, rfl, hc1, hc2⟩ := own_form hown1; have hb1 := below_lit hg1; clear hg1 hat1)
  go_loopw [8] (fun i wr => ∃ q : Nat, q ≤ m ∧ q ≤ 64 ∧ i = .int .i64 q ∧ wr.ownsRow w.heap.size 5 1 (.slice A1 len c1) len (cellsOf .u8 (setL zs k (ss.take q))) ∧ Below w.heap.size w wr)
    (fun i _ => 64 - (intOf i).toNat)
  case atStart => exact ⟨0, Nat.zero_le _, Nat.zero_le _, rfl, by rw [List.take_zero, setL_none]; exact hown1, hb1⟩
  case round =>
    clear hown1 hb1
    obtain ⟨q, hq, hq6, rfl, hown, hbel⟩ := hrel
    by_cases hlt : q < m ∧ q < 64
    · obtain ⟨hlm, hl6⟩ := hlt
      have k1 : (q : Int) < (m : Int) := by omega
      have k2 : (q : Int) < 64 := by omega
      have k0 : (0 : Int) ≤ (q : Int) := by omega
      cases hh : hasL zs k with
      | true =>
        have hk := hasL_true hh
        obtain ⟨n, rfl⟩ : ∃ n : Nat, k = n := ⟨k.toNat, by omega⟩
        have hn1 := hasL_lt hh
        have hnc : (n : Int) < (cntN len : Nat) := by rw [← hlen]; exact hk.2
        have hn0 : (0 : Int) ≤ n := by omega
        simp only [Int.toNat_natCast] at hn1
        rw [hlen] at hn1
        obtain ⟨g, c2, hv, hgb, hgl⟩ := hown.form (by omega)
        injection hv with hv1 hv2 hv3
        subst hv1; subst hv3
        by_cases hin : 64 * n + q < len
        · obtain ⟨b, off, rfl, hbB, hcs⟩ := hs.plain (by omega)
          obtain ⟨x, hx⟩ : ∃ x, x = nz ss q := ⟨_, rfl⟩
          have c0 : wr.cell? ⟨b, off + q, none⟩ = some (.int .u8 x) := by rw [hx]; exact (hbel.cell (p := ⟨b, off + q, none⟩) (by show b < _; omega)).trans (hcs _ hlm)
          obtain ⟨u, cw⟩ : ∃ u, wr.cell? ⟨g, n * 64 + q, none⟩ = some u := by
            rw [hown.cellAt _ (by omega), cellsOf_get (by rw [setL_length]; omega)]; exact ⟨_, rfl⟩
          have fw := hown.frozenAt (n * 64 + q)
          have hset := (hown.stored (n * 64 + q) (.int .u8 x)).1
          have hset2 : (wr.setCell ⟨g, n * 64 + q, none⟩ (.int .u8 x)).ownsRow w.heap.size 5 1 (.slice (some ⟨g, 0, none⟩) len c1) len (cellsOf .u8 (setL zs n (ss.take (q + 1)))) := by
            rw [← setL_set hh (by omega) hl6 (by omega), ← hx, ← cellsOf_set, Nat.mul_comm 64 n]
            exact hset
          have HSET := Lib.hid hset2
          have HX := Lib.hid hx
          have HS := Lib.hid hs
          have k4 : ((n : Int) * 64 + (q : Int)) < (len : Int) := by omega
          have hne : ¬ b = g := by omega
          clear hset hset2 hx hs hcs hk hr
          go_wp2_with (go_at_call 38; refine (HCNT.out wr).mono ?_; rintro e w2 ⟨rfl, rfl⟩)
          go_roundw
          case rel => exact ⟨q + 1, by omega, by omega, by go_num, HSET.out, hbel.setCell (by show w.heap.size ≤ g; omega) _⟩
          case measure => simp [intOf]; omega
        · have HST := Lib.hid (show setL zs n (ss.take (q + 1)) = setL zs n (ss.take q) by
            rw [setL_stay (by right; right; right; simp; omega), setL_stay (by right; right; right; simp; omega)])
          have HS := Lib.hid hs
          have k4 : ¬ ((n : Int) * 64 + (q : Int)) < (len : Int) := by omega
          clear hs hr hk
          go_wp2_with (go_at_call 38; refine (HCNT.out wr).mono ?_; rintro e w2 ⟨rfl, rfl⟩)
          go_roundw
          case rel => exact ⟨q + 1, by omega, by omega, by go_num, by rw [HST.out]; exact hown, hbel⟩
          case measure => simp [intOf]; omega
      | false =>
        have hk := hasL_false hh
        rw [hlen] at hk
        have HST := Lib.hid (show setL zs k (ss.take (q + 1)) = setL zs k (ss.take q) by
          rw [setL_stay (.inr (.inr (.inl hh))), setL_stay (.inr (.inr (.inl hh)))])
        clear hr hs
        by_cases h0 : 0 ≤ k
        · have h4 : ¬ k < (cntN len : Nat) := by omega
          clear hk
          go_wp2_with (go_at_call 38; refine (HCNT.out wr).mono ?_; rintro e w2 ⟨rfl, rfl⟩)
          go_roundw
          case rel => exact ⟨q + 1, by omega, by omega, by go_num, by rw [HST.out]; exact hown, hbel⟩
          case measure => simp [intOf]; omega
        · clear hk
          go_wp2
          go_roundw
          case rel => exact ⟨q + 1, by omega, by omega, by go_num, by rw [HST.out]; exact hown, hbel⟩
          case measure => simp [intOf]; omega
    · have hfin : setL zs k (ss.take q) = setL zs k ss := setL_stay (by omega)
      rw [hfin] at hown
      have hll := setL_length zs k ss
      rw [hlen] at hll
      have HR := Lib.hid (show Gives (setL zs k ss) w (.returned (.slice A1 len c1)) wr from ⟨A1, c1, by rw [hll], by rw [hll]; exact hown, hbel⟩)
      clear hs hr hfin hown hbel
      by_cases h : q < m
      · have h6 : ¬ (q : Int) < 64 := by omega
        have h7 : (q : Int) < (m : Int) := by omega
        clear hlt
        go_wp2
        go_ret
        exact HR.out
      · have h7 : ¬ (q : Int) < (m : Int) := by omega
        clear hlt
        by_cases h8 : (q : Int) < 64
        · go_wp2
          go_ret
          exact HR.out
        · go_wp2
          go_ret
          exact HR.out

end Go.Proofs.Ytdpoffedmafmhaa
