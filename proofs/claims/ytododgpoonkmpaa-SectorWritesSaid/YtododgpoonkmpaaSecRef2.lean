/-
  THE DOCUMENT'S OWN Set AND Written OF LAYER 5: contracts.
-/
import Derived.Test.YtododgpoonkmpaaSecRef
set_option linter.unusedVariables false
set_option linter.unusedSimpArgs false
namespace Go.Proofs.Ytododgpoonkmpaa
open Go.RowKit

theorem setL_none (zs : List Int) (k : Int) : setL zs k [] = zs := by
  unfold setL; split
  · simp [splice]
  · rfl
theorem setL_stay {zs ss : List Int} {k : Int} {i : Nat} (h : 64 ≤ i ∨ ss.length ≤ i ∨ hasL zs k = false ∨ zs.length ≤ 64 * k.toNat + i) : setL zs k (ss.take i) = setL zs k ss := by
  refine ext_nz (by rw [setL_length, setL_length]) fun j hj => ?_
  rw [setL_length] at hj
  rw [nz_setL, nz_setL, nz_take, List.length_take]
  by_cases h2 : hasL zs k = true ∧ 64 * k.toNat ≤ j ∧ j < 64 * k.toNat + 64 ∧ j < 64 * k.toNat + ss.length ∧ j < zs.length
  · obtain ⟨h3, h4⟩ := h2
    have h' : 64 ≤ i ∨ ss.length ≤ i ∨ zs.length ≤ 64 * k.toNat + i := by
      rcases h with h | h | h | h
      · exact .inl h
      · exact .inr (.inl h)
      · rw [h3] at h; cases h
      · exact .inr (.inr h)
    rw [if_pos (c := hasL zs k = true ∧ _) ⟨h3, by omega⟩, if_pos (c := hasL zs k = true ∧ _) ⟨h3, h4⟩, if_pos (by omega)]
  · rw [if_neg h2, if_neg (fun hh => h2 ⟨hh.1, by omega⟩)]
theorem setL_set {zs ss : List Int} {n i : Nat} (hh : hasL zs n = true) (hi : i < ss.length) (h6 : i < 64) (h : 64 * n + i < zs.length) : (setL zs n (ss.take i)).set (64 * n + i) (nz ss i) = setL zs n (ss.take (i + 1)) := by
  refine ext_nz (by rw [List.length_set, setL_length, setL_length]) fun j hj => ?_
  rw [List.length_set, setL_length] at hj
  rw [nz_set _ _ _ _ (by rw [setL_length]; omega), nz_setL, nz_setL, nz_take, nz_take, List.length_take, List.length_take]
  simp only [Int.toNat_natCast]
  by_cases h1 : 64 * n + i = j
  · subst h1
    rw [if_pos rfl, if_pos (c := hasL zs n = true ∧ _) ⟨hh, by omega⟩, if_pos (by omega)]
    congr 1; omega
  · rw [if_neg h1]
    by_cases h2 : 64 * n ≤ j ∧ j < 64 * n + 64 ∧ j < 64 * n + min i ss.length ∧ j < zs.length
    · rw [if_pos (c := hasL zs n = true ∧ _) ⟨hh, h2⟩, if_pos (c := hasL zs n = true ∧ _) ⟨hh, by omega⟩, if_pos (by omega), if_pos (by omega)]
    · rw [if_neg (fun x => h2 x.2), if_neg (by omega)]

/-- An empty row of the call's own, and what is put behind it. -/
theorem below_lit {w w1 : World} {t : TypeId} {n c : Nat} (hg : (w.alloc (.cells #[] t)).grownBy w1 (Value.ownBlock (.slice (some ⟨w.heap.size, 0, none⟩) n c))) : Below w.heap.size w w1 :=
  ((Below.refl _ _).alloc (Nat.le_refl _) _).grown hg (by simp) (fun k hk => by simp [Value.ownBlock] at hk; omega)

theorem rset_any (A : Option Addr) (len cap : Nat) (k : Int) (zs : List Int) (A2 : Option Addr) (m c : Nat) (ss : List Int) (B : Nat) (w : World) (hr : Reads w B 1 A len (cellsOf .u8 zs)) (hs : Reads w B 1 A2 m (cellsOf .u8 ss)) (hB : B ≤ w.heap.size)
    (hl : len ≤ cap) (hcap : cap ≤ 9223372036854775807) (hn : len ≤ 4611686018427) (hm : m ≤ c) (hc : c ≤ 9223372036854775807) :
    Calls Try.prog 17 #[.slice A len cap, .int .i64 k, .slice A2 m c] w (Gives (setL zs k ss) w) := by
  obtain ⟨i0, hi, hz0, hz1, hz2⟩ := info_parts byteInfo
  have hlen := hr.len
  have hmm := hs.len
  have hcn : cntI len = cntN len := cntI_nat _
  have hcnt : ∀ w1 : World, Calls Try.prog 10 #[.int .i64 (len : Int)] w1 fun e w' => e = .returned (.int .i64 (cntN len : Nat)) ∧ w1 = w' := fun w1 => by
    rw [← hcn]; exact rcount_any len w1 (by omega) (by omega)
  have HCNT := Lib.hid hcnt
  clear hcn hcnt
  go_enter Try.func17, Try.ntmps17
  go_wp2_with (at_builtin; refine wpList_append_any _ rfl (.tmp 9) (.tmp 10) _ rfl w.heap.size 5 i0 (.int .u8 0) 1 1 Try.underlying22 hi hz0 hz1 hz2 rfl (Nat.lt_succ_self 0) _ 0 [] rfl (World.ownsRow_lit w #[] 0 (Nat.le_refl _) (Nat.zero_le _) rfl) B A len cap (cellsOf .u8 zs) rfl (hr.alloc hB _) (cellsOf_one _ _) (by unfold maxLen; omega) (by omega) (by simp) ?_; intro v1 w1 hown1 hg1 hat1; rw [Nat.zero_add, List.nil_append] at hown1; obtain ⟨A1, c1, rfl, hc1, hc2⟩ := own_form hown1; have hb1 := below_lit hg1; clear hg1 hat1)
  go_loopw [8] (fun i wr => ∃ q : Nat, q ≤ m ∧ q ≤ 64 ∧ i = .int .i64 q ∧ wr.ownsRow w.heap.size 5 1 (.slice A1 len c1) len (cellsOf .u8 (setL zs k (ss.take q))) ∧ Below w.heap.size w wr)
    (fun i _ => 64 - (intOf i).toNat)
  case atStart => exact ⟨0, Nat.zero_le _, Nat.zero_le _, rfl, by rw [List.take_zero, setL_none]; exact hown1, hb1⟩
  case round =>
    clear hown1 hb1
    obtain ⟨q, hq, hq6, rfl, hown, hbel⟩ := hrel
    by_cases hlt : q < m ∧ q < 64
    · obtain ⟨hlm, hl6⟩ := hlt
      have k1 : (q : Int) < (m : Int) := by omega
      have k2 : (q : Int) < 64 := by omega
      have k0 : (0 : Int) ≤ (q : Int) := by omega
      cases hh : hasL zs k with
      | true =>
        have hk := hasL_true hh
        obtain ⟨n, rfl⟩ : ∃ n : Nat, k = n := ⟨k.toNat, by omega⟩
        have hn1 := hasL_lt hh
        have hnc : (n : Int) < (cntN len : Nat) := by rw [← hlen]; exact hk.2
        have hn0 : (0 : Int) ≤ n := by omega
        simp only [Int.toNat_natCast] at hn1
        rw [hlen] at hn1
        obtain ⟨g, c2, hv, hgb, hgl⟩ := hown.form (by omega)
        injection hv with hv1 hv2 hv3
        subst hv1; subst hv3
        by_cases hin : 64 * n + q < len
        · obtain ⟨b, off, rfl, hbB, hcs⟩ := hs.plain (by omega)
          obtain ⟨x, hx⟩ : ∃ x, x = nz ss q := ⟨_, rfl⟩
          have c0 : wr.cell? ⟨b, off + q, none⟩ = some (.int .u8 x) := by rw [hx]; exact (hbel.cell (p := ⟨b, off + q, none⟩) (by show b < _; omega)).trans (hcs _ hlm)
          obtain ⟨u, cw⟩ : ∃ u, wr.cell? ⟨g, n * 64 + q, none⟩ = some u := by
            rw [hown.cellAt _ (by omega), cellsOf_get (by rw [setL_length]; omega)]; exact ⟨_, rfl⟩
          have fw := hown.frozenAt (n * 64 + q)
          have hset := (hown.stored (n * 64 + q) (.int .u8 x)).1
          have hset2 : (wr.setCell ⟨g, n * 64 + q, none⟩ (.int .u8 x)).ownsRow w.heap.size 5 1 (.slice (some ⟨g, 0, none⟩) len c1) len (cellsOf .u8 (setL zs n (ss.take (q + 1)))) := by
            rw [← setL_set hh (by omega) hl6 (by omega), ← hx, ← cellsOf_set, Nat.mul_comm 64 n]
            exact hset
          have HSET := Lib.hid hset2
          have HX := Lib.hid hx
          have HS := Lib.hid hs
          have k4 : ((n : Int) * 64 + (q : Int)) < (len : Int) := by omega
          have hne : ¬ b = g := by omega
          clear hset hset2 hx hs hcs hk hr
          go_wp2_with (go_at_call 10; refine (HCNT.out wr).mono ?_; rintro e w2 ⟨rfl, rfl⟩)
          go_roundw
          case rel => exact ⟨q + 1, by omega, by omega, by go_num, HSET.out, hbel.setCell (by show w.heap.size ≤ g; omega) _⟩
          case measure => simp [intOf]; omega
        · have HST := Lib.hid (show setL zs n (ss.take (q + 1)) = setL zs n (ss.take q) by
            rw [setL_stay (by right; right; right; simp; omega), setL_stay (by right; right; right; simp; omega)])
          have HS := Lib.hid hs
          have k4 : ¬ ((n : Int) * 64 + (q : Int)) < (len : Int) := by omega
          clear hs hr hk
          go_wp2_with (go_at_call 10; refine (HCNT.out wr).mono ?_; rintro e w2 ⟨rfl, rfl⟩)
          go_roundw
          case rel => exact ⟨q + 1, by omega, by omega, by go_num, by rw [HST.out]; exact hown, hbel⟩
          case measure => simp [intOf]; omega
      | false =>
        have hk := hasL_false hh
        rw [hlen] at hk
        have HST := Lib.hid (show setL zs k (ss.take (q + 1)) = setL zs k (ss.take q) by
          rw [setL_stay (.inr (.inr (.inl hh))), setL_stay (.inr (.inr (.inl hh)))])
        clear hr hs
        by_cases h0 : 0 ≤ k
        · have h4 : ¬ k < (cntN len : Nat) := by omega
          clear hk
          go_wp2_with (go_at_call 10; refine (HCNT.out wr).mono ?_; rintro e w2 ⟨rfl, rfl⟩)
          go_roundw
          case rel => exact ⟨q + 1, by omega, by omega, by go_num, by rw [HST.out]; exact hown, hbel⟩
          case measure => simp [intOf]; omega
        · clear hk
          go_wp2
          go_roundw
          case rel => exact ⟨q + 1, by omega, by omega, by go_num, by rw [HST.out]; exact hown, hbel⟩
          case measure => simp [intOf]; omega
    · have hfin : setL zs k (ss.take q) = setL zs k ss := setL_stay (by omega)
      rw [hfin] at hown
      have hll := setL_length zs k ss
      rw [hlen] at hll
      have HR := Lib.hid (show Gives (setL zs k ss) w (.returned (.slice A1 len c1)) wr from ⟨A1, c1, by rw [hll], by rw [hll]; exact hown, hbel⟩)
      clear hs hr hfin hown hbel
      by_cases h : q < m
      · have h6 : ¬ (q : Int) < 64 := by omega
        have h7 : (q : Int) < (m : Int) := by omega
        clear hlt
        go_wp2
        go_ret
        exact HR.out
      · have h7 : ¬ (q : Int) < (m : Int) := by omega
        clear hlt
        by_cases h8 : (q : Int) < 64
        · go_wp2
          go_ret
          exact HR.out
        · go_wp2
          go_ret
          exact HR.out

def wrtL (zs : List Int) (at_ : Nat) (xs : List Int) : List Int := if xs.length = 0 then zs else wrL (sizeL zs (max zs.length (at_ + xs.length))) at_ xs

set_option maxHeartbeats 1000000 in
theorem rwritten_any (A : Option Addr) (len cap at_ : Nat) (zs : List Int) (A2 : Option Addr) (m c : Nat) (xs : List Int) (B : Nat) (w : World) (hr : Reads w B 1 A len (cellsOf .u8 zs)) (hs : Reads w B 1 A2 m (cellsOf .u8 xs)) (hB : B ≤ w.heap.size)
    (hl : len ≤ cap) (hcap : cap ≤ 9223372036854775807) (hn : len ≤ 1073741824) (hm : m ≤ c) (hc : c ≤ 9223372036854775807) (hm2 : m ≤ 1073741824) (hat : at_ ≤ 1073741824) :
    Calls Try.prog 20 #[.slice A len cap, .int .i64 at_, .slice A2 m c] w (Gives (wrtL zs at_ xs) w) := by
  obtain ⟨i0, hi, hz0, hz1, hz2⟩ := info_parts byteInfo
  have hlen := hr.len
  have hmm := hs.len
  have ha0 : (0 : Int) ≤ (at_ : Int) := by omega
  by_cases h0 : m = 0
  · subst h0
    have HW := Lib.hid (show wrtL zs at_ xs = zs by unfold wrtL; rw [if_pos hmm])
    have hz : ¬ ((0 : Nat) : Int) > 0 := by omega
    go_enter Try.func20, Try.ntmps20
    go_wp2_with (at_builtin; refine wpList_append_any _ rfl (.tmp 9) (.tmp 10) _ rfl w.heap.size 5 i0 (.int .u8 0) 1 1 Try.underlying22 hi hz0 hz1 hz2 rfl (Nat.lt_succ_self 0) _ 0 [] rfl (World.ownsRow_lit w #[] 0 (Nat.le_refl _) (Nat.zero_le _) rfl) B A len cap (cellsOf .u8 zs) rfl (hr.alloc hB _) (cellsOf_one _ _) (by unfold maxLen; omega) (by omega) (by simp) ?_; intro v1 w1 hown1 hg1 hat1; rw [Nat.zero_add, List.nil_append] at hown1; obtain ⟨A1, c1, rfl, hc1, hc2⟩ := own_form hown1; have hb1 := below_lit hg1; clear hg1 hat1)
    go_loopw [8] (fun i wr => i = .int .i64 0 ∧ wr = w1) (fun i _ => 1)
    case atStart => exact ⟨rfl, rfl⟩
    case round =>
      obtain ⟨rfl, rfl⟩ := hrel
      have HR := Lib.hid (show Gives zs w (.returned (.slice A1 len c1)) wr from ⟨A1, c1, by rw [hlen], by rw [hlen]; exact hown1, hb1⟩)
      clear hr hs hown1 hb1
      go_wp2
      go_ret
      rw [HW.out]
      exact HR.out
  obtain ⟨M, hM⟩ : ∃ M, M = max len (at_ + m) := ⟨_, rfl⟩
  obtain ⟨L, hL⟩ : ∃ L, L = sizeL zs M := ⟨_, rfl⟩
  have hLl : L.length = M := by rw [hL, sizeL_length]
  have hW : wrtL zs at_ xs = wrL L at_ xs := by unfold wrtL; rw [if_neg (by omega), hL, hM, hlen, hmm]
  rw [hW]
  clear hW
  have hm0 : (0 : Int) < (m : Int) := by omega
  by_cases hbig : len < at_ + m
  · obtain rfl : M = at_ + m := by omega
    have hbi : (len : Int) < (at_ : Int) + (m : Int) := by omega
    have HL := Lib.hid hL
    clear hM hL
    go_enter Try.func20, Try.ntmps20
    go_wp2_with (first
      | (at_builtin; refine wpList_append_any _ rfl (.tmp 9) (.tmp 10) _ rfl w.heap.size 5 i0 (.int .u8 0) 1 1 Try.underlying22 hi hz0 hz1 hz2 rfl (Nat.lt_succ_self 0) _ 0 [] rfl (World.ownsRow_lit w #[] 0 (Nat.le_refl _) (Nat.zero_le _) rfl) B A len cap (cellsOf .u8 zs) rfl (hr.alloc hB _) (cellsOf_one _ _) (by unfold maxLen; omega) (by omega) (by simp) ?_; intro v1 w1 hown1 hg1 hat1; rw [Nat.zero_add, List.nil_append] at hown1; obtain ⟨A1, c1, rfl, hc1, hc2⟩ := own_form hown1; have hb1 := below_lit hg1; clear hg1 hat1)
      | (go_at_call 13; refine (rsize_any A1 len c1 ((at_ + m : Nat) : Int) zs w1.heap.size w1 (Reads.of_own hown1) (Nat.le_refl _) (by omega) hc1 (by unfold maxLen at hc2; omega)).mono ?_; rintro e w2 ⟨A3, c3, rfl, hown3, hb3⟩; rw [sizeL_length, Int.toNat_natCast, ← HL.out] at hown3; rw [sizeL_length, Int.toNat_natCast]; replace hown3 := own_base hown3 hb1.size; replace hb3 := hb1.trans (hb3.mono hb1.size)))
    clear hown1 hb1
    generalize hMe : at_ + m = M at *
    go_loopw [8] (fun i wr => ∃ q : Nat, q ≤ m ∧ i = .int .i64 q ∧ wr.ownsRow w.heap.size 5 1 (.slice A3 M c3) M (cellsOf .u8 (wrL L at_ (xs.take q))) ∧ Below w.heap.size w wr)
      (fun i _ => m - (intOf i).toNat)
    case atStart => exact ⟨0, Nat.zero_le _, rfl, by rw [List.take_zero, wrL_none]; exact hown3, hb3⟩
    case round =>
      clear hown3 hb3
      obtain ⟨q, hq, rfl, hown, hbel⟩ := hrel
      by_cases hlm : q < m
      · have k1 : (q : Int) < (m : Int) := by omega
        have k0 : (0 : Int) ≤ (at_ : Int) := by omega
        obtain ⟨g, c2, hv, hgb, hgl⟩ := hown.form (by omega)
        injection hv with hv1 hv2 hv3
        subst hv1; subst hv3
        obtain ⟨b, off, rfl, hbB, hcs⟩ := hs.plain (by omega)
        obtain ⟨x, hx⟩ : ∃ x, x = nz xs q := ⟨_, rfl⟩
        have c0 : wr.cell? ⟨b, off + q, none⟩ = some (.int .u8 x) := by rw [hx]; exact (hbel.cell (p := ⟨b, off + q, none⟩) (by show b < _; omega)).trans (hcs _ hlm)
        obtain ⟨u, cw⟩ : ∃ u, wr.cell? ⟨g, at_ + q, none⟩ = some u := by
          rw [hown.cellAt _ (by omega), cellsOf_get (by rw [wrL_length (by rw [List.length_take]; omega)]; omega)]; exact ⟨_, rfl⟩
        have fw := hown.frozenAt (at_ + q)
        have hset := (hown.stored (at_ + q) (.int .u8 x)).1
        have hset2 : (wr.setCell ⟨g, at_ + q, none⟩ (.int .u8 x)).ownsRow w.heap.size 5 1 (.slice (some ⟨g, 0, none⟩) M c3) M (cellsOf .u8 (wrL L at_ (xs.take (q + 1)))) := by
          rw [← wrL_set (by omega) (by omega), ← hx, ← cellsOf_set]
          exact hset
        have HSET := Lib.hid hset2
        have HX := Lib.hid hx
        have HS := Lib.hid hs
        have k4 : ((at_ : Int) + (q : Int)) < (M : Int) := by omega
        have k5 : at_ + q < M := by omega
        clear hset hset2 hx hs hcs hr
        go_wp2
        go_roundw
        case rel => exact ⟨q + 1, by omega, by go_num, HSET.out, hbel.setCell (by show w.heap.size ≤ g; omega) _⟩
        case measure => simp [intOf]; omega
      · obtain rfl : q = m := by omega
        rw [List.take_of_length_le (by omega)] at hown
        have hll : (wrL L at_ xs).length = M := by rw [wrL_length (by omega)]; exact hLl
        have HR := Lib.hid (show Gives (wrL L at_ xs) w (.returned (.slice A3 M c3)) wr from ⟨A3, c3, by rw [hll], by rw [hll]; exact hown, hbel⟩)
        clear hs hr hown hbel
        go_wp2
        go_ret
        exact HR.out
  · obtain rfl : M = len := by omega
    have hbi : ¬ (M : Int) < (at_ : Int) + (m : Int) := by omega
    have hLz : L = zs := by rw [hL, ← hlen]; exact sizeL_self zs
    clear hM hL
    go_enter Try.func20, Try.ntmps20
    go_wp2_with (at_builtin; refine wpList_append_any _ rfl (.tmp 9) (.tmp 10) _ rfl w.heap.size 5 i0 (.int .u8 0) 1 1 Try.underlying22 hi hz0 hz1 hz2 rfl (Nat.lt_succ_self 0) _ 0 [] rfl (World.ownsRow_lit w #[] 0 (Nat.le_refl _) (Nat.zero_le _) rfl) B A M cap (cellsOf .u8 zs) rfl (hr.alloc hB _) (cellsOf_one _ _) (by unfold maxLen; omega) (by omega) (by simp) ?_; intro v1 w1 hown1 hg1 hat1; rw [Nat.zero_add, List.nil_append, ← hLz] at hown1; obtain ⟨A3, c3, rfl, hc1, hc2⟩ := own_form hown1; have hb3 := below_lit hg1; have hown3 := hown1; clear hg1 hat1 hown1)
    go_loopw [8] (fun i wr => ∃ q : Nat, q ≤ m ∧ i = .int .i64 q ∧ wr.ownsRow w.heap.size 5 1 (.slice A3 M c3) M (cellsOf .u8 (wrL L at_ (xs.take q))) ∧ Below w.heap.size w wr)
      (fun i _ => m - (intOf i).toNat)
    case atStart => exact ⟨0, Nat.zero_le _, rfl, by rw [List.take_zero, wrL_none]; exact hown3, hb3⟩
    case round =>
      clear hown3 hb3
      obtain ⟨q, hq, rfl, hown, hbel⟩ := hrel
      by_cases hlm : q < m
      · have k1 : (q : Int) < (m : Int) := by omega
        have k0 : (0 : Int) ≤ (at_ : Int) := by omega
        obtain ⟨g, c2, hv, hgb, hgl⟩ := hown.form (by omega)
        injection hv with hv1 hv2 hv3
        subst hv1; subst hv3
        obtain ⟨b, off, rfl, hbB, hcs⟩ := hs.plain (by omega)
        obtain ⟨x, hx⟩ : ∃ x, x = nz xs q := ⟨_, rfl⟩
        have c0 : wr.cell? ⟨b, off + q, none⟩ = some (.int .u8 x) := by rw [hx]; exact (hbel.cell (p := ⟨b, off + q, none⟩) (by show b < _; omega)).trans (hcs _ hlm)
        obtain ⟨u, cw⟩ : ∃ u, wr.cell? ⟨g, at_ + q, none⟩ = some u := by
          rw [hown.cellAt _ (by omega), cellsOf_get (by rw [wrL_length (by rw [List.length_take]; omega)]; omega)]; exact ⟨_, rfl⟩
        have fw := hown.frozenAt (at_ + q)
        have hset := (hown.stored (at_ + q) (.int .u8 x)).1
        have hset2 : (wr.setCell ⟨g, at_ + q, none⟩ (.int .u8 x)).ownsRow w.heap.size 5 1 (.slice (some ⟨g, 0, none⟩) M c3) M (cellsOf .u8 (wrL L at_ (xs.take (q + 1)))) := by
          rw [← wrL_set (by omega) (by omega), ← hx, ← cellsOf_set]
          exact hset
        have HSET := Lib.hid hset2
        have HX := Lib.hid hx
        have HS := Lib.hid hs
        have k4 : ((at_ : Int) + (q : Int)) < (M : Int) := by omega
        have k5 : at_ + q < M := by omega
        clear hset hset2 hx hs hcs hr
        go_wp2
        go_roundw
        case rel => exact ⟨q + 1, by omega, by go_num, HSET.out, hbel.setCell (by show w.heap.size ≤ g; omega) _⟩
        case measure => simp [intOf]; omega
      · obtain rfl : q = m := by omega
        rw [List.take_of_length_le (by omega)] at hown
        have hll : (wrL L at_ xs).length = M := by rw [wrL_length (by omega)]; exact hLl
        have HR := Lib.hid (show Gives (wrL L at_ xs) w (.returned (.slice A3 M c3)) wr from ⟨A3, c3, by rw [hll], by rw [hll]; exact hown, hbel⟩)
        clear hs hr hown hbel
        go_wp2
        go_ret
        exact HR.out

end Go.Proofs.Ytododgpoonkmpaa
