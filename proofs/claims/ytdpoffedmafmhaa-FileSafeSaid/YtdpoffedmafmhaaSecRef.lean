/-
  THE DOCUMENT'S OWN At OF LAYER 5: its contract.
-/
import Derived.Test.YtdpoffedmafmhaaSecFn
set_option linter.unusedVariables false
set_option linter.unusedSimpArgs false
namespace Go.Proofs.Ytdpoffedmafmhaa
open Go.RowKit

/-- A list up to a place, noughts behind. -/
def partL (l : List Int) (i : Nat) : List Int := l.take i ++ List.replicate (l.length - i) 0
theorem partL_length {l : List Int} {i : Nat} (h : i ≤ l.length) : (partL l i).length = l.length := by
  unfold partL; rw [List.length_append, List.length_take, List.length_replicate]; omega
theorem nz_partL (l : List Int) (i j : Nat) : nz (partL l i) j = if j < i then nz l j else 0 := by
  unfold partL
  rw [nz_append, List.length_take, nz_take, nz_zeros]
  by_cases h : j < i
  · rw [if_pos h]
    by_cases h2 : j < min i l.length
    · rw [if_pos h2]
    · rw [if_neg h2, nz_out (by omega)]
  · rw [if_neg (by omega), if_neg h]
theorem partL_set {l : List Int} {i : Nat} (h : i < l.length) : (partL l i).set i (nz l i) = partL l (i + 1) := by
  have hl := partL_length (l := l) (i := i) (by omega)
  refine ext_nz (by rw [List.length_set, hl, partL_length (by omega)]) fun j hj => ?_
  rw [nz_set _ _ _ _ (by omega), nz_partL, nz_partL]
  by_cases h1 : i = j
  · subst h1; rw [if_pos rfl, if_pos (by omega)]
  · rw [if_neg h1]
    by_cases h2 : j < i
    · rw [if_pos h2, if_pos (by omega)]
    · rw [if_neg h2, if_neg (by omega)]
theorem partL_stay {l : List Int} {i : Nat} (h : i < l.length) (h0 : nz l i = 0) : partL l (i + 1) = partL l i := by
  rw [← partL_set h, h0]
  have hl := partL_length (l := l) (i := i) (by omega)
  refine ext_nz (by rw [List.length_set]) fun j hj => ?_
  rw [nz_set _ _ _ _ (by omega)]
  by_cases h1 : i = j
  · subst h1; rw [if_pos rfl, nz_partL, if_neg (by omega)]
  · rw [if_neg h1]
theorem partL_all {l : List Int} {i : Nat} (h : i = l.length) : partL l i = l := by unfold partL; rw [h]; simp
theorem partL_none (l : List Int) : partL l 0 = List.replicate l.length 0 := by unfold partL; simp

/-- A piece that a call has boxed stays as it is. -/
theorem box_blk {w w1 : World} {t : TypeId} {cs : Array Value} (hw : Below (w.alloc (.cells cs t)).heap.size (w.alloc (.cells cs t)) w1) : Blk w1 w.heap.size t cs := (Blk.new w t _).below hw (by simp)

theorem rat_any (A : Option Addr) (len cap : Nat) (k : Int) (zs : List Int) (B : Nat) (w : World) (hr : Reads w B 1 A len (cellsOf .u8 zs)) (hB : B ≤ w.heap.size) (hl : len ≤ cap) (hcap : cap ≤ 9223372036854775807) (hn : len ≤ 4611686018427387904) :
    Calls Try.prog 33 #[.slice A len cap, .int .i64 k] w (Lays (secL zs k) w) := by
  obtain ⟨i0, hi, hz0, hz1, hz2⟩ := info_parts byteInfo
  have hlen := hr.len
  have hsl := secL_length zs k
  have hcn : cntI len = cntN len := cntI_nat _
  have hE : Hid ((∀ (h : hasL zs k = true) (i : Nat), i < 64 → nz (secL zs k) i = nz zs (64 * k.toNat + i)) ∧ (hasL zs k = false → ∀ i, i < 64 → nz (secL zs k) i = 0)) := by
    refine Lib.hid ⟨fun h i hi => ?_, fun h i hi => ?_⟩
    · rw [nz_secL hi, if_pos h]
    · rw [nz_secL hi, if_neg (by rw [h]; decide)]
  obtain ⟨L, hL⟩ : ∃ L, L = secL zs k := ⟨_, rfl⟩
  rw [← hL] at hsl hE
  rw [← hL]
  have hcnt : ∀ w1 : World, Calls Try.prog 38 #[.int .i64 (len : Int)] w1 fun e w' => e = .returned (.int .i64 (cntN len : Nat)) ∧ w1 = w' := fun w1 => by
    rw [← hcn]; exact rcount_any len w1 (by omega) (by omega)
  have HCNT := Lib.hid hcnt
  clear hL hcn hcnt
  go_enter Try.func33, Try.ntmps33
  go_wp2_with (at_make; refine wpList_make_full _ rfl _ _ 26 rfl w.heap.size 5 i0 (.int .u8 0) 1 Try.underlying26 hi hz0 hz1 _ _ _ _ 64 rfl rfl rfl rfl (by rw [hz2]; omega) (by unfold maxLen; omega) (Nat.le_refl _) ?_; intro w1 hown hgr; have hb1 : Below w.heap.size w w1 := (Below.refl _ _).grown hgr (Nat.le_refl _) (by simp); have hb : Blk w1 w.heap.size 5 (cellsOf .u8 (List.replicate 64 0)).toArray := made_blk hown; clear hown hgr)
  go_loopw [6] (fun i wr => ∃ q : Nat, q ≤ 64 ∧ i = .int .i64 q ∧ Blk wr w.heap.size 5 (cellsOf .u8 (partL L q)).toArray ∧ Below w.heap.size w wr)
    (fun i _ => 64 - (intOf i).toNat)
  case atStart => exact ⟨0, Nat.zero_le _, rfl, by rw [partL_none, hsl]; exact hb, hb1⟩
  case round =>
    obtain ⟨q, hq, rfl, hblk, hbel⟩ := hrel
    clear hb hb1
    have hpl := partL_length (l := L) (i := q) (by omega)
    have HP := Lib.hid hpl
    clear hpl
    by_cases hlt : q < 64
    · have hlt2 : (q : Int) < 64 := by omega
      cases hh : hasL zs k with
      | true =>
        have hk := hasL_true hh
        obtain ⟨n, rfl⟩ : ∃ n : Nat, k = n := ⟨k.toNat, by omega⟩
        have hn1 := hasL_lt hh
        have hnc : (n : Int) < (cntN len : Nat) := by rw [← hlen]; exact hk.2
        have hn0 : (0 : Int) ≤ n := by omega
        have e1 := hE.out.1 hh q hlt
        simp only [Int.toNat_natCast] at e1 hn1
        rw [hlen] at hn1
        have hm1 : ((n : Int) * 64 : Int) ≤ 4611686018427387904 := by omega
        by_cases hin : 64 * n + q < len
        · obtain ⟨b, off, rfl, hbB, hc⟩ := hr.plain (by omega)
          obtain ⟨x, hx⟩ : ∃ x, x = nz L q := ⟨_, rfl⟩
          have c0 : wr.cell? ⟨b, off + (n * 64 + q), none⟩ = some (.int .u8 x) := by rw [hx, e1]; exact ((hbel.cell (p := ⟨b, off + (n * 64 + q), none⟩) (by show b < _; omega)).trans (by rw [Nat.mul_comm n 64]; exact hc _ hin))
          have cw : ∃ u, wr.cell? ⟨w.heap.size, q, none⟩ = some u := by
            rw [hblk.cell, List.getElem?_toArray, cellsOf_get (by rw [HP.out, hsl]; omega)]; exact ⟨_, rfl⟩
          obtain ⟨u, cw⟩ := cw
          have fw := hblk.frozen q
          have hset := hblk.set_ q (.int .u8 x)
          have hset2 : Blk (wr.setCell ⟨w.heap.size, q, none⟩ (.int .u8 x)) w.heap.size 5 (cellsOf .u8 (partL L (q + 1))).toArray := by
            rw [← partL_set (by omega), ← hx, ← cellsOf_set]
            simpa using hset
          have HSET := Lib.hid hset2
          have HX := Lib.hid hx
          have HR := Lib.hid hr
          have h4 : ((n : Int) * 64 + (q : Int)) < (len : Int) := by omega
          clear hset hset2 hx hr hc e1 hk
          go_wp2_with (go_at_call 38; refine (HCNT.out wr).mono ?_; rintro e w2 ⟨rfl, rfl⟩)
          go_roundw
          case rel => exact ⟨q + 1, by omega, by go_num, HSET.out, hbel.setCell (Nat.le_refl _) _⟩
          case measure => simp [intOf]; omega
        · have e2 : nz L q = 0 := by rw [e1, nz_out (by omega)]
          have HST := Lib.hid (partL_stay (l := L) (i := q) (by omega) e2)
          have HR := Lib.hid hr
          have h4 : ¬ ((n : Int) * 64 + (q : Int)) < (len : Int) := by omega
          clear hr e1 e2 hk
          go_wp2_with (go_at_call 38; refine (HCNT.out wr).mono ?_; rintro e w2 ⟨rfl, rfl⟩)
          go_roundw
          case rel => exact ⟨q + 1, by omega, by go_num, by rw [HST.out]; exact hblk, hbel⟩
          case measure => simp [intOf]; omega
      | false =>
        have hk := hasL_false hh
        rw [hlen] at hk
        have HST := Lib.hid (partL_stay (l := L) (i := q) (by omega) (hE.out.2 hh q hlt))
        have HR := Lib.hid hr
        clear hr
        by_cases h0 : 0 ≤ k
        · have h4 : ¬ k < (cntN len : Nat) := by omega
          clear hk
          go_wp2_with (go_at_call 38; refine (HCNT.out wr).mono ?_; rintro e w2 ⟨rfl, rfl⟩)
          go_roundw
          case rel => exact ⟨q + 1, by omega, by go_num, by rw [HST.out]; exact hblk, hbel⟩
          case measure => simp [intOf]; omega
        · clear hk
          go_wp2
          go_roundw
          case rel => exact ⟨q + 1, by omega, by go_num, by rw [HST.out]; exact hblk, hbel⟩
          case measure => simp [intOf]; omega
    · obtain rfl : q = 64 := by omega
      have hfin := hblk
      rw [partL_all hsl.symm] at hfin
      clear hr hblk
      go_wp2
      go_ret
      exact ⟨_, Nat.le_refl _, by rw [hsl]; rfl, hfin, hbel⟩

end Go.Proofs.Ytdpoffedmafmhaa
