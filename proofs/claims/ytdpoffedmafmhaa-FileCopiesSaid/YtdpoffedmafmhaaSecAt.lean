/-
  WHAT At OF PACKAGE sector DOES: its contract.
-/
import Derived.Test.YtdpoffedmafmhaaSecFn
import Derived.Test.YtdpoffedmafmhaaCopyBlk
import Derived.Deep.RegionLaw
set_option linter.unusedVariables false
set_option linter.unusedSimpArgs false
namespace Go.Proofs.Ytdpoffedmafmhaa
open Go.RowKit

theorem at_any (A : Option Addr) (len cap : Nat) (k : Int) (zs : List Int) (B : Nat) (w : World) (hr : Reads w B 1 A len (cellsOf .u8 zs)) (hB : B ≤ w.heap.size) (hl : len ≤ cap) (hcap : cap ≤ 9223372036854775807) (hn : len ≤ 4611686018427387904) :
    Calls Try.prog 37 #[.slice A len cap, .int .i64 k] w (Lays (secL zs k) w) := by
  obtain ⟨i0, hi, hz0, hz1, hz2⟩ := info_parts byteInfo
  have hlen := hr.len
  cases hh : hasL zs k with
  | true =>
    have hk := hasL_true hh
    have hlt := hasL_lt hh
    obtain ⟨n, rfl⟩ : ∃ n : Nat, k = n := ⟨k.toNat, by omega⟩
    have hn1 : 64 * n < len := by simp at hlt; omega
    obtain ⟨b, off, rfl, hbB, hc⟩ := hr.plain (by omega)
    have hcut := hr.cut (k := 64 * n) (cap := cap) (by omega) hl
    rw [if_neg (by omega)] at hcut
    simp only [Option.map_some, Nat.mul_one, cellsOf_drop, row_addC] at hcut
    have HSEC := Lib.hid (show secL zs n = sizeL (zs.drop (64 * n)) 64 by unfold secL; rw [if_pos hh]; rfl)
    have HCUT := Lib.hid hcut
    have HR := Lib.hid hr
    have n1 : (n : Int) * 64 = ((64 * n : Nat) : Int) := by omega
    have n2 : ¬ cap = 64 * n := by omega
    clear hcut hr hc hlt hk
    go_enter Try.func37, Try.ntmps37
    go_wp2_with (first
      | (go_at_call 39; refine (has_any _ len cap zs n w hlen hn hl).mono ?_; rintro e w1 ⟨rfl, rfl⟩; rw [hh])
      | (go_at_call 27; go_loud (refine (size_any _ (len - 64 * n) (cap - 64 * n) 64 (zs.drop (64 * n)) B w HCUT.out hB (by omega) (by omega)).mono ?_; rintro e w1 ⟨g, hg, rfl, hb, hw⟩)))
    go_ret
    rw [HSEC.out]
    exact ⟨g, hg, by rfl, hb, hw⟩
  | false =>
    have HSEC := Lib.hid (show secL zs k = List.replicate 64 0 by unfold secL; rw [if_neg (by rw [hh]; decide)])
    have HR := Lib.hid hr
    clear hr
    go_enter Try.func37, Try.ntmps37
    go_wp2_with (first
      | (go_at_call 39; refine (has_any _ len cap zs k w hlen hn hl).mono ?_; rintro e w1 ⟨rfl, rfl⟩; rw [hh])
      | (at_make; refine wpList_make_full _ rfl _ _ 26 rfl w.heap.size 5 i0 (.int .u8 0) 1 Try.underlying26 hi hz0 hz1 _ _ _ _ 64 rfl rfl rfl rfl (by rw [hz2]; omega) (by unfold maxLen; omega) (Nat.le_refl _) ?_; intro w1 hown hgr; have hb1 : Below w.heap.size w w1 := (Below.refl _ _).grown hgr (Nat.le_refl _) (by simp); have hb : Blk w1 w.heap.size 5 (cellsOf .u8 (List.replicate 64 0)).toArray := made_blk hown; clear hown hgr))
    go_ret
    rw [HSEC.out]
    exact ⟨w.heap.size, Nat.le_refl _, by rfl, hb, hb1⟩

theorem src_take {w : World} {B m n q : Nat} {A : Option Addr} {xs : List Int} {news : List Value} (h : Reads w B 1 A m (cellsOf .u8 xs)) (hn : news = cellsOf .u8 (xs.take n)) (hq : news.length = q) :
    0 < q → ∃ ad, A = some ad ∧ ad.block < B ∧ ∀ j v, news[j]? = some v → w.cell? (ad.add j) = some v := fun h0 => by
  have hm := h.len
  rw [hn, cellsOf_length, List.length_take] at hq
  obtain ⟨ad, e, hb, hc⟩ := h.2 (by omega)
  refine ⟨ad, e, hb, fun j v hj => hc j v ?_⟩
  rw [hn] at hj
  simp only [cellsOf, List.map_take, List.getElem?_take] at hj
  split at hj
  · exact hj
  · cases hj
theorem cellsOf_splice (xs ys : List Int) (off : Nat) : splice (cellsOf .u8 xs) off (cellsOf .u8 ys) = cellsOf .u8 (splice xs off ys) := by
  unfold splice; simp [cellsOf]
theorem blk_splice {w : World} {g off : Nat} {xs ys : List Int} {news : List Value} (h : Blk w g 5 (splice (cellsOf .u8 xs) off news).toArray) (hn : news = cellsOf .u8 ys) : Blk w g 5 (cellsOf .u8 (splice xs off ys)).toArray := by
  rw [← cellsOf_splice, ← hn]; exact h


end Go.Proofs.Ytdpoffedmafmhaa
