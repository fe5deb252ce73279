/-
  WHAT At, Set AND Lay OF PACKAGE sector DO: contracts.
-/
import Derived.Test.YtododgpoonkmpaaSecFn
import Derived.Test.YtododgpoonkmpaaCopyBlk
import Derived.Deep.RegionLaw
set_option linter.unusedVariables false
set_option linter.unusedSimpArgs false
namespace Go.Proofs.Ytododgpoonkmpaa
open Go.RowKit

theorem at_any (A : Option Addr) (len cap : Nat) (k : Int) (zs : List Int) (B : Nat) (w : World) (hr : Reads w B 1 A len (cellsOf .u8 zs)) (hB : B ≤ w.heap.size) (hl : len ≤ cap) (hcap : cap ≤ 9223372036854775807) (hn : len ≤ 4611686018427387904) :
    Calls Try.prog 14 #[.slice A len cap, .int .i64 k] w (Lays (secL zs k) w) := by
  obtain ⟨i0, hi, hz0, hz1, hz2⟩ := info_parts byteInfo
  have hlen := hr.len
  cases hh : hasL zs k with
  | true =>
    have hk := hasL_true hh
    have hlt := hasL_lt hh
    obtain ⟨n, rfl⟩ : ∃ n : Nat, k = n := ⟨k.toNat, by omega⟩
    have hn1 : 64 * n < len := by simp at hlt; omega
    obtain ⟨b, off, rfl, hbB, hc⟩ := hr.plain (by omega)
    have hcut := hr.cut (k := 64 * n) (cap := cap) (by omega) hl
    rw [if_neg (by omega)] at hcut
    simp only [Option.map_some, Nat.mul_one, cellsOf_drop, row_addC] at hcut
    have HSEC := Lib.hid (show secL zs n = sizeL (zs.drop (64 * n)) 64 by unfold secL; rw [if_pos hh]; rfl)
    have HCUT := Lib.hid hcut
    have HR := Lib.hid hr
    have n1 : (n : Int) * 64 = ((64 * n : Nat) : Int) := by omega
    have n2 : ¬ cap = 64 * n := by omega
    clear hcut hr hc hlt hk
    go_enter Try.func14, Try.ntmps14
    go_wp2_with (first
      | (go_at_call 21; refine (has_any _ len cap zs n w hlen hn hl).mono ?_; rintro e w1 ⟨rfl, rfl⟩; rw [hh])
      | (go_at_call 12; go_loud (refine (size_any _ (len - 64 * n) (cap - 64 * n) 64 (zs.drop (64 * n)) B w HCUT.out hB (by omega) (by omega)).mono ?_; rintro e w1 ⟨g, hg, rfl, hb, hw⟩)))
    go_ret
    rw [HSEC.out]
    exact ⟨g, hg, by rfl, hb, hw⟩
  | false =>
    have HSEC := Lib.hid (show secL zs k = List.replicate 64 0 by unfold secL; rw [if_neg (by rw [hh]; decide)])
    have HR := Lib.hid hr
    clear hr
    go_enter Try.func14, Try.ntmps14
    go_wp2_with (first
      | (go_at_call 21; refine (has_any _ len cap zs k w hlen hn hl).mono ?_; rintro e w1 ⟨rfl, rfl⟩; rw [hh])
      | (at_make; refine wpList_make_full _ rfl _ _ 22 rfl w.heap.size 5 i0 (.int .u8 0) 1 Try.underlying22 hi hz0 hz1 _ _ _ _ 64 rfl rfl rfl rfl (by rw [hz2]; omega) (by unfold maxLen; omega) (Nat.le_refl _) ?_; intro w1 hown hgr; have hb1 : Below w.heap.size w w1 := (Below.refl _ _).grown hgr (Nat.le_refl _) (by simp); have hb : Blk w1 w.heap.size 5 (cellsOf .u8 (List.replicate 64 0)).toArray := made_blk hown; clear hown hgr))
    go_ret
    rw [HSEC.out]
    exact ⟨w.heap.size, Nat.le_refl _, by rfl, hb, hb1⟩

theorem src_take {w : World} {B m n q : Nat} {A : Option Addr} {xs : List Int} {news : List Value} (h : Reads w B 1 A m (cellsOf .u8 xs)) (hn : news = cellsOf .u8 (xs.take n)) (hq : news.length = q) :
    0 < q → ∃ ad, A = some ad ∧ ad.block < B ∧ ∀ j v, news[j]? = some v → w.cell? (ad.add j) = some v := fun h0 => by
  have hm := h.len
  rw [hn, cellsOf_length, List.length_take] at hq
  obtain ⟨ad, e, hb, hc⟩ := h.2 (by omega)
  refine ⟨ad, e, hb, fun j v hj => hc j v ?_⟩
  rw [hn] at hj
  simp only [cellsOf, List.map_take, List.getElem?_take] at hj
  split at hj
  · exact hj
  · cases hj
theorem cellsOf_splice (xs ys : List Int) (off : Nat) : splice (cellsOf .u8 xs) off (cellsOf .u8 ys) = cellsOf .u8 (splice xs off ys) := by
  unfold splice; simp [cellsOf]
theorem blk_splice {w : World} {g off : Nat} {xs ys : List Int} {news : List Value} (h : Blk w g 5 (splice (cellsOf .u8 xs) off news).toArray) (hn : news = cellsOf .u8 ys) : Blk w g 5 (cellsOf .u8 (splice xs off ys)).toArray := by
  rw [← cellsOf_splice, ← hn]; exact h

theorem set_any (A : Option Addr) (len cap : Nat) (k : Int) (zs : List Int) (A2 : Option Addr) (m c : Nat) (ss : List Int) (B : Nat) (w : World) (hr : Reads w B 1 A len (cellsOf .u8 zs)) (hs : Reads w B 1 A2 m (cellsOf .u8 ss)) (hB : B ≤ w.heap.size)
    (hl : len ≤ cap) (hn : len ≤ 2147483647) (hm : m ≤ c) (hc : c ≤ 9223372036854775807) :
    Calls Try.prog 16 #[.slice A len cap, .int .i64 k, .slice A2 m c] w (Lays (setL zs k ss) w) := by
  have hlen := hr.len
  have hmm := hs.len
  have hself : sizeL zs len = zs := by rw [← hlen]; exact sizeL_self zs
  have hsize := size_any A len cap len zs B w hr hB hn hl
  rw [hself] at hsize
  have HSIZE := Lib.hid hsize
  cases hh : hasL zs k with
  | true =>
    have hk := hasL_true hh
    have hlt := hasL_lt hh
    obtain ⟨n, rfl⟩ : ∃ n : Nat, k = n := ⟨k.toNat, by omega⟩
    have hn1 : 64 * n < len := by simp at hlt; omega
    obtain ⟨q, hq⟩ : ∃ q, q = min (min m 64) (len - 64 * n) := ⟨_, rfl⟩
    obtain ⟨news, hnews⟩ : ∃ news, news = cellsOf .u8 (ss.take (min 64 (len - 64 * n))) := ⟨_, rfl⟩
    have hnl : news.length = q := by rw [hnews, cellsOf_length, List.length_take]; omega
    have HSET := Lib.hid (show setL zs n ss = splice zs (64 * n) (ss.take (min 64 (len - 64 * n))) by
      unfold setL; rw [if_pos hh, List.take_take, hlen, Nat.min_comm]; rfl)
    have HONE := Lib.hid (show ∀ v ∈ news, v.oneCell' = true from hnews ▸ cellsOf_one _ _)
    have HSRC := Lib.hid (fun (w1 : World) (hb : Below w.heap.size w w1) => src_take ((hs.more hB).below hb) hnews hnl)
    have HMIN := Lib.hid (show q = Nat.min (min m 64) (len - 64 * n) from hq)
    have hfit : 64 * n + q ≤ (cellsOf .u8 zs).length := by rw [cellsOf_length]; omega
    have HNL := Lib.hid hnl
    have HNEWS := Lib.hid hnews
    have HR := Lib.hid hr
    have HS := Lib.hid hs
    have n1 : (n : Int) * 64 = ((64 * n : Nat) : Int) := by omega
    have n2 : ¬ len = 64 * n := by omega
    have n3 : IntKind.i64.wrap (64 * (n : Int)) = 64 * (n : Int) := by rw [IntKind.wrap_i64]; omega
    have n4 : (64 * (n : Int)).toNat = 64 * n := by omega
    have n5 : 64 * (n : Int) ≤ (len : Int) := by omega
    have n6 : 0 ≤ 64 * (n : Int) := by omega
    have hq2 : q ≤ 64 := by omega
    obtain ⟨mm, hmm2⟩ : ∃ mm, mm = min m 64 := ⟨_, rfl⟩
    rw [← hmm2] at HMIN
    have n7 : (if (64 : Int) < (m : Int) then (64 : Int) else (m : Int)) = (mm : Int) := by split <;> omega
    have n8 : (mm : Int) ≤ (c : Int) := by omega
    clear hmm2
    clear hsize hself hlt hk hnl hnews hr hs hq
    go_enter Try.func16, Try.ntmps16
    go_wp2_with (first
      | (go_at_call 12; refine HSIZE.out.mono ?_; rintro e w1 ⟨g, hg, rfl, hb, hw⟩; rw [hlen])
      | (go_at_call 21; refine (has_any _ len len zs n w1 hlen (by omega) (Nat.le_refl _)).mono ?_; rintro e w2 ⟨rfl, rfl⟩; rw [hh]))
    go_region_law (refine step_copy_blk rfl _ _ _ _ rfl 5 Try.underlying22 byteOne _ _ _ _ _ _ rfl rfl g (64 * n) q (cellsOf .u8 zs) 5 hb.drew news HNL.out HMIN.out (fun h0 => ⟨rfl, by obtain ⟨ad, e, _, hc⟩ := HSRC.out _ hw h0; exact ⟨ad, e, hc⟩⟩) hfit HONE.out ?_; intro w3 HG3 hc3)
    have hb3 := blk_splice HG3.out HNEWS.out
    go_wp2
    go_ret
    rw [HSET.out]
    refine ⟨g, hg, ?_, hb3, chg_below2 hw hc3.drew0 hg hw.size⟩
    rw [length_splice _ _ _ (by rw [← cellsOf_length .u8 (ss.take _), ← HNEWS.out, HNL.out, ← cellsOf_length .u8 zs]; exact hfit), hlen]
    rfl
  | false =>
    have HSET := Lib.hid (show setL zs k ss = zs by unfold setL; rw [if_neg (by rw [hh]; decide)])
    have HR := Lib.hid hr
    have HS := Lib.hid hs
    clear hsize hself hr hs
    go_enter Try.func16, Try.ntmps16
    go_wp2_with (first
      | (go_at_call 12; refine HSIZE.out.mono ?_; rintro e w1 ⟨g, hg, rfl, hb, hw⟩; rw [hlen])
      | (go_at_call 21; refine (has_any _ len len zs k w1 hlen (by omega) (Nat.le_refl _)).mono ?_; rintro e w2 ⟨rfl, rfl⟩; rw [hh]))
    go_ret
    rw [HSET.out]
    exact ⟨g, hg, by rw [hlen]; rfl, hb, hw⟩

set_option maxHeartbeats 1000000 in
theorem lay_any (A : Option Addr) (len cap : Nat) (sec frm : Int) (zs : List Int) (A2 : Option Addr) (m c : Nat) (ss : List Int) (B : Nat) (w : World) (hr : Reads w B 1 A len (cellsOf .u8 zs)) (hs : Reads w B 1 A2 m (cellsOf .u8 ss)) (hB : B ≤ w.heap.size)
    (hl : len ≤ cap) (hm : m ≤ c) :
    Calls Try.prog 18 #[.slice A len cap, .agg #[.int .i64 sec, .int .i64 frm, .slice A2 m c]] w (Lays (layL zs frm ss) w) := by
  have hlen := hr.len
  have hmm := hs.len
  have HSIZE := Lib.hid (fun (w1 : World) (hb : Below w.heap.size w w1) => size_any A len cap 64 zs w.heap.size w1 ((hr.more hB).below hb) hb.size (by omega) hl)
  by_cases hf : 0 ≤ frm ∧ frm ≤ 64
  · obtain ⟨f, rfl⟩ : ∃ f : Nat, frm = f := ⟨frm.toNat, by omega⟩
    have hf2 : f ≤ 64 := by omega
    have hf3 : (f : Int) ≤ 64 := by omega
    obtain ⟨q, hq⟩ : ∃ q, q = min m (64 - f) := ⟨_, rfl⟩
    obtain ⟨news, hnews⟩ : ∃ news, news = cellsOf .u8 (ss.take (64 - f)) := ⟨_, rfl⟩
    have hnl : news.length = q := by rw [hnews, cellsOf_length, List.length_take]; omega
    have HLAY := Lib.hid (show layL zs f ss = splice (sizeL zs 64) f (ss.take (64 - f)) by unfold layL; rw [if_pos hf]; rfl)
    have HONE := Lib.hid (show ∀ v ∈ news, v.oneCell' = true from hnews ▸ cellsOf_one _ _)
    have HSRC := Lib.hid (fun (w1 : World) (hb : Below w.heap.size w w1) => src_take ((hs.more hB).below hb) hnews hnl)
    have HMIN := Lib.hid (show q = Nat.min m (64 - f) from hq)
    have hfit : f + q ≤ (cellsOf .u8 (sizeL zs 64)).length := by rw [cellsOf_length, sizeL_length]; omega
    have HNL := Lib.hid hnl
    have HNEWS := Lib.hid hnews
    have HR := Lib.hid hr
    have HS := Lib.hid hs
    have h6 := sizeL_length zs 64
    have hq0 : q ≤ 64 - f := by omega
    clear hnl hnews hr hs hq hf
    by_cases he : f = 64
    · subst he
      have hq1 : q = 0 := by omega
      subst hq1
      go_enter Try.func18, Try.ntmps18
      go_wp2_with (go_at_call 12; refine (HSIZE.out _ ((Below.refl _ _).alloc (Nat.le_refl _) _)).mono ?_; rintro e w1 ⟨g, hg, rfl, hb, hw⟩; rw [h6]; obtain ⟨c1, c2, hgw⟩ := box_cells hw hg)
      go_region_law (refine step_copy_blk rfl _ _ _ _ rfl 5 Try.underlying22 byteOne _ _ _ _ _ _ rfl rfl g 64 0 (cellsOf .u8 (sizeL zs 64)) 5 hb.drew news HNL.out HMIN.out (fun h0 => absurd h0 (Nat.lt_irrefl 0)) hfit HONE.out ?_; intro w3 HG3 hc3)
      all_goals
        have hb3 := blk_splice HG3.out HNEWS.out
        go_wp2
        go_ret
        rw [HLAY.out]
        refine ⟨g, hgw, ?_, hb3, chg_below2 (below_box hw) hc3.drew0 hgw (below_box hw).size⟩
        rw [length_splice _ _ _ (by rw [← cellsOf_length .u8 (ss.take _), ← HNEWS.out, HNL.out, ← cellsOf_length .u8 (sizeL zs 64)]; exact hfit), sizeL_length]
        rfl
    · have he2 : ¬ 64 = f := fun h => he h.symm
      go_enter Try.func18, Try.ntmps18
      go_wp2_with (go_at_call 12; refine (HSIZE.out _ ((Below.refl _ _).alloc (Nat.le_refl _) _)).mono ?_; rintro e w1 ⟨g, hg, rfl, hb, hw⟩; rw [h6]; obtain ⟨c1, c2, hgw⟩ := box_cells hw hg)
      have HS2 := Lib.hid (HSRC.out _ (below_box hw))
      go_region_law (refine step_copy_blk rfl _ _ _ _ rfl 5 Try.underlying22 byteOne _ _ _ _ _ _ rfl rfl g f q (cellsOf .u8 (sizeL zs 64)) 5 hb.drew news HNL.out HMIN.out (fun h0 => ⟨rfl, by obtain ⟨ad, e, _, hc⟩ := HS2.out h0; exact ⟨ad, e, hc⟩⟩) hfit HONE.out ?_; intro w3 HG3 hc3)
      all_goals
        have hb3 := blk_splice HG3.out HNEWS.out
        go_wp2
        go_ret
        rw [HLAY.out]
        refine ⟨g, hgw, ?_, hb3, chg_below2 (below_box hw) hc3.drew0 hgw (below_box hw).size⟩
        rw [length_splice _ _ _ (by rw [← cellsOf_length .u8 (ss.take _), ← HNEWS.out, HNL.out, ← cellsOf_length .u8 (sizeL zs 64)]; exact hfit), sizeL_length]
        rfl
  · have HLAY := Lib.hid (show layL zs frm ss = sizeL zs 64 by unfold layL; rw [if_neg hf])
    have h6 := sizeL_length zs 64
    clear hr hs
    by_cases h0 : 0 ≤ frm
    · have h1 : ¬ frm ≤ 64 := fun h => hf ⟨h0, h⟩
      clear hf
      go_enter Try.func18, Try.ntmps18
      go_wp2_with (go_at_call 12; refine (HSIZE.out _ ((Below.refl _ _).alloc (Nat.le_refl _) _)).mono ?_; rintro e w1 ⟨g, hg, rfl, hb, hw⟩; rw [h6]; obtain ⟨c1, c2, hgw⟩ := box_cells hw hg)
      go_ret
      rw [HLAY.out]
      exact ⟨g, hgw, by rw [h6]; rfl, hb, below_box hw⟩
    · clear hf
      go_enter Try.func18, Try.ntmps18
      go_wp2_with (go_at_call 12; refine (HSIZE.out _ ((Below.refl _ _).alloc (Nat.le_refl _) _)).mono ?_; rintro e w1 ⟨g, hg, rfl, hb, hw⟩; rw [h6]; obtain ⟨c1, c2, hgw⟩ := box_cells hw hg)
      go_ret
      rw [HLAY.out]
      exact ⟨g, hgw, by rw [h6]; rfl, hb, below_box hw⟩

end Go.Proofs.Ytododgpoonkmpaa
