/-
  LAYER 11: THE DOCUMENT'S Encode: its contract, for every input.
-/
import Derived.Test.YtdajjkjpjhpnjaaSlotEnc
set_option linter.unusedVariables false
set_option maxRecDepth 100000
set_option linter.unusedSimpArgs false
namespace Go.Proofs.Ytdajjkjpjhpnjaa
open Go.RowKit

theorem rbytes4s (x : Int) (w : World) (h0 : Hid (0 ≤ x ∧ x < 18446744073709551616)) : Calls Try.prog 26 #[.int .u64 x, .int .i64 4] w fun e w' =>
    ∃ A c, e = .returned (.slice A 4 c) ∧ w'.ownsRow w.heap.size 5 1 (.slice A 4 c) 4 (cellsOf .u8 (bts x 4)) ∧ Below w.heap.size w w' :=
  rbytes_any x 4 w h0

/-- A row in the making, and six words beside it. -/
structure OutS (w0 : World) (g : Nat) (a b c d e f : Int) (v : Value) (N : Nat) (zs : List Int) (wx : World) : Prop where
  out : OutB w0 v N zs wx
  wds : Blk wx g 22 (sC a b c d e f)

theorem OutS.below {w0 wx wy : World} {g : Nat} {a b c d e f : Int} {v : Value} {N : Nat} {zs : List Int} (h : OutS w0 g a b c d e f v N zs wx) (hb : Below wx.heap.size wx wy) : OutS w0 g a b c d e f v N zs wy :=
  ⟨h.out.below hb, h.wds.below hb h.wds.lt⟩
theorem OutS.app {w0 wx wy : World} {g : Nat} {a b c d e f : Int} {v v' : Value} {N M : Nat} {zs ys : List Int} (h : OutS w0 g a b c d e f v N zs wx) (ho : wy.ownsRow w0.heap.size 5 1 v' (N + M) (cellsOf .u8 zs ++ cellsOf .u8 ys)) (hg : wx.grownBy wy v.ownBlock) : OutS w0 g a b c d e f v' (N + M) (zs ++ ys) wy :=
  ⟨h.out.app ho hg, h.wds.grown hg (fun e2 => own_blk_ne h.out.own h.wds (by decide) e2.symm)⟩
theorem OutS.word {w0 wx : World} {g : Nat} {a b c d e f : Int} {v : Value} {N : Nat} {zs : List Int} (h : OutS w0 g a b c d e f v N zs wx) {j : Nat} (hj : j < 6) : wx.cell? ⟨g, j, none⟩ = some (.int .u64 ([a, b, c, d, e, f].getD j 0)) := by
  rw [h.wds.cell]
  match j, hj with
  | 0, _ | 1, _ | 2, _ | 3, _ | 4, _ | 5, _ => rfl
  | n + 6, h => omega

theorem outS_start (w : World) (a b c d e f : Int) : OutS w w.heap.size a b c d e f (.slice none 0 0) 0 [] (w.alloc (.cells (sC a b c d e f) 22)) :=
  ⟨⟨World.ownsRow_nil _ _ _ _, boxed _ _⟩, Blk.new w 22 _⟩

set_option maxHeartbeats 2000000 in
theorem rsenc_yes (a b c d e f : Int) (w : World) (hr : rightS a b f = true) (h6 : ∀ j, 0 ≤ [a, b, c, d, e, f].getD j 0 ∧ [a, b, c, d, e, f].getD j 0 < 18446744073709551616) :
    Calls Try.prog 10 #[sV a b c d e f] w (Told (encW [a, b, c, d, e, f]) w) := by
  obtain ⟨i0, hi0, hz0, hz1, hz2⟩ := info_parts byteInfo
  have R1 := Lib.hid (fun wx => rsright_any a b c d e f wx (h6 0).1 (h6 1).1)
  rw [hr] at R1
  have HB6 := Lib.hid h6
  have HT : Hid (∀ j, j < 6 → wordsB ([a, b, c, d, e, f].take (j + 1)) = wordsB ([a, b, c, d, e, f].take j) ++ bts ([a, b, c, d, e, f].getD j 0) 8) := fun j hj => wordsB_take (by simpa using hj)
  have HW : Hid (wordsB ([a, b, c, d, e, f].take 6) = wordsB [a, b, c, d, e, f]) := rfl
  have LB := Lib.hid (wordsB_bytes [a, b, c, d, e, f])
  have HE := Lib.hid (encW_length (l := [a, b, c, d, e, f]) rfl)
  have HZ : Hid (∀ s : Nat, s = crcAdd 0 (wordsB [a, b, c, d, e, f]) → wordsB [a, b, c, d, e, f] ++ bts (s : Int) 4 ++ List.replicate 12 0 = encW [a, b, c, d, e, f]) := fun s hs => by subst hs; rfl
  have HS := Lib.hid (crcAdd_lt (s := 0) (zs := wordsB [a, b, c, d, e, f]) (by omega) (wordsB_bytes [a, b, c, d, e, f]))
  obtain ⟨s, hs⟩ : ∃ s, Hid (s = crcAdd 0 (wordsB [a, b, c, d, e, f])) := ⟨_, rfl⟩
  rw [← hs.out] at HS
  have hs32 := HS.out
  have hws : IntKind.u64.wrap (s : Int) = s := by rw [IntKind.wrap_u64]; omega
  have HS8 : Hid (0 ≤ (s : Int) ∧ (s : Int) < 18446744073709551616) := ⟨by omega, by omega⟩
  generalize encW [a, b, c, d, e, f] = en at *
  clear hr h6
  go_enter Try.func10, Try.ntmps10
  go_wp2_with (first
    | (go_at_call 12; refine (R1.out _).mono ?_; rintro en0 wR ⟨rfl, hbR⟩; have HbR : Below w.heap.size w wR := (boxed _ _).trans (hbR.mono (by simp)); obtain ⟨x0, x1, x2, x3, x4, x5⟩ := slAt_of hbR; clear hbR))
  clear x0 x1 x2 x3 x4 x5
  go_loopw [4, 5] (fun v n wr => ∃ j : Nat, j ≤ 6 ∧ n = .int .i64 j ∧ OutS wR wR.heap.size a b c d e f v (8 * j) (wordsB ([a, b, c, d, e, f].take j)) wr) (fun _ n _ => 6 - (intOf n).toNat)
  case atStart => exact ⟨0, Nat.zero_le _, rfl, outS_start wR a b c d e f⟩
  case round =>
    obtain ⟨j, hj, rfl, hO⟩ := hrel
    by_cases hlt : j < 6
    · have hcell := hO.word hlt
      have hxw : Hid _ := HB6.out j
      have HTj := Lib.hid (HT.out j hlt)
      generalize [a, b, c, d, e, f].getD j 0 = x at hcell HTj hxw
      obtain ⟨A1, c1, rfl, _, _⟩ := own_form hO.out.own
      have s3 : 8 * j + 8 ≤ maxLen := by unfold maxLen; omega
      go_wp2_with (first
        | (go_at_call 26; refine (rbytes8 x _ hxw).mono ?_; rintro en0 w1 ⟨A2, c2, rfl, ho2, hb2⟩; have O1 := hO.below hb2; have ho1 := O1.out.own; have R2 := Reads.of_own ho2; have hb12 := O1.out.bel)
        | (at_builtin; refine wpList_append_any _ rfl _ _ _ rfl wR.heap.size 5 i0 (.int .u8 0) 1 1 Try.underlying26 hi0 hz0 hz1 hz2 rfl (Nat.lt_succ_self 0) (.slice A1 (8 * j) c1) (8 * j) (cellsOf .u8 (wordsB ([a, b, c, d, e, f].take j))) rfl ho1 w1.heap.size A2 8 c2 (cellsOf .u8 (bts x 8)) rfl R2 (cellsOf_one _ _) s3 (by omega) hb12.size ?_; intro v3 w3 ho3 hg3 hat3; have O3 := O1.app ho3 hg3; clear ho3 hg3 hat3 O1 R2 ho1 ho2 hb2 hb12))
      go_roundw
      case rel =>
        rw [← HTj.out] at O3
        exact ⟨j + 1, by omega, by go_num, O3⟩
      case measure => simp [intOf]; omega
    · obtain rfl : j = 6 := by omega
      rw [HW.out] at hO
      obtain ⟨A1, c1, rfl, hc11, hc12⟩ := own_form hO.out.own
      have R1 := Reads.of_own hO.out.own
      have hc13 : c1 ≤ 9223372036854775807 := by unfold maxLen at hc12; omega
      have s3 : 8 * 6 + 4 ≤ maxLen := by decide
      have O0 := hO.out
      go_wp2_with (first
        | (go_at_call 27; refine (rcrcAdd_any 0 A1 (8 * 6) c1 _ _ (by omega) R1 LB.out hc11 hc13).mono ?_; rintro en0 w1 ⟨rfl, rfl⟩; rw [← hs.out])
        | (go_at_call 26; refine (rbytes4s s _ HS8).mono ?_; rintro en0 w1 ⟨A2, c2, rfl, ho2, hb2⟩; have O1 := O0.below hb2; have ho1 := O1.own; have R2 := Reads.of_own ho2; have hb12 := O1.bel)
        | (at_builtin; refine wpList_append_any _ rfl _ _ _ rfl wR.heap.size 5 i0 (.int .u8 0) 1 1 Try.underlying26 hi0 hz0 hz1 hz2 rfl (Nat.lt_succ_self 0) (.slice A1 (8 * 6) c1) (8 * 6) (cellsOf .u8 (wordsB [a, b, c, d, e, f])) rfl ho1 w1.heap.size A2 4 c2 (cellsOf .u8 (bts s 4)) rfl R2 (cellsOf_one _ _) s3 (by omega) hb12.size ?_; intro v3 w3 ho3 hg3 hat3; have O3 := O1.app ho3 hg3; clear ho3 hg3 hat3 O1 R2 ho1 ho2 hb2 hb12))
      clear hO O0 R1
      go_loopw [4] (fun v wr => ∃ z N : Nat, Hid (N = 52 + z ∧ z ≤ 12) ∧ OutB wR v N (wordsB [a, b, c, d, e, f] ++ bts (s : Int) 4 ++ List.replicate z 0) wr) (fun v _ => 64 - vlen v)
      case atStart => exact ⟨0, 52, ⟨rfl, Nat.zero_le _⟩, by simpa using O3⟩
      case round =>
        clear O3
        obtain ⟨z, N, hN, hO⟩ := hrel
        have hNb : N ≤ 64 := by have h := hN.out; omega
        obtain ⟨A1, c1, rfl, hc11, hc12⟩ := own_form hO.own
        by_cases hz : N < 64
        · have s3 : N + 1 ≤ maxLen := by unfold maxLen; omega
          have s4 : wR.heap.size ≤ (wr.alloc (.cells #[Value.int IntKind.u8 0] 5)).heap.size := by have := hO.bel.size; simp; omega
          have O1 := hO.below (wy := wr.alloc (.cells #[Value.int IntKind.u8 0] 5)) ((Below.refl _ _).alloc (Nat.le_refl _) _)
          go_wp2_with (at_builtin; refine wpList_append_any _ rfl _ _ _ rfl wR.heap.size 5 i0 (.int .u8 0) 1 1 Try.underlying26 hi0 hz0 hz1 hz2 rfl (Nat.lt_succ_self 0) (.slice A1 N c1) N (cellsOf .u8 (wordsB [a, b, c, d, e, f] ++ bts (s : Int) 4 ++ List.replicate z 0)) rfl O1.own (wr.heap.size + 1) _ 1 1 (cellsOf .u8 [0]) rfl (Reads.new1 _ _ _) (one_oneCell _ _) s3 (by omega) s4 ?_; intro v3 w3 ho3 hg3 hat3; have O3 := O1.app ho3 hg3; clear ho3 hg3 hat3)
          obtain ⟨A3, c3, rfl, _, _⟩ := own_form O3.own
          go_roundw
          case rel =>
            rw [List.append_assoc, ← List.replicate_succ'] at O3
            exact ⟨z + 1, N + 1, by show _ ∧ _; have h := hN.out; omega, O3⟩
          case measure => simp [vlen]; omega
        · obtain rfl : N = 64 := by omega
          obtain rfl : z = 12 := by have h := hN.out; omega
          go_wp2
          go_ret
          have hO2 := hO.own
          rw [HZ.out s hs.out] at hO2
          exact ⟨A1, 64, c1, rfl, HE.out.symm, own_base hO2 HbR.size, HbR.trans (hO.bel.mono HbR.size), hc11, by unfold maxLen at hc12; omega⟩

theorem rsenc_no (a b c d e f : Int) (w : World) (hr : rightS a b f = false) (ha : 0 ≤ a) (hb : 0 ≤ b) :
    Calls Try.prog 10 #[sV a b c d e f] w (Told [] w) := by
  have R1 := Lib.hid (fun wx => rsright_any a b c d e f wx ha hb)
  rw [hr] at R1
  clear hr ha hb
  go_enter Try.func10, Try.ntmps10
  go_wp2_with (go_at_call 12; refine (R1.out _).mono ?_; rintro en0 wR ⟨rfl, hbR⟩)
  go_ret
  exact Told.nil _ _ ((boxed _ _).trans (hbR.mono (by simp)))

/-- The document's Encode: the same bytes. -/
theorem rsenc_any (a b c d e f : Int) (w : World) (h6 : ∀ j, 0 ≤ [a, b, c, d, e, f].getD j 0 ∧ [a, b, c, d, e, f].getD j 0 < 18446744073709551616) :
    Calls Try.prog 10 #[sV a b c d e f] w (Told (encS a b c d e f) w) := by
  unfold encS
  by_cases hr : rightS a b f = true
  · rw [if_pos hr]; exact rsenc_yes a b c d e f w hr h6
  · rw [if_neg hr]; exact rsenc_no a b c d e f w (by simpa using hr) (h6 0).1 (h6 1).1

end Go.Proofs.Ytdajjkjpjhpnjaa
