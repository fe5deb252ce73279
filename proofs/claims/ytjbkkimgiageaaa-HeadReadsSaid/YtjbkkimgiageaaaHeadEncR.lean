/-
  LAYER 10: THE DOCUMENT'S Encode: its contract, for every input.
-/
import Derived.Test.YtjbkkimgiageaaaHeadEnc
set_option linter.unusedVariables false
set_option linter.unusedSimpArgs false
namespace Go.Proofs.Ytjbkkimgiageaaa
open Go.RowKit

theorem rbytes4 (x : Int) (w : World) (h0 : Hid (0 ≤ x ∧ x < 18446744073709551616)) : Calls Try.prog 29 #[.int .u64 x, .int .i64 4] w fun e w' =>
    ∃ A c, e = .returned (.slice A 4 c) ∧ w'.ownsRow w.heap.size 5 1 (.slice A 4 c) 4 (cellsOf .u8 (bts x 4)) ∧ Below w.heap.size w w' :=
  rbytes_any x 4 w h0

/-- A row in the making, and five words beside it. -/
structure OutW (w0 : World) (g : Nat) (a b c d e : Int) (v : Value) (N : Nat) (zs : List Int) (wx : World) : Prop where
  out : OutB w0 v N zs wx
  wds : Blk wx g 22 #[.int .u64 a, .int .u64 b, .int .u64 c, .int .u64 d, .int .u64 e]

theorem OutW.below {w0 wx wy : World} {g : Nat} {a b c d e : Int} {v : Value} {N : Nat} {zs : List Int} (h : OutW w0 g a b c d e v N zs wx) (hb : Below wx.heap.size wx wy) : OutW w0 g a b c d e v N zs wy :=
  ⟨h.out.below hb, h.wds.below hb h.wds.lt⟩
theorem OutW.app {w0 wx wy : World} {g : Nat} {a b c d e : Int} {v v' : Value} {N M : Nat} {zs ys : List Int} (h : OutW w0 g a b c d e v N zs wx) (ho : wy.ownsRow w0.heap.size 5 1 v' (N + M) (cellsOf .u8 zs ++ cellsOf .u8 ys)) (hg : wx.grownBy wy v.ownBlock) : OutW w0 g a b c d e v' (N + M) (zs ++ ys) wy :=
  ⟨h.out.app ho hg, h.wds.grown hg (fun e2 => own_blk_ne h.out.own h.wds (by decide) e2.symm)⟩
theorem OutW.word {w0 wx : World} {g : Nat} {a b c d e : Int} {v : Value} {N : Nat} {zs : List Int} (h : OutW w0 g a b c d e v N zs wx) {j : Nat} (hj : j < 5) : wx.cell? ⟨g, j, none⟩ = some (.int .u64 ([a, b, c, d, e].getD j 0)) := by
  rw [h.wds.cell]
  match j, hj with
  | 0, _ | 1, _ | 2, _ | 3, _ | 4, _ => rfl
  | n + 5, h => omega

/-- The words of a row of given bytes and of given words, made one behind the other. -/
theorem outW_start (w : World) (a b c d e : Int) :
    OutW w (w.heap.size + 1) a b c d e (.slice (some ⟨w.heap.size, 0, none⟩) 8 8) 8 magicB ((w.alloc (.cells magicC 5)).alloc (.cells #[.int .u64 a, .int .u64 b, .int .u64 c, .int .u64 d, .int .u64 e] 22)) := by
  have h0 : OutB w (.slice (some ⟨w.heap.size, 0, none⟩) 8 8) 8 magicB (w.alloc (.cells magicC 5)) :=
    ⟨World.ownsRow_lit w magicC 8 (Nat.le_refl _) (by decide) rfl, boxed _ _⟩
  refine ⟨h0.below (boxed _ _), ?_⟩
  have h := Blk.new (w.alloc (.cells magicC 5)) 22 #[.int .u64 a, .int .u64 b, .int .u64 c, .int .u64 d, .int .u64 e]
  rwa [World.size_alloc] at h

set_option maxRecDepth 100000 in
set_option maxHeartbeats 2000000 in
theorem rhenc_yes (i k d f m : Int) (w : World) (hr : rightH d f = true) (hi : 0 ≤ i ∧ i < 18446744073709551616) (hk : 0 ≤ k ∧ k < 18446744073709551616) (hm : 0 ≤ m ∧ m < 18446744073709551616) :
    Calls Try.prog 10 #[hdV i k d f m] w (Told (encH i k d f m) w) := by
  obtain ⟨i0, hi0, hz0, hz1, hz2⟩ := info_parts byteInfo
  have hbd := rightH_bd hr
  have R1 := Lib.hid (rhright_any i k d f m)
  rw [hr] at R1
  have hwd : IntKind.u64.wrap d = d := by rw [IntKind.wrap_u64]; omega
  have hwf : IntKind.u64.wrap f = f := by rw [IntKind.wrap_u64]; omega
  have HB5 : Hid (∀ j, 0 ≤ [i, k, d, f, m].getD j 0 ∧ [i, k, d, f, m].getD j 0 < 18446744073709551616) := fun j => by
    match j with
    | 0 => exact hi
    | 1 => exact hk
    | 2 => exact (⟨by omega, by omega⟩ : 0 ≤ d ∧ d < 18446744073709551616)
    | 3 => exact (⟨by omega, by omega⟩ : 0 ≤ f ∧ f < 18446744073709551616)
    | 4 => exact hm
    | n + 5 => exact (⟨by omega, by omega⟩ : (0 : Int) ≤ 0 ∧ (0 : Int) < 18446744073709551616)
  have HT : Hid (∀ j, j < 5 → wordsB ([i, k, d, f, m].take (j + 1)) = wordsB ([i, k, d, f, m].take j) ++ bts ([i, k, d, f, m].getD j 0) 8) := fun j hj => wordsB_take (by simpa using hj)
  have HW : Hid (magicB ++ wordsB ([i, k, d, f, m].take 5) = wordsH i k d f m) := rfl
  have LB := Lib.hid (wordsH_bytes i k d f m)
  have HZ : Hid (∀ s : Nat, s = crcAdd 0 (wordsH i k d f m) → wordsH i k d f m ++ bts (s : Int) 4 ++ List.replicate 12 0 = encH i k d f m) := fun s hs => by subst hs; rfl
  have HS := Lib.hid (crcAdd_lt (s := 0) (zs := wordsH i k d f m) (by omega) (wordsH_bytes i k d f m))
  obtain ⟨s, hs⟩ : ∃ s, Hid (s = crcAdd 0 (wordsH i k d f m)) := ⟨_, rfl⟩
  rw [← hs.out] at HS
  have hs32 := HS.out
  have hws : IntKind.u64.wrap (s : Int) = s := by rw [IntKind.wrap_u64]; omega
  have HS8 : Hid (0 ≤ (s : Int) ∧ (s : Int) < 18446744073709551616) := ⟨by omega, by omega⟩
  clear hr hi hk hm
  go_enter Try.func10, Try.ntmps10
  go_wp2_with (first
    | (go_at_call 12; refine (R1.out _).mono ?_; rintro e wR ⟨rfl, hbR⟩; have HbR : Below w.heap.size w wR := (boxed _ _).trans (hbR.mono (by simp)); obtain ⟨x0, x1, x2, x3, x4⟩ := hdAt_of (hbR.trans ((boxed wR (.cells #[.int .u8 76, .int .u8 79, .int .u8 71, .int .u8 66, .int .u8 79, .int .u8 79, .int .u8 75, .int .u8 49] 5)).mono hbR.size)); clear hbR))
  clear x0 x1 x2 x3 x4
  go_loopw [3, 5] (fun v n wr => ∃ j : Nat, j ≤ 5 ∧ n = .int .i64 j ∧ OutW wR (wR.heap.size + 1) i k d f m v (8 + 8 * j) (magicB ++ wordsB ([i, k, d, f, m].take j)) wr) (fun _ n _ => 5 - (intOf n).toNat)
  case atStart => exact ⟨0, Nat.zero_le _, rfl, outW_start wR i k d f m⟩
  case round =>
    obtain ⟨j, hj, rfl, hO⟩ := hrel
    by_cases hlt : j < 5
    · have hcell := hO.word hlt
      have hxw : Hid _ := HB5.out j
      have HTj := Lib.hid (HT.out j hlt)
      generalize [i, k, d, f, m].getD j 0 = x at hcell HTj hxw
      obtain ⟨A1, c1, rfl, _, _⟩ := own_form hO.out.own
      have s3 : 8 + 8 * j + 8 ≤ maxLen := by unfold maxLen; omega
      go_wp2_with (first
        | (go_at_call 29; refine (rbytes8 x _ hxw).mono ?_; rintro e w1 ⟨A2, c2, rfl, ho2, hb2⟩; have O1 := hO.below hb2; have ho1 := O1.out.own; have R2 := Reads.of_own ho2; have hb12 := O1.out.bel)
        | (at_builtin; refine wpList_append_any _ rfl _ _ _ rfl wR.heap.size 5 i0 (.int .u8 0) 1 1 Try.underlying30 hi0 hz0 hz1 hz2 rfl (Nat.lt_succ_self 0) (.slice A1 (8 + 8 * j) c1) (8 + 8 * j) (cellsOf .u8 (magicB ++ wordsB ([i, k, d, f, m].take j))) rfl ho1 w1.heap.size A2 8 c2 (cellsOf .u8 (bts x 8)) rfl R2 (cellsOf_one _ _) s3 (by omega) hb12.size ?_; intro v3 w3 ho3 hg3 hat3; have O3 := O1.app ho3 hg3; clear ho3 hg3 hat3 O1 R2 ho1 ho2 hb2 hb12))
      go_roundw
      case rel =>
        rw [List.append_assoc, ← HTj.out] at O3
        exact ⟨j + 1, by omega, by go_num, O3⟩
      case measure => simp [intOf]; omega
    · obtain rfl : j = 5 := by omega
      rw [HW.out] at hO
      obtain ⟨A1, c1, rfl, hc11, hc12⟩ := own_form hO.out.own
      have R1 := Reads.of_own hO.out.own
      have hc13 : c1 ≤ 9223372036854775807 := by unfold maxLen at hc12; omega
      have s3 : 8 + 8 * 5 + 4 ≤ maxLen := by decide
      have O0 := hO.out
      go_wp2_with (first
        | (go_at_call 30; refine (rcrcAdd_any 0 A1 (8 + 8 * 5) c1 _ _ (by omega) R1 LB.out hc11 hc13).mono ?_; rintro e w1 ⟨rfl, rfl⟩; rw [← hs.out])
        | (go_at_call 29; refine (rbytes4 s _ HS8).mono ?_; rintro e w1 ⟨A2, c2, rfl, ho2, hb2⟩; have O1 := O0.below hb2; have ho1 := O1.own; have R2 := Reads.of_own ho2; have hb12 := O1.bel)
        | (at_builtin; refine wpList_append_any _ rfl _ _ _ rfl wR.heap.size 5 i0 (.int .u8 0) 1 1 Try.underlying30 hi0 hz0 hz1 hz2 rfl (Nat.lt_succ_self 0) (.slice A1 (8 + 8 * 5) c1) (8 + 8 * 5) (cellsOf .u8 (wordsH i k d f m)) rfl ho1 w1.heap.size A2 4 c2 (cellsOf .u8 (bts s 4)) rfl R2 (cellsOf_one _ _) s3 (by omega) hb12.size ?_; intro v3 w3 ho3 hg3 hat3; have O3 := O1.app ho3 hg3; clear ho3 hg3 hat3 O1 R2 ho1 ho2 hb2 hb12))
      clear hO O0 R1
      go_loopw [3] (fun v wr => ∃ z N : Nat, Hid (N = 52 + z ∧ z ≤ 12) ∧ OutB wR v N (wordsH i k d f m ++ bts (s : Int) 4 ++ List.replicate z 0) wr) (fun v _ => 64 - vlen v)
      case atStart => exact ⟨0, 52, ⟨rfl, Nat.zero_le _⟩, by simpa using O3⟩
      case round =>
        clear O3
        obtain ⟨z, N, hN, hO⟩ := hrel
        have hNb : N ≤ 64 := by have h := hN.out; omega
        obtain ⟨A1, c1, rfl, hc11, hc12⟩ := own_form hO.own
        by_cases hz : N < 64
        · have s3 : N + 1 ≤ maxLen := by unfold maxLen; omega
          have s4 : wR.heap.size ≤ (wr.alloc (.cells #[Value.int IntKind.u8 0] 5)).heap.size := by have := hO.bel.size; simp; omega
          have O1 := hO.below (wy := wr.alloc (.cells #[Value.int IntKind.u8 0] 5)) ((Below.refl _ _).alloc (Nat.le_refl _) _)
          go_wp2_with (at_builtin; refine wpList_append_any _ rfl _ _ _ rfl wR.heap.size 5 i0 (.int .u8 0) 1 1 Try.underlying30 hi0 hz0 hz1 hz2 rfl (Nat.lt_succ_self 0) (.slice A1 N c1) N (cellsOf .u8 (wordsH i k d f m ++ bts (s : Int) 4 ++ List.replicate z 0)) rfl O1.own (wr.heap.size + 1) _ 1 1 (cellsOf .u8 [0]) rfl (Reads.new1 _ _ _) (one_oneCell _ _) s3 (by omega) s4 ?_; intro v3 w3 ho3 hg3 hat3; have O3 := O1.app ho3 hg3; clear ho3 hg3 hat3)
          obtain ⟨A3, c3, rfl, _, _⟩ := own_form O3.own
          go_roundw
          case rel =>
            rw [List.append_assoc, ← List.replicate_succ'] at O3
            exact ⟨z + 1, N + 1, by show _ ∧ _; have h := hN.out; omega, O3⟩
          case measure => simp [vlen]; omega
        · obtain rfl : N = 64 := by omega
          obtain rfl : z = 12 := by have h := hN.out; omega
          go_wp2
          go_ret
          have hO2 := hO.own
          rw [HZ.out s hs.out] at hO2
          exact ⟨A1, 64, c1, rfl, (encH_length i k d f m).symm, own_base hO2 HbR.size, HbR.trans (hO.bel.mono HbR.size), hc11, by unfold maxLen at hc12; omega⟩

theorem rhenc_no (i k d f m : Int) (w : World) (hr : rightH d f = false) :
    Calls Try.prog 10 #[hdV i k d f m] w (Told [] w) := by
  have R1 := Lib.hid (rhright_any i k d f m)
  rw [hr] at R1
  clear hr
  go_enter Try.func10, Try.ntmps10
  go_wp2_with (go_at_call 12; refine (R1.out _).mono ?_; rintro e wR ⟨rfl, hbR⟩)
  go_ret
  exact Told.nil _ _ ((boxed _ _).trans (hbR.mono (by simp)))

/-- The document's Encode: the same bytes. -/
theorem rhenc_any (i k d f m : Int) (w : World) (hi : 0 ≤ i ∧ i < 18446744073709551616) (hk : 0 ≤ k ∧ k < 18446744073709551616) (hm : 0 ≤ m ∧ m < 18446744073709551616) :
    Calls Try.prog 10 #[hdV i k d f m] w (Told (encHR i k d f m) w) := by
  unfold encHR
  by_cases hr : rightH d f = true
  · rw [if_pos hr]; exact rhenc_yes i k d f m w hr hi hk hm
  · rw [if_neg hr]; exact rhenc_no i k d f m w (by simpa using hr)

end Go.Proofs.Ytjbkkimgiageaaa
