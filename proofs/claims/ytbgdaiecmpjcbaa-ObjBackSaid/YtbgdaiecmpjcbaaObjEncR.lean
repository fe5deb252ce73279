/-
  LAYER 9: THE DOCUMENT'S Encode: its contract, for every input.
-/
import Derived.Test.YtbgdaiecmpjcbaaObjEnc
set_option linter.unusedVariables false
set_option linter.unusedSimpArgs false
namespace Go.Proofs.Ytbgdaiecmpjcbaa
open Go.RowKit

/-- A row that a call is making: these bytes, N of them, in a row of its own. -/
structure OutAt (w0 : World) (v : Value) (N : Nat) (zs : List Int) (wx : World) : Prop where
  own : wx.ownsRow w0.heap.size 5 1 v N (cellsOf .u8 zs)
  bel : Below w0.heap.size w0 wx

theorem OutAt.len {w0 wx : World} {v : Value} {N : Nat} {zs : List Int} (h : OutAt w0 v N zs wx) : zs.length = N := by
  have := h.own.1; rw [cellsOf_length] at this; omega
theorem OutAt.below {w0 wx wy : World} {v : Value} {N : Nat} {zs : List Int} (h : OutAt w0 v N zs wx) (hb : Below wx.heap.size wx wy) : OutAt w0 v N zs wy :=
  ⟨own_below h.own hb, h.bel.trans (hb.mono h.bel.size)⟩
theorem OutAt.app {w0 wx wy : World} {v v' : Value} {N M : Nat} {zs ys : List Int} (h : OutAt w0 v N zs wx) (ho : wy.ownsRow w0.heap.size 5 1 v' (N + M) (cellsOf .u8 zs ++ cellsOf .u8 ys)) (hg : wx.grownBy wy v.ownBlock) : OutAt w0 v' (N + M) (zs ++ ys) wy :=
  ⟨by rw [cellsOf_append]; exact ho, own_grown h.bel h.own (Nat.le_refl _) h.bel.size hg⟩

theorem rbytes8 (x : Int) (w : World) (h0 : Hid (0 ≤ x ∧ x < 18446744073709551616)) : Calls Try.prog 31 #[.int .u64 x, .int .i64 8] w fun e w' =>
    ∃ A c, e = .returned (.slice A 8 c) ∧ w'.ownsRow w.heap.size 5 1 (.slice A 8 c) 8 (cellsOf .u8 (bts x 8)) ∧ Below w.heap.size w w' :=
  rbytes_any x 8 w h0

theorem wordsB_two (a b : Int) : wordsB [a, b] = bts a 8 ++ bts b 8 := by simp [wordsB]

/-- How long a slice is. -/
def vlen : Value → Nat
  | .slice _ n _ => n
  | _ => 0

set_option maxRecDepth 100000 in
set_option maxHeartbeats 4000000 in
theorem roenc_yes {L : Nat} (k : Int) (A : Option Addr) (n c : Nat) (ws : List Int) (B : Option Addr) (m d : Nat) (rs : List Int) (C : Option Addr) (p q : Nat) (is : List Int) (w : World) (h : ObR w L A n c ws B m d rs C p q is) (hL : L ≤ w.heap.size) (hr : rightN k n m p = true)
    (hw1 : ∀ z ∈ ws, 0 ≤ z ∧ z < 18446744073709551616) (hw2 : ∀ z ∈ is, 0 ≤ z ∧ z < 18446744073709551616) :
    Calls Try.prog 11 #[obV k A n c B m d C p q] w (Told (encO k ws rs is) w) := by
  obtain ⟨i0, hi, hz0, hz1, hz2⟩ := info_parts byteInfo
  have hk := rightN_kind hr
  obtain ⟨hn, l2, l3, l4⟩ := rightN_len hr
  have R1 := Lib.hid (rright_any k A n c B m d C p q)
  rw [hr] at R1
  obtain ⟨s, hs⟩ : ∃ s : Nat, 16 + 8 * n + m + 8 * p = s := ⟨_, rfl⟩
  have hsb : bareN k m p = s := by unfold bareN frontN; rw [← hn]; omega
  have hs1 : s ≤ 10000 := by omega
  have hlw := h.wr.len
  have hlr := h.rr.len
  have hli := h.ir.len
  have HLW := Lib.hid hlw
  have HLI := Lib.hid hli
  have HZ : Hid (∀ z : Nat, z = padn s 8 → bts k 8 ++ bts (s : Int) 8 ++ wordsB ws ++ rs ++ wordsB is ++ List.replicate z 0 = encO k ws rs is) := fun z hz => by
    unfold encO
    rw [headO_length, hlw, hlr, hli, hs, hz]
    unfold headO
    rw [wordsB_two, hlr, hli, hsb]
  have HS := Lib.hid hs
  have H0 := Lib.hid h
  have HW1 : Hid (∀ j, 0 ≤ ws.getD j 0 ∧ ws.getD j 0 < 18446744073709551616) := fun j => by
    rw [List.getD_eq_getElem?_getD]
    by_cases hj : j < ws.length
    · rw [List.getElem?_eq_getElem hj]; exact hw1 _ (List.getElem_mem hj)
    · rw [List.getElem?_eq_none (by omega)]; simp
  have HW2 : Hid (∀ j, 0 ≤ is.getD j 0 ∧ is.getD j 0 < 18446744073709551616) := fun j => by
    rw [List.getD_eq_getElem?_getD]
    by_cases hj : j < is.length
    · rw [List.getElem?_eq_getElem hj]; exact hw2 _ (List.getElem_mem hj)
    · rw [List.getElem?_eq_none (by omega)]; simp
  clear h hr hlw hlr hli hw1 hw2 hsb hn
  have hwk : IntKind.u64.wrap k = k := by rw [IntKind.wrap_u64]; omega
  have hws : IntKind.u64.wrap (s : Int) = s := by rw [IntKind.wrap_u64]; omega
  have hsz : (16 : Int) + 8 * n + m + 8 * p = s := by omega
  clear hs
  have HK8 : Hid (0 ≤ k ∧ k < 18446744073709551616) := ⟨by omega, by omega⟩
  have HS8 : Hid (0 ≤ (s : Int) ∧ (s : Int) < 18446744073709551616) := ⟨by omega, by omega⟩
  have s2 : 8 + 8 ≤ maxLen := by decide
  go_enter Try.func11, Try.ntmps11
  have m1 : True := trivial
  go_wp2_with (first
    | (go_at_call 14; refine (R1.out _ (by omega) (by omega) (by omega)).mono ?_; rintro e wR ⟨rfl, hbR⟩; have HbR : Below w.heap.size w wR := ((Below.refl _ _).alloc (Nat.le_refl _) _).trans (hbR.mono (by simp)); have HO := Lib.hid (fun wx (hx : Below wR.heap.size wR wx) => obAt_of (hbR.trans (hx.mono hbR.size))); obtain ⟨k00, k01, k02, k03⟩ := HO.out _ (Below.refl _ _); have H1 := Lib.hid (H0.out.below HbR hL); have hL2 : L ≤ wR.heap.size := Nat.le_trans hL HbR.size; clear hbR)
    | (go_at_call 31; clear m1; refine (rbytes8 k _ HK8).mono ?_; rintro e w1 ⟨A1, c1, rfl, ho1, hb1⟩)
    | (go_at_call 31; refine (rbytes8 s _ HS8).mono ?_; rintro e w2 ⟨A2, c2, rfl, ho2, hb2⟩; have O1 : OutAt wR (.slice A1 8 c1) 8 (bts k 8) w2 := OutAt.below ⟨ho1, hb1⟩ hb2; have ho1' := O1.own; have R2 := Reads.of_own ho2; have hb12 := O1.bel)
    | (at_builtin; refine wpList_append_any _ rfl _ _ _ rfl wR.heap.size 5 i0 (.int .u8 0) 1 1 Try.underlying23 hi hz0 hz1 hz2 rfl (Nat.lt_succ_self 0) (.slice A1 8 c1) 8 (cellsOf .u8 (bts k 8)) rfl ho1' w2.heap.size A2 8 c2 (cellsOf .u8 (bts s 8)) rfl R2 (cellsOf_one _ _) s2 (by omega) hb12.size ?_; intro v3 w3 ho3 hg3 hat3; have O3 := O1.app ho3 hg3; clear ho3 hg3 hat3 O1 R2 ho1' ho1 ho2 hb1 hb2 hb12 k00 k01 k02 k03))
  go_loopw [4, 5] (fun v i wr => ∃ j : Nat, j ≤ n ∧ i = .int .i64 j ∧ OutAt wR v (16 + 8 * j) (bts k 8 ++ bts (s : Int) 8 ++ wordsB (ws.take j)) wr) (fun _ i _ => n - (intOf i).toNat)
  case atStart => exact ⟨0, Nat.zero_le _, rfl, by simpa [wordsB] using O3⟩
  case round =>
    clear O3
    obtain ⟨j, hj, rfl, hO⟩ := hrel
    obtain ⟨k00, k01, k02, k03⟩ := HO.out _ hO.bel
    by_cases hlt : j < n
    · have hww := (H1.out.below hO.bel hL2).wr
      have HT := Lib.hid (wordsB_take (l := ws) (k := j) (by rw [HLW.out]; exact hlt))
      obtain ⟨b, off, e, hbb, hcc⟩ := hww.plain (by omega)
      have hcell := hcc j hlt
      have hxw : Hid _ := HW1.out j
      generalize ws.getD j 0 = x at hcell HT hxw
      subst e
      clear hcc hww
      obtain ⟨A1, c1, rfl, _, _⟩ := own_form hO.own
      have s3 : 16 + 8 * j + 8 ≤ maxLen := by unfold maxLen; omega
      go_wp2_with (first
        | (go_at_call 31; refine (rbytes8 x _ hxw).mono ?_; rintro e w1 ⟨A2, c2, rfl, ho2, hb2⟩; have O1 := hO.below hb2; have ho1 := O1.own; have R2 := Reads.of_own ho2; have hb12 := O1.bel)
        | (at_builtin; refine wpList_append_any _ rfl _ _ _ rfl wR.heap.size 5 i0 (.int .u8 0) 1 1 Try.underlying23 hi hz0 hz1 hz2 rfl (Nat.lt_succ_self 0) (.slice A1 (16 + 8 * j) c1) (16 + 8 * j) (cellsOf .u8 (bts k 8 ++ bts (s : Int) 8 ++ wordsB (ws.take j))) rfl ho1 w1.heap.size A2 8 c2 (cellsOf .u8 (bts x 8)) rfl R2 (cellsOf_one _ _) s3 (by omega) hb12.size ?_; intro v3 w3 ho3 hg3 hat3; have O3 := O1.app ho3 hg3; clear ho3 hg3 hat3 O1 R2 ho1 ho2 hb2 hb12))
      go_roundw
      case rel =>
        rw [List.append_assoc, ← HT.out] at O3
        exact ⟨j + 1, by omega, by go_num, O3⟩
      case measure => simp [intOf]; omega
    · have e : j = n := by omega
      subst e
      rw [List.take_of_length_le (by rw [HLW.out]; exact Nat.le_refl _)] at hO
      obtain ⟨A1, c1, rfl, _, _⟩ := own_form hO.own
      have ho1 := hO.own
      have hrr := (H1.out.below hO.bel hL2).rr
      have s3 : 16 + 8 * j + m ≤ maxLen := by unfold maxLen; omega
      go_wp2_with (at_builtin; refine wpList_append_any _ rfl _ _ _ rfl wR.heap.size 5 i0 (.int .u8 0) 1 1 Try.underlying23 hi hz0 hz1 hz2 rfl (Nat.lt_succ_self 0) (.slice A1 (16 + 8 * j) c1) (16 + 8 * j) (cellsOf .u8 (bts k 8 ++ bts (s : Int) 8 ++ wordsB ws)) rfl ho1 L B m d (cellsOf .u8 rs) rfl hrr (cellsOf_one _ _) s3 (by omega) hO.bel.size ?_; intro v3 w3 ho3 hg3 hat3; have O3 := hO.app ho3 hg3; clear ho3 hg3 hat3 ho1 hrr)
      clear hO k00 k01 k02 k03
      go_loopw [4, 6] (fun v i wr => ∃ j2 : Nat, j2 ≤ p ∧ i = .int .i64 j2 ∧ OutAt wR v (16 + 8 * j + m + 8 * j2) (bts k 8 ++ bts (s : Int) 8 ++ wordsB ws ++ rs ++ wordsB (is.take j2)) wr) (fun _ i _ => p - (intOf i).toNat)
      case atStart => exact ⟨0, Nat.zero_le _, rfl, by simpa [wordsB] using O3⟩
      case round =>
        clear O3
        obtain ⟨j2, hj2, rfl, hO⟩ := hrel
        obtain ⟨k00, k01, k02, k03⟩ := HO.out _ hO.bel
        by_cases hlt : j2 < p
        · have hww := (H1.out.below hO.bel hL2).ir
          have HT := Lib.hid (wordsB_take (l := is) (k := j2) (by rw [HLI.out]; exact hlt))
          obtain ⟨b, off, e, hbb, hcc⟩ := hww.plain (by omega)
          have hcell := hcc j2 hlt
          have hxw : Hid _ := HW2.out j2
          generalize is.getD j2 0 = x at hcell HT hxw
          subst e
          clear hcc hww
          obtain ⟨A1, c1, rfl, _, _⟩ := own_form hO.own
          have s3 : 16 + 8 * j + m + 8 * j2 + 8 ≤ maxLen := by unfold maxLen; omega
          go_wp2_with (first
            | (go_at_call 31; refine (rbytes8 x _ hxw).mono ?_; rintro e w1 ⟨A2, c2, rfl, ho2, hb2⟩; have O1 := hO.below hb2; have ho1 := O1.own; have R2 := Reads.of_own ho2; have hb12 := O1.bel)
            | (at_builtin; refine wpList_append_any _ rfl _ _ _ rfl wR.heap.size 5 i0 (.int .u8 0) 1 1 Try.underlying23 hi hz0 hz1 hz2 rfl (Nat.lt_succ_self 0) (.slice A1 (16 + 8 * j + m + 8 * j2) c1) (16 + 8 * j + m + 8 * j2) (cellsOf .u8 (bts k 8 ++ bts (s : Int) 8 ++ wordsB ws ++ rs ++ wordsB (is.take j2))) rfl ho1 w1.heap.size A2 8 c2 (cellsOf .u8 (bts x 8)) rfl R2 (cellsOf_one _ _) s3 (by omega) hb12.size ?_; intro v3 w3 ho3 hg3 hat3; have O3 := O1.app ho3 hg3; clear ho3 hg3 hat3 O1 R2 ho1 ho2 hb2 hb12))
          go_roundw
          case rel =>
            rw [List.append_assoc, ← HT.out] at O3
            exact ⟨j2 + 1, by omega, by go_num, O3⟩
          case measure => simp [intOf]; omega
        · have e : j2 = p := by omega
          subst e
          rw [List.take_of_length_le (by rw [HLI.out]; exact Nat.le_refl _), HS.out] at hO
          go_wp2
          clear k00 k01 k02 k03
          go_loopw [4] (fun v wr => ∃ z N : Nat, Hid (N = s + z ∧ z ≤ padn s 8) ∧ OutAt wR v N (bts k 8 ++ bts (s : Int) 8 ++ wordsB ws ++ rs ++ wordsB is ++ List.replicate z 0) wr) (fun v _ => s + 8 - vlen v)
          case atStart => exact ⟨0, s, ⟨rfl, Nat.zero_le _⟩, by simpa using hO⟩
          case round =>
            clear hO
            obtain ⟨z, N, hN, hO⟩ := hrel
            have hNb : N ≤ 10008 := by have h := hN.out; have := padn_eight s; omega
            obtain ⟨A1, c1, rfl, _, _⟩ := own_form hO.own
            have ho1 := hO.own
            by_cases hz : N % 8 = 0
            · have t1 : ((N : Int) % 8 == 0) = true := by simp; omega
              have t2 : (N : Int) % 8 = 0 := by omega
              have HZZ := Lib.hid hz
              clear hz
              go_wp2
              go_ret
              have e : z = padn s 8 := by have h := hN.out; have h2 := HZZ.out; have := padn_eight s; omega
              have hO2 := hO.own
              rw [HZ.out z e] at hO2
              exact ⟨A1, N, c1, rfl, by have := hO2.1; rw [cellsOf_length] at this; omega, own_base hO2 HbR.size, HbR.trans (hO.bel.mono HbR.size), by assumption, Nat.le_trans (show c1 ≤ maxLen by assumption) (by unfold maxLen; omega)⟩
            · have t1 : ((N : Int) % 8 == 0) = false := by simp; omega
              have t2 : ¬ (N : Int) % 8 = 0 := by omega
              have HZZ := Lib.hid hz
              clear hz
              have s3 : N + 1 ≤ maxLen := by unfold maxLen; omega
              have s4 : wR.heap.size ≤ (wr.alloc (.cells #[Value.int IntKind.u8 0] 5)).heap.size := by have := hO.bel.size; simp; omega
              have O1 := hO.below (wy := wr.alloc (.cells #[Value.int IntKind.u8 0] 5)) ((Below.refl _ _).alloc (Nat.le_refl _) _)
              go_wp2_with (at_builtin; refine wpList_append_any _ rfl _ _ _ rfl wR.heap.size 5 i0 (.int .u8 0) 1 1 Try.underlying23 hi hz0 hz1 hz2 rfl (Nat.lt_succ_self 0) (.slice A1 N c1) N (cellsOf .u8 (bts k 8 ++ bts (s : Int) 8 ++ wordsB ws ++ rs ++ wordsB is ++ List.replicate z 0)) rfl O1.own (wr.heap.size + 1) _ 1 1 (cellsOf .u8 [0]) rfl (Reads.new1 _ _ _) (one_oneCell _ _) s3 (by omega) s4 ?_; intro v3 w3 ho3 hg3 hat3; have O3 := O1.app ho3 hg3; clear ho3 hg3 hat3)
              obtain ⟨A3, c3, rfl, _, _⟩ := own_form O3.own
              go_roundw
              case rel =>
                rw [List.append_assoc, ← List.replicate_succ'] at O3
                exact ⟨z + 1, N + 1, by show _ ∧ _; have h := hN.out; have h2 := HZZ.out; have := padn_eight s; omega, O3⟩
              case measure => have h := hN.out; have h2 := HZZ.out; have := padn_eight s; simp [vlen]; omega

theorem roenc_no {L : Nat} (k : Int) (A : Option Addr) (n c : Nat) (ws : List Int) (B : Option Addr) (m d : Nat) (rs : List Int) (C : Option Addr) (p q : Nat) (is : List Int) (w : World) (h : ObR w L A n c ws B m d rs C p q is) (hr : rightN k n m p = false) :
    Calls Try.prog 11 #[obV k A n c B m d C p q] w (Told [] w) := by
  have h1 := h.wc
  have h2 := h.rc
  have h3 := h.ic
  have R1 := Lib.hid (rright_any k A n c B m d C p q)
  rw [hr] at R1
  clear h hr
  go_enter Try.func11, Try.ntmps11
  go_wp2_with (go_at_call 14; refine (R1.out _ (by omega) (by omega) (by omega)).mono ?_; rintro e wR ⟨rfl, hbR⟩)
  go_ret
  exact Told.nil _ _ (((Below.refl _ _).alloc (Nat.le_refl _) _).trans (hbR.mono (by simp)))

theorem roenc_any {L : Nat} (k : Int) (A : Option Addr) (n c : Nat) (ws : List Int) (B : Option Addr) (m d : Nat) (rs : List Int) (C : Option Addr) (p q : Nat) (is : List Int) (w : World) (h : ObR w L A n c ws B m d rs C p q is) (hL : L ≤ w.heap.size)
    (hw1 : ∀ z ∈ ws, 0 ≤ z ∧ z < 18446744073709551616) (hw2 : ∀ z ∈ is, 0 ≤ z ∧ z < 18446744073709551616) :
    Calls Try.prog 11 #[obV k A n c B m d C p q] w (Told (encR k ws rs is) w) := by
  have e1 := h.wr.len
  have e2 := h.rr.len
  have e3 := h.ir.len
  by_cases hr : rightN k n m p = true
  · have e : encR k ws rs is = encO k ws rs is := by unfold encR; rw [e1, e2, e3, hr]; rfl
    rw [e]
    exact roenc_yes k A n c ws B m d rs C p q is w h hL hr hw1 hw2
  · have hr : rightN k n m p = false := by simpa using hr
    have e : encR k ws rs is = [] := by unfold encR; rw [e1, e2, e3, hr]; rfl
    rw [e]
    exact roenc_no k A n c ws B m d rs C p q is w h hr

end Go.Proofs.Ytbgdaiecmpjcbaa
