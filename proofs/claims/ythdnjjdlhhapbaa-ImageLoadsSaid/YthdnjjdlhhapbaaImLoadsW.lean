/-
  LAYER 12: the walk of ImageLoads.
-/
import Derived.Test.YthdnjjdlhhapbaaImLoadsM
import Derived.Test.YthdnjjdlhhapbaaImPlaysW
set_option linter.unusedVariables false
set_option maxRecDepth 100000
set_option linter.unusedSimpArgs false
namespace Go.Proofs.Ythdnjjdlhhapbaa
open Go.RowKit

set_option maxHeartbeats 4000000 in
theorem loads_law (a b : Int) (A : Option Addr) (len cap : Nat) (zs : List Int) (ct : Int) (w : World) (h1 : (Lit.int .u8 a).wf = true) (h2 : (Lit.int .u8 b).wf = true) (hin : InInts w .u8 A len cap zs) (h4 : (Lit.int .u16 ct).wf = true) :
    Calls Try.prog 5 #[.int .u8 a, .int .u8 b, .slice A len cap, .int .u16 ct] w fun e w' => e = .returned (.bool true) ∧ Below w.heap.size w w' := by
  obtain ⟨i0, hi, hz0, hz1, hz2⟩ := info_parts byteInfo
  have ba := wf_u8_bd h1
  have bb := wf_u8_bd h2
  have bc : 0 ≤ ct ∧ ct < 65536 := by have := bounds_u16 h4; omega
  obtain ⟨D, hD⟩ : ∃ D, 1 + a % 8 = D := ⟨_, rfl⟩
  obtain ⟨F, hF⟩ : ∃ F, 1 + b % 8 = F := ⟨_, rfl⟩
  have hr : rightH D F = true := by unfold rightH; simp; omega
  have hle := hin.le
  have hcap := hin.cap
  have hlen := hin.reads.len
  have hzb : AreB zs := fun z hz => wf_u8_bd (hin.wf z hz)
  have HE := Lib.hid (fun w1 => heads_any a b D F w1 ba.1 ba.2 bb.1 bb.2 hD hF)
  have HBOX := Lib.hid (fun w1 wx hx => two_boxes w1 D F (wx := wx) hx)
  have RZ := Lib.hid (fun wx (hx : Below w.heap.size w wx) => hin.reads.below hx)
  obtain ⟨hK, hK1, hK2⟩ := newK_eq hr
  have hbd := rightH_bd hr
  have OB := Lib.hid (fun w1 => rhobjects_any 5 6 D F 0 w1 (by omega) hbd.2.1 (by omega) hbd.2.2.2)
  rw [hK] at OB
  have EN := Lib.hid (fun w1 => rhenc_yes 5 6 D F 0 w1 hr (by omega) (by omega) (by omega))
  have HLE := Lib.hid (encH_length 5 6 D F 0)
  have LNO := Lib.hid (fun (A1 : Option Addr) (n c : Nat) (w1 : World) (hn : n < newK D F) => iload_no 5 6 D F 0 A1 n c 1048576 w1 (.inr ⟨hr, by omega⟩))
  have LYES := Lib.hid (fun (B base : Nat) (A1 : Option Addr) (n c : Nat) (xs : List Int) (w1 : World) (hn : newK D F ≤ n) (hz : Reads w1 B 1 A1 n (cellsOf .u8 xs)) (hB : B ≤ w1.heap.size) (hl : n ≤ 10000) (hb : base ≤ w1.heap.size) => iload_yes (B := B) (base := base) 5 6 D F 0 A1 n c 1048576 xs w1 hr (by omega) hz hB (by omega) hb)
  have HEB := Lib.hid (encH_bytes 5 6 D F 0)
  generalize encH 5 6 D F 0 = eh at *
  generalize newK D F = K at *
  have t1 : IntKind.i64.wrap ct = ct := by rw [IntKind.wrap_i64]; omega
  have hZN := Lib.hid hzb
  have HZL := Lib.hid hlen
  clear h1 h2 h4 ba bb hD hF hr hbd hK hzb hlen
  by_cases h500 : 500 < len
  · have u0 : (500 : Int) < (len : Int) := by omega
    go_enter Try.func5, Try.ntmps5
    have m1 : True := trivial
    go_wp2_with (first
      | (go_at_call 7; refine (HE.out _).mono ?_; rintro e w2 ⟨rfl, hb2⟩; have hb2 := hb1.trans (hb2.mono hb1.size); have hb3 := (HBOX.out w2 _ (Below.refl _ _)).2.2.1; have hb3 := hb2.trans (hb3.mono hb2.size))
      | (go_at_call 6; clear m1; refine (awake_any _).mono ?_; rintro e w1 ⟨rfl, hb1⟩)
      | (go_at_call 6; refine (awake_any _).mono ?_; rintro e w5 ⟨rfl, hb5⟩; have hb5 := hb3.trans (hb5.mono hb3.size)))
    go_ret
    exact ⟨rfl, hb5⟩
  have u0 : ¬ (500 : Int) < (len : Int) := by omega
  obtain ⟨Z, hZ⟩ : ∃ Z, Z = K - 64 := ⟨_, rfl⟩
  have hZi : (K : Int) - 64 = (Z : Int) := by omega
  have hwz : IntKind.i64.wrap (Z : Int) = (Z : Int) := by rw [IntKind.wrap_i64]; omega
  have HZ : Hid (64 + Z = K ∧ 0 < Z ∧ K ≤ 4352 ∧ 272 ≤ K) := ⟨by omega, by omega, hK2, hK1⟩
  obtain ⟨N, hN⟩ : ∃ N, N = K + len := ⟨_, rfl⟩
  have HN := Lib.hid hN
  have s2 : K + len ≤ maxLen := by unfold maxLen; omega
  have s3 : (K + len) * 1 ≤ 140737488355328 := by omega
  have HLE2 : Hid ((cellsOf .u8 eh ++ List.replicate Z (Value.int .u8 0)) ++ cellsOf .u8 zs = cellsOf .u8 ((eh ++ List.replicate Z 0) ++ zs)) := by show _ = _; rw [cellsOf_append, cellsOf_append]; simp [cellsOf]
  have hkk : IntKind.i64.wrap ((N : Int) + 1) = (N : Int) + 1 := by rw [IntKind.wrap_i64]; omega
  obtain ⟨x, hx, hxn⟩ : ∃ x : Nat, ct % ((N : Int) + 1) = x ∧ x ≤ N := by
    have h0 := Int.emod_nonneg ct (show ((N : Int) + 1) ≠ 0 by omega)
    have h1 := Int.emod_lt_of_pos ct (show 0 < (N : Int) + 1 by omega)
    exact ⟨(ct % ((N : Int) + 1)).toNat, by omega, by omega⟩
  have hxt : ct.tmod ((N : Int) + 1) = (x : Int) := by rw [Int.tmod_eq_emod_of_nonneg bc.1, hx]
  obtain ⟨M, hM⟩ : ∃ M, M = N - x := ⟨_, rfl⟩
  have hMi : (N : Int) - (x : Int) = (M : Int) := by omega
  have hMN : M ≤ N := by omega
  have hwx : IntKind.i64.wrap (x : Int) = (x : Int) := by rw [IntKind.wrap_i64]; omega
  have hwM : IntKind.i64.wrap (M : Int) = (M : Int) := by rw [IntKind.wrap_i64]; omega
  have n0 : ((N : Int) + 1 == 0) = false := by simp; omega
  have c0 : 0 ≤ ct := bc.1
  have HMN : Hid (N ≤ 4852 ∧ M ≤ N) := ⟨by omega, hMN⟩
  clear hZ hK1 hK2 h500 hM hxn bc hN
  go_enter Try.func5, Try.ntmps5
  go_wp2_with (first
    | (go_at_call 7; refine (HE.out _).mono ?_; rintro e w2 ⟨rfl, hb2⟩; have hb2 := hb1.trans (hb2.mono hb1.size))
    | (go_at_call 6; refine (awake_any _).mono ?_; rintro e w1 ⟨rfl, hb1⟩))
  obtain ⟨wB, hwB⟩ : ∃ wB, (w2.alloc (.cells #[.int .u64 5, .int .u64 6, .int .i64 D, .int .i64 F, .int .u64 0] 27)).alloc (.cells #[.int .u64 5, .int .u64 6, .int .i64 D, .int .i64 F, .int .u64 0] 28) = wB := ⟨_, rfl⟩
  have HBX : Hid (∀ wx, Below wB.heap.size wB wx → HdAt wx w2.heap.size 5 6 D F 0 ∧ HdAt wx (w2.heap.size + 1) 5 6 D F 0 ∧ Below w.heap.size w wx) := fun wx hx => by
    rw [← hwB] at hx
    have h := HBOX.out w2 wx hx
    exact ⟨h.1, h.2.1, hb2.trans (h.2.2.1.mono hb2.size)⟩
  rw [hwB]
  clear hwB HBOX hb1 hb2
  have hb : Below wB.heap.size wB wB.drew := below_drewn (Below.refl _ _) 1
  have H0 := Lib.hid (HBX.out _ hb).2.1
  have m1 : True := trivial
  go_region_held3 (fun w' => HdAt w' (w2.heap.size + 1) 5 6 D F 0)
    (first | assumption | exact H0.out | exact (HBX.out _ hb).2.1)
    (first
      | (go_at_call 21; refine (EN.out _).mono ?_; rintro e wx ⟨A5, n5, c5, rfl, hn5, ho5, hbx, -, -⟩; rw [HLE.out] at hn5; subst hn5; have O5 := OutB.mk (own_base ho5 hb.size) (hb.trans (hbx.mono hb.size)); have hb := hb.trans (hbx.mono hb.size); clear ho5 hbx)
      | (go_at_call 22; refine (OB.out _).mono ?_; rintro e wy ⟨rfl, hby⟩; have hb := hb.trans (hby.mono hb.size); have O5 := O5.below hby; clear hby)
      | (obtain ⟨v2, w2', hr2, ho2, hg2, hat2⟩ := run_append_zeros_own (P := Try.prog) wy wB.heap.size 39 3 39 5 i0 (.int .u8 0) .i64 .i64 Try.underlying39 Try.underlying3 hi hz0 hz1 hz2 rfl rfl (.slice A5 64 c5) 64 _ O5.own Z HZ.out.2.1 (by have := HZ.out; omega) O5.bel.size; clear m1; refine step_of rfl (Lib.wp_append_run wy (.tmp 27) (.tmp 30) 39 3 rfl _ _ rfl rfl v2 w2' hr2 ?_); rw [HZ.out.1] at ho2; obtain ⟨A6, c6, rfl, -, -⟩ := own_form ho2; have hb2 := own_grown O5.bel O5.own (Nat.le_refl _) O5.bel.size hg2; have hk2 : HdAt w2' (w2.heap.size + 1) 5 6 D F 0 := (HBX.out _ hb2).2.1; have HO2 := Lib.hid (And.intro ho2 hb2); clear hr2 ho2 hg2 hat2 hb2)
      | (refine step_append_any _ rfl (.tmp 31) (.tmp 32) _ rfl wB.heap.size 5 i0 (.int .u8 0) 1 1 Try.underlying39 hi hz0 hz1 hz2 rfl (Nat.lt_succ_self 0) (.slice A6 K c6) K _ rfl HO2.out.1 w.heap.size A len cap (cellsOf .u8 zs) rfl (RZ.out _ (HBX.out _ HO2.out.2).2.2) (cellsOf_one _ _) s2 s3 HO2.out.2.size ?_; intro v3 w3 ho3 hg3 hat3; rw [HLE2.out, ← HN.out] at ho3; obtain ⟨A7, c7, rfl, hc7, hm7⟩ := own_form ho3; have hb3 := own_grown HO2.out.2 HO2.out.1 (Nat.le_refl _) HO2.out.2.size hg3; have hk3 : HdAt w3 (w2.heap.size + 1) 5 6 D F 0 := (HBX.out _ hb3).2.1; have HO3 := Lib.hid (And.intro ho3 hb3); clear ho3 hg3 hat3 hb3))
  have hr3 := HO3.out.2
  have RD := Reads.of_own (row_cut HO3.out.1 HMN.out.2)
  have e7 : (cellsOf .u8 ((eh ++ List.replicate Z 0) ++ zs)).take M = cellsOf .u8 (((eh ++ List.replicate Z 0) ++ zs).take M) := by simp [cellsOf]
  rw [e7] at RD
  have HRD := Lib.hid RD
  have hMc : M ≤ c7 := by omega
  have HHD := Lib.hid (HBX.out _ hr3).1
  obtain ⟨x0, x1, x2, x3, x4⟩ := (HBX.out _ hr3).1
  clear RD e7 hb hk2 hk3
  by_cases hlt : M < K
  · have u5 : (M : Int) < (K : Int) := by omega
    have hKK : Hid (M < K) := hlt
    have m2 : True := trivial
    go_wp2_with (first
      | (go_at_call 23; refine (LNO.out _ _ _ _ hKK.out).mono ?_; rintro e w4 ⟨rfl, hb4⟩; have hb4 := hr3.trans (hb4.mono hr3.size); obtain ⟨y0, y1, y2, y3, y4⟩ := (HBX.out _ hb4).2.1)
      | (go_at_call 22; refine (OB.out _).mono ?_; rintro e w5 ⟨rfl, hb5⟩; have hb5 := hb4.trans (hb5.mono hb4.size))
      | (go_at_call 24; refine (itail_nil _).mono ?_; rintro e w6 ⟨rfl, rfl⟩)
      | (go_at_call 25; refine (iword_nil _ _).mono ?_; rintro e w6 ⟨rfl, rfl⟩)
      | (go_at_call 26; refine (iset_nil _ _ _).mono ?_; rintro e w6 ⟨rfl, rfl⟩)
      | (go_at_call 19; refine (ibytes_nil _).mono ?_; rintro e w6 ⟨rfl, rfl⟩)
      | (go_at_call 27; refine (icopy_nil _).mono ?_; rintro e w6 ⟨rfl, rfl⟩)
      | (go_at_call 14; refine (ihead_nil _).mono ?_; rintro e w7 ⟨rfl, hb7⟩; have hb7 := hb5.trans (hb7.mono hb5.size))
      | (go_at_call 6; refine (awake_any _).mono ?_; rintro e w8 ⟨rfl, hb8⟩; have hb8 := hb7.trans (hb8.mono hb7.size)))
    go_ret
    exact ⟨rfl, (HBX.out _ hb8).2.2⟩
  · have hKM : K ≤ M := by omega
    have u5 : ¬ (M : Int) < (K : Int) := by omega
    have W1 := word192 eh zs Z M HLE.out (by have := HZ.out; omega) (by have := HZ.out; omega) (by have := HZ.out; have := HZL.out; have := HN.out; omega)
    obtain ⟨xs, hxs⟩ : ∃ xs, ((eh ++ List.replicate Z 0) ++ zs).take M = xs := ⟨_, rfl⟩
    have hXB : AreB xs := by rw [← hxs]; exact ((HEB.out.append (AreB.zeros _)).append hZN.out).take _
    have hXL : xs.length = M := by
      have := HZ.out; have := HZL.out; have := HN.out; have := HLE.out
      rw [← hxs, List.length_take, List.length_append, List.length_append, List.length_replicate]; omega
    rw [hxs] at W1 HRD
    have LYY := Lib.hid (LYES.out w3.heap.size wB.heap.size A7 M c7 xs w3 hKM HRD.out (Nat.le_refl _) (by have := HMN.out; omega) hr3.size)
    obtain ⟨c2, g1, g2, g3, g4, g5, g6, g7⟩ := loads_copy xs M hXL (by have := HZ.out; omega) (by have := HMN.out; omega) W1 (encR 4 [0] [] [5]) (by decide)
    have GG := Lib.hid (And.intro g1 (And.intro g2 (And.intro g3 (And.intro g4 (And.intro g5 (And.intro g6 g7))))))
    have hG : (⟨xs, xs, [], 1048576⟩ : IM).Good := IM.good_new hXB _
    have hY : encR 4 [0] [] [5] = [4, 0, 0, 0, 0, 0, 0, 0, 32, 0, 0, 0, 0, 0, 0, 0, 0, 0, 0, 0, 0, 0, 0, 0, 5, 0, 0, 0, 0, 0, 0, 0] := by decide
    have hYB : AreB (encR 4 [0] [] [5]) := by rw [hY]; intro z hz; simp at hz; omega
    have hG2 := hG.put hYB
    rw [g1] at hG2
    have HG2 := Lib.hid hG2
    have HG3 := Lib.hid (hG2.set 192 7)
    have HL2 : Hid (c2.b.length = M + 32) := by show _ = _; rw [g2, List.length_append, hY, hXL]; rfl
    have HLIM : Hid ((⟨xs, xs, [], 1048576⟩ : IM).b.length ≤ 10000) := by show xs.length ≤ _; have := HMN.out; omega
    have HXB := Lib.hid hXB
    have HW0 : Hid ((⟨xs, xs, [], 1048576⟩ : IM).word 192 = 0) := by have h := W1 []; rw [List.append_nil] at h; exact h
    have hMK := Lib.hid hKM
    have IB := Lib.hid (fun (wx : World) (S : Nat → Prop) (p : Nat) (bv sv : Value) (hx : IX wx wB.heap.size S p 5 6 D F 0 ⟨xs, xs, [], 1048576⟩ bv sv) => ibytes_any wx hx (Nat.le_trans HLIM.out (by omega)))
    obtain ⟨Q, hQ⟩ : ∃ Q, Q = M + 32 := ⟨_, rfl⟩
    have HQ := Lib.hid hQ
    have q1 : (M : Int) + 32 = (Q : Int) := by omega
    have q2 : IntKind.i64.wrap (Q : Int) = (Q : Int) := by rw [IntKind.wrap_i64]; have := HMN.out; omega
    clear W1 g1 g2 g3 g4 g5 g6 g7 hXB hXL hxs hKM hlt hG hY hYB hG2 hQ
    have m2 : True := trivial
    go_wp2_with (first
      | (go_at_call 23; refine LYY.out.mono ?_; rintro e w4 ⟨p, bv4, sv4, rfl, hb4, hix4⟩; have HIX := Lib.hid hix4; clear hix4; obtain ⟨y0, y1, y2, y3, y4⟩ := (HBX.out _ (hr3.trans (hb4.mono hr3.size))).2.1)
      | (go_at_call 22; refine (OB.out _).mono ?_; rintro e w5 ⟨rfl, hb5⟩; have HI5 := Lib.hid (HIX.out.below hb5); have hs5 := hb5.size; have hb5 := hb4.trans (hb5.mono hb4.size))
      | (go_at_call 19; refine (IB.out _ _ _ _ _ HI5.out).mono ?_; intro e w6 hx; obtain ⟨A9, n9, c9, rfl, -, r9, -, -, hb6, -⟩ := hx.reads; have HR9 : Hid (Reads w6 w6.heap.size 1 A9 n9 (cellsOf .u8 xs)) := r9; have HI6 := Lib.hid (HI5.out.below hb6); have hs6 := hb6.size; have hb6 := hb5.trans (hb6.mono hb5.size); have HRB := Lib.hid ((HRD.out.below hb6).more hb6.size); clear hx r9)
      | (go_at_call 18; refine (same_self A9 A7 n9 M c9 c7 xs _ HR9.out HRB.out HXB.out).mono ?_; rintro e w7 ⟨rfl, rfl⟩)
      | (go_at_call 27; refine (icopy_any _ HI6.out (Nat.le_trans HLIM.out (by omega))).mono ?_; rintro e w7 ⟨p2, bv7, sv7, rfl, hb7, hix7⟩; have HJ7 := Lib.hid hix7; clear hix7))
    obtain ⟨wL, hwL⟩ : ∃ wL, (w7.alloc (.cells #[.int .u64 0] 25)).alloc (.cells #[.int .u64 5] 25) = wL := ⟨_, rfl⟩
    have hbL : Below w7.heap.size w7 wL := by rw [← hwL]; exact (boxed _ _).alloc (by simp) _
    have LO : ObR wL wL.heap.size (some ⟨w7.heap.size, 0, none⟩) 1 1 [0] none 0 0 [] (some ⟨w7.heap.size + 1, 0, none⟩) 1 1 [5] := by rw [← hwL]; exact lit_ob w7 [0] [5] _ (by decide) (by decide)
    have PT := Lib.hid (iput_any 4 _ 1 1 [0] none 0 0 [] _ 1 1 [5] wL LO (Nat.le_refl _) (HJ7.out.below hbL) (Nat.le_trans HLIM.out (by omega)) (Nat.le_refl _))
    rw [show (⟨xs, xs, [], 1048576⟩ : IM).put (encR 4 [0] [] [5]) = c2 from GG.out.1] at PT
    generalize (⟨xs, xs, [], 1048576⟩ : IM).putA (encR 4 [0] [] [5]) = pa at PT
    generalize (⟨xs, xs, [], 1048576⟩ : IM).putE (encR 4 [0] [] [5]) = pe at PT
    have hdL : Below w6.heap.size w6 wL := hb7.trans (hbL.mono hb7.size)
    rw [hwL]
    clear hwL LO hbL
    have m3 : True := trivial
    go_wp2_with (first
      | (go_at_call 28; refine PT.out.mono ?_; rintro e w8 ⟨rfl, hc8, bv8, sv8, hj8⟩; have HJ8 := Lib.hid hj8; have hd8 : Below w6.heap.size w6 w8 := hdL.trans (hc8.below hdL.size (fun j _ hj => hj.1)); have hs8 := hc8.size; clear hc8 hj8)
      | (go_at_call 26; refine (iset_any 192 7 _ HJ8.out HG2.out.bb (by omega) (by omega) (by rw [HL2.out]; have := HMN.out; omega) (by rw [GG.out.2.2.2.1]; simp) (by rw [GG.out.2.2.1]; exact Nat.le_trans HLIM.out (by omega))).mono ?_; rintro e w9 ⟨rfl, hc9, bv9, sv9, hj9⟩; have HJ9 := Lib.hid hj9; have hd9 : Below w6.heap.size w6 w9 := hd8.trans (hc9.below hd8.size (fun j _ hj => by rcases hj with hj | hj; exact hj.1; exact Nat.le_trans hdL.size hj.1)); have HI9 := Lib.hid (HI6.out.below hd9); have HRC := Lib.hid ((HRB.out.below hd9).more hd9.size); clear hc9 hj9 m3)
      | (go_at_call 19; refine (IB.out _ _ _ _ _ HI9.out).mono ?_; intro e wa hx; obtain ⟨Aa, na, ca, rfl, -, ra, -, -, hba, -⟩ := hx.reads; have HRa : Hid (Reads wa wa.heap.size 1 Aa na (cellsOf .u8 xs)) := ra; have HIa := Lib.hid (HI9.out.below hba); have HJa := Lib.hid (HJ9.out.below hba); have HRD2 := Lib.hid ((HRC.out.below hba).more hba.size); have hda := hd9.trans (hba.mono hd9.size); clear hx ra)
      | (go_at_call 18; refine (same_self Aa A7 na M ca c7 xs _ HRa.out HRD2.out HXB.out).mono ?_; rintro e wb ⟨rfl, rfl⟩; obtain ⟨Ab, cb, rfl, -, -, -⟩ := HJa.out.reads; have h6 := (nine HJa.out.blk).1.2.2.2.2.2.2.1; rw [GG.out.2.2.2.2.2.1, ← HQ.out] at h6)
      | (go_at_call 24; refine (itail_any p2 Q Ab cb _ h6).mono ?_; rintro e wb ⟨rfl, rfl⟩; have WC := Lib.hid (iword_any 192 _ HJa.out HG3.out.bb (by omega) (by omega)); rw [GG.out.2.2.2.2.2.2] at WC; have WM := Lib.hid (iword_any 192 _ HIa.out (show AreB xs from HXB.out) (by omega) (by omega)); rw [HW0.out] at WM; have m4 : True := trivial)
      | (go_at_call 25; clear m4; refine WC.out.mono ?_; rintro e wb ⟨rfl, rfl⟩)
      | (go_at_call 25; refine WM.out.mono ?_; rintro e wb ⟨rfl, rfl⟩)
      | (go_at_call 6; refine (awake_any _).mono ?_; rintro e wz ⟨rfl, hbz⟩; have hdz := hda.trans (hbz.mono hda.size)))
    go_ret
    have he := hb6.trans (hdz.mono hb6.size)
    exact ⟨rfl, (HBX.out _ (hr3.trans (he.mono hr3.size))).2.2⟩

end Go.Proofs.Ythdnjjdlhhapbaa
