import Derived.Test.YtaeegcohimflbaaGreatLHd
set_option linter.unusedVariables false
set_option maxRecDepth 100000
set_option linter.unusedSimpArgs false
namespace Go.Proofs.YtaeegcohimflbaaGreat
open Go.RowKit
abbrev hdZ : Value := hdV 0 0 0 0 0
abbrev hdZC : Array Value := #[.int .u64 0, .int .u64 0, .int .i64 0, .int .i64 0, .int .u64 0]
theorem wordAt_take {zs : List Int} (j : Nat) (hj : j < 5) : lev ((((zs.take 64).drop 8).drop (8 * j)).take 8) = wordAt zs j := by
 unfold wordAt
 rw [List.drop_drop, List.drop_take, List.take_take, show min 8 (64 - (8 + 8 * j)) = 8 by omega]
theorem hdec_short (v : Value) (A : Option Addr) (n c : Nat) (w : World) (hn : n < 64) :
 Calls Tryz.prog 39 #[v, .slice A n c] w fun e w' => e = .returned (.tuple #[hdZ, .bool false]) /\ Below w.heap.size w w' := by
 go_enter Tryz.func39, Tryz.ntmps39
 go_wp2
 refine bodyPost_ret (results_cell2 rfl _ _ w.heap.size 26 _ (0, 0) _ rfl (Blk.new _ _ _) Tryz.underlying26 rfl (by kernel_rfl)) rfl ?_
 exact ⟨rfl, boxed _ _⟩
structure Five (zs : List Int) (a b c d e : Int) : Prop where
 w0 : lev ((((zs.take 64).drop 8).drop 0).take 8) = a
 w1 : lev ((((zs.take 64).drop 8).drop 8).take 8) = b
 w2 : lev ((((zs.take 64).drop 8).drop 16).take 8) = c
 w3 : lev ((((zs.take 64).drop 8).drop 24).take 8) = d
 w4 : lev ((((zs.take 64).drop 8).drop 32).take 8) = e
theorem five_of (zs : List Int) : Five zs (wordAt zs 0) (wordAt zs 1) (wordAt zs 2) (wordAt zs 3) (wordAt zs 4) :=
 ⟨wordAt_take 0 (by omega), wordAt_take 1 (by omega), wordAt_take 2 (by omega), wordAt_take 3 (by omega), wordAt_take 4 (by omega)⟩
theorem hd_store {w : World} {g : Nat} {t : TypeId} {a b c d e a' b' c' d' e' : Value} (h : Blk w g t #[a, b, c, d, e]) :
 Blk (((((w.setCell ⟨g, 0, none⟩ a').setCell ⟨g, 1, none⟩ b').setCell ⟨g, 2, none⟩ c').setCell ⟨g, 3, none⟩ d').setCell ⟨g, 4, none⟩ e') g t #[a', b', c', d', e'] := by
 have := ((((h.set_ 0 a').set_ 1 b').set_ 2 c').set_ 3 d').set_ 4 e'
 simpa using this
theorem hd_below {B : Nat} {w0 w : World} {g : Nat} {a' b' c' d' e' : Value} (h : Below B w0 w) (hg : B <= g) :
 Below B w0 (((((w.setCell ⟨g, 0, none⟩ a').setCell ⟨g, 1, none⟩ b').setCell ⟨g, 2, none⟩ c').setCell ⟨g, 3, none⟩ d').setCell ⟨g, 4, none⟩ e') :=
 ((((h.setCell (p := ⟨g, 0, none⟩) hg _).setCell (p := ⟨g, 1, none⟩) hg _).setCell (p := ⟨g, 2, none⟩) hg _).setCell (p := ⟨g, 3, none⟩) hg _).setCell (p := ⟨g, 4, none⟩) hg _
set_option maxRecDepth 100000 in
set_option maxHeartbeats 2000000 in
theorem hdec_long {B : Nat} (G : Nat) (A : Option Addr) (n c : Nat) (zs : List Int) (u0 u1 u2 u3 u4 d f : Int) (b : Bool) (w : World) (hr : Reads w B 1 A n (cellsOf .u8 zs)) (hB : B <= w.heap.size) (hz : AreB zs) (hl : n <= c) (hcap : c <= 9223372036854775807) (hn : 64 <= n) (ht : IsTable w G)
 (h5 : Five zs u0 u1 u2 u3 u4) (hd : IntKind.i64.wrap u2 = d) (hf : IntKind.i64.wrap u3 = f) (hb : decide (encHR u0 u1 d f u4 = zs.take 64) = b) :
 Calls Tryz.prog 39 #[.pointer (some ⟨G, 0, none⟩), .slice A n c] w fun e w' => e = .returned (.tuple #[if b then hdV u0 u1 d f u4 else hdZ, .bool b]) /\ Below w.heap.size w w' := by
 have hlen := hr.len
 have HB0 := Lib.hid (boxed w (.cells hdZC 26))
 have HR := Lib.hid (fun wx (hx : Below w.heap.size w wx) => (hr.pre hn).keep (w' := wx) (fun p hp => hx.cell (by omega)))
 have HTB := Lib.hid (fun wx (hx : Below w.heap.size w wx) => (IsTable.below ht hx ht.lt : IsTable wx G))
 have HZ4 : Hid (AreB (zs.take 64)) := hz.take 64
 have HZ8 : Hid (AreB ((zs.take 64).drop 8)) := (hz.take 64).drop 8
 have HL8 : Hid (((zs.take 64).drop 8).length = 56) := by show _ = _; rw [List.length_drop, List.length_take]; omega
 have HX := Lib.hid (encHR_bytes u0 u1 d f u4)
 have H5 := Lib.hid h5
 have EN := Lib.hid (fun wx ht => henc_any G u0 u1 d f u4 wx ht)
 have BB := Lib.hid hb
 generalize encHR u0 u1 d f u4 = x at *
 have hc64 : (64 : Int) <= c := by omega
 have hc642 : 64 <= c := by omega
 have HSB : Hid (B <= w.heap.size) := hB
 clear hr ht hz h5 hb hlen hB
 cases b
 all_goals
   go_enter Tryz.func39, Tryz.ntmps39
   go_wp2_with (first
     | (go_at_call 67; refine (read_at (B := B) A 64 _ 8 (zs.take 64) _ (HR.out _ HB0.out) (Nat.le_trans HSB.out HB0.out.size) hc642 (by omega) (by omega) (by omega)).mono ?_; rintro e w1 ⟨g, B', rfl, R0, hg⟩)
     | (go_at_call 68; refine (num8 (p := 0) R0 hg HZ8.out (by rw [HL8.out]; omega) (by rw [HL8.out]; omega) (by omega)).mono ?_; rw [H5.out.w0]; rintro e w2 ⟨rfl, R1⟩; clear R0)
     | (go_at_call 68; refine (num8 (p := 8) R1 hg HZ8.out (by rw [HL8.out]; omega) (by rw [HL8.out]; omega) (by omega)).mono ?_; rw [H5.out.w1]; rintro e w3 ⟨rfl, R2⟩; clear R1)
     | (go_at_call 68; refine (num8 (p := 16) R2 hg HZ8.out (by rw [HL8.out]; omega) (by rw [HL8.out]; omega) (by omega)).mono ?_; rw [H5.out.w2]; rintro e w4 ⟨rfl, R3⟩; clear R2)
     | (go_at_call 68; refine (num8 (p := 24) R3 hg HZ8.out (by rw [HL8.out]; omega) (by rw [HL8.out]; omega) (by omega)).mono ?_; rw [H5.out.w3]; rintro e w5 ⟨rfl, R4⟩; clear R3)
     | (go_at_call 68; refine (num8 (p := 32) R4 hg HZ8.out (by rw [HL8.out]; omega) (by rw [HL8.out]; omega) (by omega)).mono ?_; rw [H5.out.w4]; rintro e w6 ⟨rfl, R5⟩; have hb6 := (HB0.out.trans (R5.bel.mono HB0.out.size)); clear R4)
     | (go_at_call 45; refine (EN.out _ (HTB.out _ (hb6.alloc hb6.size _))).mono ?_; rintro e w7 ⟨A1, _, c1, rfl, rfl, ho1, hb7, -, -⟩; have hb8 := (hb6.alloc hb6.size (.cells #[.int .u64 u0, .int .u64 u1, .int .i64 d, .int .i64 f, .int .u64 u4] 26)).trans (hb7.mono (hb6.alloc hb6.size _).size); have BK : Blk w7 w.heap.size 26 hdZC := (Blk.new w 26 hdZC).below (R5.bel.trans (((boxed w6 _).trans (hb7.mono (boxed w6 _).size)).mono R5.bel.size)) (by simp); obtain ⟨y0, y1, y2, y3, y4⟩ := hdAt_of hb7; obtain ⟨x0, x1, x2, x3, x4⟩ := hdAt_blk BK; have f0 := BK.frozen 0; have f1 := BK.frozen 1; have f2 := BK.frozen 2; have f3 := BK.frozen 3; have f4 := BK.frozen 4)
     | (go_at_call 69; refine (beq_any A1 A x.length 64 c1 _ x (zs.take 64) _ (Reads.of_own ho1) (HR.out _ hb8) HX.out HZ4.out).mono ?_; rw [BB.out]; rintro e w9 ⟨rfl, rfl⟩))
 · refine bodyPost_ret (results_cell2 rfl _ _ w.heap.size 26 _ (0, 0) _ rfl (hd_store BK) Tryz.underlying26 rfl (by kernel_rfl)) rfl ?_
   exact ⟨rfl, hd_below hb8 (Nat.le_refl _)⟩
 · refine bodyPost_ret (results_cell2 rfl _ _ w.heap.size 26 _ (0, 0) _ rfl (hd_store BK) Tryz.underlying26 rfl (by kernel_rfl)) rfl ?_
   exact ⟨rfl, hd_below hb8 (Nat.le_refl _)⟩
theorem wordAt_bd {zs : List Int} (hz : AreB zs) (j : Nat) : 0 <= wordAt zs j /\ wordAt zs j < 18446744073709551616 := lev8_lt ((hz.drop _).take 8) (by rw [List.length_take]; omega)
theorem isH_dec {zs : List Int} (hz : AreB zs) (hn : 64 <= zs.length) :
 decide (encHR (wordAt zs 0) (wordAt zs 1) (IntKind.i64.wrap (wordAt zs 2)) (IntKind.i64.wrap (wordAt zs 3)) (wordAt zs 4) = zs.take 64) = isH zs /\
 (isH zs = true -> IntKind.i64.wrap (wordAt zs 2) = wordAt zs 2 /\ IntKind.i64.wrap (wordAt zs 3) = wordAt zs 3) := by
 have b2 := wordAt_bd hz 2
 have b3 := wordAt_bd hz 3
 have e2 : rightH (IntKind.i64.wrap (wordAt zs 2)) (IntKind.i64.wrap (wordAt zs 3)) = rightH (wordAt zs 2) (wordAt zs 3) := by
   rw [Bool.eq_iff_iff]
   simp only [rightH, IntKind.wrap_i64, Bool.and_eq_true, decide_eq_true_eq]
   omega
 unfold isH encHR
 rw [e2]
 by_cases hr : rightH (wordAt zs 2) (wordAt zs 3) = true
 · have hb := rightH_bd hr
   have w2 : IntKind.i64.wrap (wordAt zs 2) = wordAt zs 2 := by rw [IntKind.wrap_i64]; omega
   have w3 : IntKind.i64.wrap (wordAt zs 3) = wordAt zs 3 := by rw [IntKind.wrap_i64]; omega
   rw [if_pos hr, hr, decide_eq_true hn, w2, w3]
   exact ⟨rfl, fun _ => ⟨rfl, rfl⟩⟩
 · rw [if_neg hr, show rightH (wordAt zs 2) (wordAt zs 3) = false by simpa using hr]
   simp only [Bool.and_false, Bool.false_and]
   refine ⟨decide_eq_false fun h => ?_, fun h => by cases h⟩
   have := congrArg List.length h
   rw [List.length_take] at this
   simp at this
   omega
def decH (zs : List Int) : Value := if isH zs then hdV (wordAt zs 0) (wordAt zs 1) (wordAt zs 2) (wordAt zs 3) (wordAt zs 4) else hdZ
theorem isH_short {zs : List Int} (h : zs.length < 64) : isH zs = false := by
 unfold isH
 rw [decide_eq_false (by omega)]
 rfl
theorem hdec_any {B : Nat} (G : Nat) (A : Option Addr) (n c : Nat) (zs : List Int) (w : World) (hr : Reads w B 1 A n (cellsOf .u8 zs)) (hB : B <= w.heap.size) (hz : AreB zs) (hl : n <= c) (hcap : c <= 9223372036854775807) (ht : IsTable w G) :
 Calls Tryz.prog 39 #[.pointer (some ⟨G, 0, none⟩), .slice A n c] w fun e w' => e = .returned (.tuple #[decH zs, .bool (isH zs)]) /\ Below w.heap.size w w' := by
 have hlen := hr.len
 by_cases hn : n < 64
 · have h := hdec_short (.pointer (some ⟨G, 0, none⟩)) A n c w hn
   unfold decH
   rw [isH_short (by omega)]
   exact h
 · obtain ⟨h1, h2⟩ := isH_dec hz (by omega)
   have h := hdec_long G A n c zs _ _ _ _ _ _ _ (isH zs) w hr hB hz hl hcap (by omega) ht (five_of zs) rfl rfl h1
   refine h.mono fun e w' ⟨he, hb⟩ => ⟨?_, hb⟩
   rw [he]
   unfold decH
   by_cases hs : isH zs = true
   · rw [(h2 hs).1, (h2 hs).2]
   · rw [if_neg hs, if_neg hs]
theorem isH_wide {zs : List Int} (h : 256 < wordAt zs 2 ∨ 256 < wordAt zs 3) : isH zs = false := by
 unfold isH rightH
 rcases h with h | h
 · rw [decide_eq_false (show ¬ wordAt zs 2 <= 256 by omega)]; simp
 · rw [decide_eq_false (show ¬ wordAt zs 3 <= 256 by omega)]; simp
theorem isH_not {zs : List Int} (h : rightH (wordAt zs 2) (wordAt zs 3) = false) : isH zs = false := by
 unfold isH; rw [h]; simp
theorem isH_is {zs : List Int} (hn : 64 <= zs.length) (h : rightH (wordAt zs 2) (wordAt zs 3) = true) : isH zs = decide (encHR (wordAt zs 0) (wordAt zs 1) (wordAt zs 2) (wordAt zs 3) (wordAt zs 4) = zs.take 64) := by
 unfold isH encHR; rw [h, decide_eq_true hn, if_pos rfl]; rfl
def fiveP (zs : List Int) (j : Nat) : List Value := (List.range 5).map fun t => if t < j then .int .u64 (wordAt zs t) else .int .u64 0
theorem fiveP_set (zs : List Int) {j : Nat} (hj : j < 5) : (fiveP zs j).toArray.setIfInBounds j (.int .u64 (wordAt zs j)) = (fiveP zs (j + 1)).toArray := by
 match j, hj with
 | 0, _ | 1, _ | 2, _ | 3, _ | 4, _ => rfl
 | n + 5, h => omega
theorem fiveP_size (zs : List Int) (j : Nat) : (fiveP zs j).toArray.size = 5 := by simp [fiveP]
theorem fiveP_full (zs : List Int) : (fiveP zs 5).toArray = #[.int .u64 (wordAt zs 0), .int .u64 (wordAt zs 1), .int .u64 (wordAt zs 2), .int .u64 (wordAt zs 3), .int .u64 (wordAt zs 4)] := rfl
structure DecW (w0 : World) (zs : List Int) (j : Nat) (wx : World) : Prop where
 bel : Below w0.heap.size w0 wx
 res : Blk wx w0.heap.size 27 hdZC
 hd : Blk wx (w0.heap.size + 1) 27 hdZC
 wds : Blk wx (w0.heap.size + 2) 133 (fiveP zs j).toArray
theorem decW_start (w : World) (zs : List Int) : DecW w zs 0 (((w.alloc (.cells hdZC 27)).alloc (.cells hdZC 27)).alloc (.cells #[.int .u64 0, .int .u64 0, .int .u64 0, .int .u64 0, .int .u64 0] 133)) := by
 have h1 := Blk.new w 27 hdZC
 have h2 := Blk.new (w.alloc (.cells hdZC 27)) 27 hdZC
 have h3 := Blk.new ((w.alloc (.cells hdZC 27)).alloc (.cells hdZC 27)) 133 #[.int .u64 0, .int .u64 0, .int .u64 0, .int .u64 0, .int .u64 0]
 rw [World.size_alloc] at h2
 rw [World.size_alloc, World.size_alloc] at h3
 exact ⟨((boxed _ _).alloc (by simp) _).alloc (by simp; omega) _, (h1.alloc _).alloc _, h2.alloc _, h3⟩
theorem DecW.next {w0 wx : World} {zs : List Int} {j : Nat} (h : DecW w0 zs j wx) (hj : j < 5) : DecW w0 zs (j + 1) (wx.setCell ⟨w0.heap.size + 2, j, none⟩ (.int .u64 (wordAt zs j))) :=
 ⟨h.bel.setCell (by show _ <= w0.heap.size + 2; omega) _, h.res.far (by show _ ≠ w0.heap.size + 2; omega) _, h.hd.far (by show _ ≠ w0.heap.size + 2; omega) _, by
   have := h.wds.set_ j (.int .u64 (wordAt zs j)); rwa [fiveP_set zs hj] at this⟩
theorem decH_no {zs : List Int} (h : isH zs = false) : Value.tuple #[decH zs, .bool (isH zs)] = .tuple #[hdZ, .bool false] := by
 unfold decH; rw [h]; rfl
theorem hd_far {w : World} {g h : Nat} {t : TypeId} {cs : Array Value} {a' b' c' d' e' : Value} (hb : Blk w g t cs) (hn : g ≠ h) :
 Blk (((((w.setCell ⟨h, 0, none⟩ a').setCell ⟨h, 1, none⟩ b').setCell ⟨h, 2, none⟩ c').setCell ⟨h, 3, none⟩ d').setCell ⟨h, 4, none⟩ e') g t cs :=
 ((((hb.far (p := ⟨h, 0, none⟩) hn _).far (p := ⟨h, 1, none⟩) hn _).far (p := ⟨h, 2, none⟩) hn _).far (p := ⟨h, 3, none⟩) hn _).far (p := ⟨h, 4, none⟩) hn _
set_option maxRecDepth 100000 in
set_option maxHeartbeats 4000000 in
theorem rhdec_any {B : Nat} (A : Option Addr) (n c : Nat) (zs : List Int) (w : World) (hr : Reads w B 1 A n (cellsOf .u8 zs)) (hB : B <= w.heap.size) (hz : AreB zs) (hl : n <= c) (hcap : c <= 9223372036854775807) :
 Calls Tryz.prog 43 #[.slice A n c] w fun e w' => e = .returned (.tuple #[decH zs, .bool (isH zs)]) /\ Below w.heap.size w w' := by
 have hlen := hr.len
 have HLEN := Lib.hid hlen
 have HR := Lib.hid (fun wx (hx : Below w.heap.size w wx) => (hr.keep (w' := wx) (fun p hp => hx.cell (by omega)) : Reads wx B 1 A n (cellsOf .u8 zs)))
 have HZ := Lib.hid hz
 clear hr hlen
 go_enter Tryz.func43, Tryz.ntmps43
 go_wp2
 go_loopw [6, 7, 8] (fun i _ _ wr => ∃ j : Nat, j <= 5 /\ i = .int .i64 j /\ (j = 0 ∨ 8 + 8 * j <= n) /\ DecW w zs j wr) (fun i _ _ _ => 5 - (intOf i).toNat)
 case atStart => exact ⟨0, Nat.zero_le _, rfl, .inl rfl, decW_start w zs⟩
 case round =>
   obtain ⟨j, hj, rfl, hjn, hD⟩ := hrel
   by_cases hlt : j < 5
   · by_cases hin : 8 + 8 * j + 8 <= n
     · have hv : (8 : Int) + 8 * (j : Int) = ((8 + 8 * j : Nat) : Int) := by omega
       have HV := Lib.hid hv
       have HN := Lib.hid (hD.next hlt)
       have G := Lib.hid (fun v (hv : v = ((8 + 8 * j : Nat) : Int)) => rget8 A n c (8 + 8 * j) v zs wr (HR.out _ hD.bel) HZ.out hl hcap hv hin)
       have hfr := hD.wds.frozen j
       have hcell : ∃ u, wr.cell? ⟨w.heap.size + 2, j, none⟩ = some u := by rw [hD.wds.cell]; exact ⟨_, Array.getElem?_eq_getElem (by rw [fiveP_size]; omega)⟩
       obtain ⟨u, hcell⟩ := hcell
       have HG : Hid (lev ((zs.drop (8 + 8 * j)).take 8) = wordAt zs j) := rfl
       rw [HG.out] at G
       generalize wordAt zs j = x at *
       clear hD hv
       go_wp2_with (go_at_call 36; refine (G.out _ HV.out).mono ?_; rintro e w1 ⟨rfl, rfl⟩)
       go_roundw
       case rel => exact ⟨j + 1, by omega, by go_num, .inr (by omega), HN.out⟩
       case measure => simp [intOf]; omega
     · have hg : gok n (8 + 8 * (j : Int)) 8 = false := by rw [gok_isw]; simp [isw]; omega
       have HG := Lib.hid hg
       have HE := Lib.hid (decH_no (isH_short (zs := zs) (by rw [HLEN.out]; omega)))
       obtain ⟨x0, x1, x2, x3, x4⟩ := hdAt_blk hD.res
       have f0 := hD.res.frozen 0
       have f1 := hD.res.frozen 1
       have f2 := hD.res.frozen 2
       have f3 := hD.res.frozen 3
       have f4 := hD.res.frozen 4
       have BK := Lib.hid hD.res
       have HB := Lib.hid hD.bel
       clear hg hD hin
       go_wp2_with (go_at_call 36; refine (rget_no A n c (8 + 8 * (j : Int)) 8 wr HG.out (by omega) (by omega) (by omega) (by omega) (by omega)).mono ?_; rintro e w1 ⟨rfl, rfl⟩)
       refine bodyPost_ret (results_cell2 rfl _ _ w.heap.size 27 _ (0, 0) _ rfl (hd_store BK.out) Tryz.underlying27 rfl (by kernel_rfl)) rfl ?_
       exact ⟨by rw [HE.out]; rfl, hd_below HB.out (Nat.le_refl _)⟩
   · obtain rfl : j = 5 := by omega
     have b0 := wordAt_bd HZ.out 0
     have b1 := wordAt_bd HZ.out 1
     have b2 := wordAt_bd HZ.out 2
     have b3 := wordAt_bd HZ.out 3
     have b4 := wordAt_bd HZ.out 4
     have HW := hD.wds
     rw [fiveP_full] at HW
     have z0 : wr.cell? ⟨w.heap.size + 2, 0, none⟩ = some (.int .u64 (wordAt zs 0)) := by rw [HW.cell]; rfl
     have z1 : wr.cell? ⟨w.heap.size + 2, 1, none⟩ = some (.int .u64 (wordAt zs 1)) := by rw [HW.cell]; rfl
     have z2 : wr.cell? ⟨w.heap.size + 2, 2, none⟩ = some (.int .u64 (wordAt zs 2)) := by rw [HW.cell]; rfl
     have z3 : wr.cell? ⟨w.heap.size + 2, 3, none⟩ = some (.int .u64 (wordAt zs 3)) := by rw [HW.cell]; rfl
     have z4 : wr.cell? ⟨w.heap.size + 2, 4, none⟩ = some (.int .u64 (wordAt zs 4)) := by rw [HW.cell]; rfl
     obtain ⟨x0, x1, x2, x3, x4⟩ := hdAt_blk hD.res
     have f0 := hD.res.frozen 0
     have f1 := hD.res.frozen 1
     have f2 := hD.res.frozen 2
     have f3 := hD.res.frozen 3
     have f4 := hD.res.frozen 4
     have BK := Lib.hid hD.res
     have BH := Lib.hid hD.hd
     have HB := Lib.hid hD.bel
     have W1 := Lib.hid (isH_wide (zs := zs))
     have W2 := Lib.hid (isH_short (zs := zs))
     have W3 := Lib.hid (isH_not (zs := zs))
     have W4 := Lib.hid (isH_is (zs := zs))
     have HE := Lib.hid (decH_no (zs := zs))
     have HY : Hid (isH zs = true -> decH zs = hdV (wordAt zs 0) (wordAt zs 1) (wordAt zs 2) (wordAt zs 3) (wordAt zs 4)) := fun h => by unfold decH; rw [if_pos h]
     generalize wordAt zs 0 = u0 at *
     generalize wordAt zs 1 = u1 at *
     generalize wordAt zs 2 = u2 at *
     generalize wordAt zs 3 = u3 at *
     generalize wordAt zs 4 = u4 at *
     clear HW hD hjn
     by_cases h2 : 256 < u2
     · have HF := Lib.hid (HE.out (W1.out (.inl h2)))
       clear z0 z1 z3 z4
       go_wp2
       refine bodyPost_ret (results_cell2 rfl _ _ w.heap.size 27 _ (0, 0) _ rfl (hd_store BK.out) Tryz.underlying27 rfl (by kernel_rfl)) rfl ?_
       exact ⟨by rw [HF.out]; rfl, hd_below HB.out (Nat.le_refl _)⟩
     by_cases h3 : 256 < u3
     · have HF := Lib.hid (HE.out (W1.out (.inr h3)))
       have t2 : decide (256 < u2) = false := by simp; omega
       clear z0 z1 z4
       go_wp2
       refine bodyPost_ret (results_cell2 rfl _ _ w.heap.size 27 _ (0, 0) _ rfl (hd_store BK.out) Tryz.underlying27 rfl (by kernel_rfl)) rfl ?_
       exact ⟨by rw [HF.out]; rfl, hd_below HB.out (Nat.le_refl _)⟩
     have t2 : decide (256 < u2) = false := by simp; omega
     have t3 : decide (256 < u3) = false := by simp; omega
     by_cases hn : n < 64
     · have HF := Lib.hid (HE.out (W2.out (by rw [HLEN.out]; omega)))
       clear z0 z1 z4
       go_wp2
       refine bodyPost_ret (results_cell2 rfl _ _ w.heap.size 27 _ (0, 0) _ rfl (hd_store BK.out) Tryz.underlying27 rfl (by kernel_rfl)) rfl ?_
       exact ⟨by rw [HF.out]; rfl, hd_below HB.out (Nat.le_refl _)⟩
     have hn2 : 64 <= n := by omega
     have hc64 : (64 : Int) <= c := by omega
     have hn64 : ¬ (n : Int) < 64 := by omega
     have t6 : decide ((n : Int) < 64) = false := by simp; omega
     have hd : IntKind.i64.wrap u2 = u2 := by rw [IntKind.wrap_i64]; omega
     have hf : IntKind.i64.wrap u3 = u3 := by rw [IntKind.wrap_i64]; omega
     obtain ⟨y0, y1, y2, y3, y4⟩ := hdAt_blk BH.out
     have g0 := BH.out.frozen 0
     have g1 := BH.out.frozen 1
     have g2 := BH.out.frozen 2
     have g3 := BH.out.frozen 3
     have g4 := BH.out.frozen 4
     have R1 := Lib.hid (rhright_any u0 u1 u2 u3 u4)
     have EN := Lib.hid (fun wx => rhenc_any u0 u1 u2 u3 u4 wx b0 b1 b4)
     have HX := Lib.hid (encHR_bytes u0 u1 u2 u3 u4)
     have HZ4 : Hid (AreB (zs.take 64)) := HZ.out.take 64
     replace W4 := Lib.hid (W4.out (by rw [HLEN.out]; exact hn2))
     obtain ⟨r, hr⟩ : ∃ r, rightH u2 u3 = r := ⟨_, rfl⟩
     rw [hr] at R1 W4 W3
     obtain ⟨b, hb⟩ : ∃ b, decide (encHR u0 u1 u2 u3 u4 = zs.take 64) = b := ⟨_, rfl⟩
     rw [hb] at W4
     have BB := Lib.hid hb
     generalize encHR u0 u1 u2 u3 u4 = x at *
     clear hr hb b0 b1 b2 b3 b4
     go_wp2_with fail
     obtain ⟨w5, h5⟩ : ∃ w5, w5 = (((((wr.setCell ⟨w.heap.size + 1, 0, none⟩ (.int .u64 u0)).setCell ⟨w.heap.size + 1, 1, none⟩ (.int .u64 u1)).setCell ⟨w.heap.size + 1, 2, none⟩ (.int .i64 u2)).setCell ⟨w.heap.size + 1, 3, none⟩ (.int .i64 u3)).setCell ⟨w.heap.size + 1, 4, none⟩ (.int .u64 u4)) := ⟨_, rfl⟩
     rw [<- h5]
     have HBA : Hid (∀ wx, Below w5.heap.size w5 wx -> HdAt wx (w.heap.size + 1) u0 u1 u2 u3 u4 /\ Blk wx w.heap.size 27 hdZC /\ Below w.heap.size w wx) := fun wx hx => by
       have q1 : Blk w5 (w.heap.size + 1) 27 #[.int .u64 u0, .int .u64 u1, .int .i64 u2, .int .i64 u3, .int .u64 u4] := by rw [h5]; exact hd_store BH.out
       have q2 : Blk w5 w.heap.size 27 hdZC := by rw [h5]; exact hd_far BK.out (by omega)
       have q3 : Below w.heap.size w w5 := by rw [h5]; exact hd_below HB.out (by omega)
       exact ⟨hdAt_blk (q1.below hx q1.lt), q2.below hx q2.lt, q3.trans (hx.mono q3.size)⟩
     clear h5 x0 x1 x2 x3 x4 y0 y1 y2 y3 y4 f0 f1 f2 f3 f4 g0 g1 g2 g3 g4 z0 z1 z2 z3 z4
     have hb : Below w5.heap.size w5 w5.drew := below_drewn (Below.refl _ _) 1
     have HK := Lib.hid (HBA.out _ hb).1
     cases r
     · have HF := Lib.hid (HE.out (W3.out rfl))
       refine wp_region_held_drew (S := fun w' => HdAt w' (w.heap.size + 1) u0 u1 u2 u3 u4) (by kernel_rfl) HK.out (fun hHeld => ?_)
       refine takeH_yes (i := 0) (v := ?_) rfl (by kernel_rfl) (by kernel_rfl) (by kernel_rfl) (fun _ _ _ h => h) (by kernel_rfl) ?_ (by assumption) ?_
       rotate_left
       · intro wz hSw; (try dsimp only at hSw); go_simp; try with_reducible rfl
       simp only [Act.put, lS, lZ, lC]
       refine oneH (i := 1) rfl (by kernel_rfl) (fun K hK => ?_)
       go_simp
       go_at_call 33
       refine (R1.out _).mono ?_
       rintro e wx ⟨rfl, hbx⟩
       have hb := hb.trans (hbx.mono hb.size)
       clear hbx
       refine hK.out _ _ (HBA.out _ hb).1 (fun hHeld => ?_)
       clear hK K
       try simp only [Act.put, lS, lZ, lC]
       refine takeH_yes (i := 2) (v := ?_) rfl (by kernel_rfl) (by kernel_rfl) (by kernel_rfl) (fun _ _ _ h => h) (by kernel_rfl) ?_ (by assumption) ?_
       rotate_left
       · intro wz hSw; (try dsimp only at hSw); go_simp; try with_reducible rfl
       simp only [Act.put, lS, lZ, lC]
       refine takeH_yes (i := 3) (v := ?_) rfl (by kernel_rfl) (by kernel_rfl) (by kernel_rfl) (fun _ _ _ h => h) (by kernel_rfl) ?_ (by assumption) ?_
       rotate_left
       · intro wz hSw; (try dsimp only at hSw); go_simp; try with_reducible rfl
       simp only [Act.put, lS, lZ, lC]
       refine takeH_no (i := 4) rfl (by kernel_rfl) (by kernel_rfl) (by kernel_rfl) (fun _ _ _ h => h) (by kernel_rfl) (by assumption) ?_
       simp only [Act.put, lS, lZ, lC]
       refine takeH_no (i := 5) rfl (by kernel_rfl) (by kernel_rfl) (by kernel_rfl) (fun _ _ _ h => h) (by kernel_rfl) (by assumption) ?_
       simp only [Act.put, lS, lZ, lC]
       refine takeH_no (i := 6) rfl (by kernel_rfl) (by kernel_rfl) (by kernel_rfl) (fun _ _ _ h => h) (by kernel_rfl) (by assumption) ?_
       simp only [Act.put, lS, lZ, lC]
       refine takeH_no (i := 7) rfl (by kernel_rfl) (by kernel_rfl) (by kernel_rfl) (fun _ _ _ h => h) (by kernel_rfl) (by assumption) ?_
       simp only [Act.put, lS, lZ, lC]
       refine takeH_no (i := 8) rfl (by kernel_rfl) (by kernel_rfl) (by kernel_rfl) (fun _ _ _ h => h) (by kernel_rfl) (by assumption) ?_
       simp only [Act.put, lS, lZ, lC]
       refine takeH_no (i := 9) rfl (by kernel_rfl) (by kernel_rfl) (by kernel_rfl) (fun _ _ _ h => h) (by kernel_rfl) (by assumption) ?_
       simp only [Act.put, lS, lZ, lC]
       refine takeH_yes (i := 10) (v := ?_) rfl (by kernel_rfl) (by kernel_rfl) (by kernel_rfl) (fun _ _ _ h => h) (by kernel_rfl) ?_ (by assumption) ?_
       rotate_left
       · intro wz hSw; (try dsimp only at hSw); go_simp; try with_reducible rfl
       simp only [Act.put, lS, lZ, lC]
       refine wpAnyH_done (by kernel_rfl) ?_ _
       obtain ⟨-, BK5, HB5⟩ := HBA.out _ hb
       obtain ⟨x0, x1, x2, x3, x4⟩ := hdAt_blk BK5
       have f0 := BK5.frozen 0
       have f1 := BK5.frozen 1
       have f2 := BK5.frozen 2
       have f3 := BK5.frozen 3
       have f4 := BK5.frozen 4
       go_wp2
       refine bodyPost_ret (results_cell2 rfl _ _ w.heap.size 27 _ (0, 0) _ rfl (hd_store BK5) Tryz.underlying27 rfl (by kernel_rfl)) rfl ?_
       exact ⟨by rw [HF.out]; rfl, hd_below HB5 (Nat.le_refl _)⟩
     · have HI := Lib.hid (W4.out rfl)
       cases b
       all_goals
         go_region_held3 (fun w' => HdAt w' (w.heap.size + 1) u0 u1 u2 u3 u4)
           (first | assumption | exact HK.out | exact (HBA.out _ hb).1)
           (first
             | (go_at_call 33; refine (R1.out _).mono ?_; rintro e wx ⟨rfl, hbx⟩; have hb := hb.trans (hbx.mono hb.size); clear hbx)
             | (go_at_call 72; refine (EN.out _).mono ?_; rintro e wx ⟨A1, _, c1, rfl, rfl, ho1, hbx, -, -⟩; have hb := hb.trans (hbx.mono hb.size); have hr1 := Reads.of_own ho1; clear hbx ho1)
             | (go_at_call 10; refine (same_any A1 A x.length 64 c1 _ x (zs.take 64) _ hr1 ((HR.out _ (HBA.out _ hb).2.2).pre hn2) HX.out HZ4.out).mono ?_; rw [BB.out]; rintro e wx ⟨rfl, rfl⟩))
         obtain ⟨⟨y0, y1, y2, y3, y4⟩, BK5, HB5⟩ := HBA.out _ hb
         obtain ⟨x0, x1, x2, x3, x4⟩ := hdAt_blk BK5
         have f0 := BK5.frozen 0
         have f1 := BK5.frozen 1
         have f2 := BK5.frozen 2
         have f3 := BK5.frozen 3
         have f4 := BK5.frozen 4
         go_wp2
         refine bodyPost_ret (results_cell2 rfl _ _ w.heap.size 27 _ (0, 0) _ rfl (hd_store BK5) Tryz.underlying27 rfl (by kernel_rfl)) rfl ?_
         first
           | exact ⟨by rw [HE.out HI.out]; rfl, hd_below HB5 (Nat.le_refl _)⟩
           | exact ⟨by rw [HY.out HI.out, HI.out]; rfl, hd_below HB5 (Nat.le_refl _)⟩
end Go.Proofs.YtaeegcohimflbaaGreat
