import Derived.Test.YtgcmbgniaffdlaaGreatLHd
set_option linter.unusedVariables false
set_option maxRecDepth 100000
set_option linter.unusedSimpArgs false
namespace Go.Proofs.YtgcmbgniaffdlaaGreat
open Go.RowKit
abbrev hdZ : Value := hdV 0 0 0 0 0
abbrev hdZC : Array Value := #[.int .u64 0, .int .u64 0, .int .i64 0, .int .i64 0, .int .u64 0]
theorem wordAt_take {zs : List Int} (j : Nat) (hj : j < 5) : lev ((((zs.take 64).drop 8).drop (8 * j)).take 8) = wordAt zs j := by
 unfold wordAt
 rw [List.drop_drop, List.drop_take, List.take_take, show min 8 (64 - (8 + 8 * j)) = 8 by omega]
theorem hdec_short (v : Value) (A : Option Addr) (n c : Nat) (w : World) (hn : n < 64) :
 Calls Tryz.prog 30 #[v, .slice A n c] w fun e w' => e = .returned (.tuple #[hdZ, .bool false]) /\ Below w.heap.size w w' := by
 go_enter Tryz.func30, Tryz.ntmps30
 go_wp2
 refine bodyPost_ret (results_cell2 rfl _ _ w.heap.size 29 _ (0, 0) _ rfl (Blk.new _ _ _) Tryz.underlying29 rfl (by kernel_rfl)) rfl ?_
 exact ⟨rfl, boxed _ _⟩
structure Five (zs : List Int) (a b c d e : Int) : Prop where
 w0 : lev ((((zs.take 64).drop 8).drop 0).take 8) = a
 w1 : lev ((((zs.take 64).drop 8).drop 8).take 8) = b
 w2 : lev ((((zs.take 64).drop 8).drop 16).take 8) = c
 w3 : lev ((((zs.take 64).drop 8).drop 24).take 8) = d
 w4 : lev ((((zs.take 64).drop 8).drop 32).take 8) = e
theorem five_of (zs : List Int) : Five zs (wordAt zs 0) (wordAt zs 1) (wordAt zs 2) (wordAt zs 3) (wordAt zs 4) :=
 ⟨wordAt_take 0 (by omega), wordAt_take 1 (by omega), wordAt_take 2 (by omega), wordAt_take 3 (by omega), wordAt_take 4 (by omega)⟩
theorem hd_store {w : World} {g : Nat} {t : TypeId} {a b c d e a' b' c' d' e' : Value} (h : Blk w g t #[a, b, c, d, e]) :
 Blk (((((w.setCell ⟨g, 0, none⟩ a').setCell ⟨g, 1, none⟩ b').setCell ⟨g, 2, none⟩ c').setCell ⟨g, 3, none⟩ d').setCell ⟨g, 4, none⟩ e') g t #[a', b', c', d', e'] := by
 have := ((((h.set_ 0 a').set_ 1 b').set_ 2 c').set_ 3 d').set_ 4 e'
 simpa using this
theorem hd_below {B : Nat} {w0 w : World} {g : Nat} {a' b' c' d' e' : Value} (h : Below B w0 w) (hg : B <= g) :
 Below B w0 (((((w.setCell ⟨g, 0, none⟩ a').setCell ⟨g, 1, none⟩ b').setCell ⟨g, 2, none⟩ c').setCell ⟨g, 3, none⟩ d').setCell ⟨g, 4, none⟩ e') :=
 ((((h.setCell (p := ⟨g, 0, none⟩) hg _).setCell (p := ⟨g, 1, none⟩) hg _).setCell (p := ⟨g, 2, none⟩) hg _).setCell (p := ⟨g, 3, none⟩) hg _).setCell (p := ⟨g, 4, none⟩) hg _
set_option maxRecDepth 100000 in
set_option maxHeartbeats 2000000 in
theorem hdec_long {B : Nat} (G : Nat) (A : Option Addr) (n c : Nat) (zs : List Int) (u0 u1 u2 u3 u4 d f : Int) (b : Bool) (w : World) (hr : Reads w B 1 A n (cellsOf .u8 zs)) (hB : B <= w.heap.size) (hz : AreB zs) (hl : n <= c) (hcap : c <= 9223372036854775807) (hn : 64 <= n) (ht : IsTable w G)
 (h5 : Five zs u0 u1 u2 u3 u4) (hd : IntKind.i64.wrap u2 = d) (hf : IntKind.i64.wrap u3 = f) (hb : decide (encHR u0 u1 d f u4 = zs.take 64) = b) :
 Calls Tryz.prog 30 #[.pointer (some ⟨G, 0, none⟩), .slice A n c] w fun e w' => e = .returned (.tuple #[if b then hdV u0 u1 d f u4 else hdZ, .bool b]) /\ Below w.heap.size w w' := by
 have hlen := hr.len
 have HB0 := Lib.hid (boxed w (.cells hdZC 29))
 have HR := Lib.hid (fun wx (hx : Below w.heap.size w wx) => (hr.pre hn).keep (w' := wx) (fun p hp => hx.cell (by omega)))
 have HTB := Lib.hid (fun wx (hx : Below w.heap.size w wx) => (IsTable.below ht hx ht.lt : IsTable wx G))
 have HZ4 : Hid (AreB (zs.take 64)) := hz.take 64
 have HZ8 : Hid (AreB ((zs.take 64).drop 8)) := (hz.take 64).drop 8
 have HL8 : Hid (((zs.take 64).drop 8).length = 56) := by show _ = _; rw [List.length_drop, List.length_take]; omega
 have HX := Lib.hid (encHR_bytes u0 u1 d f u4)
 have H5 := Lib.hid h5
 have EN := Lib.hid (fun wx ht => henc_any G u0 u1 d f u4 wx ht)
 have BB := Lib.hid hb
 generalize encHR u0 u1 d f u4 = x at *
 have hc64 : (64 : Int) <= c := by omega
 have hc642 : 64 <= c := by omega
 have HSB : Hid (B <= w.heap.size) := hB
 clear hr ht hz h5 hb hlen hB
 cases b
 all_goals
   go_enter Tryz.func30, Tryz.ntmps30
   go_wp2_with (first
     | (go_at_call 61; refine (read_at (B := B) A 64 _ 8 (zs.take 64) _ (HR.out _ HB0.out) (Nat.le_trans HSB.out HB0.out.size) hc642 (by omega) (by omega) (by omega)).mono ?_; rintro e w1 ⟨g, B', rfl, R0, hg⟩)
     | (go_at_call 62; refine (num8 (p := 0) R0 hg HZ8.out (by rw [HL8.out]; omega) (by rw [HL8.out]; omega) (by omega)).mono ?_; rw [H5.out.w0]; rintro e w2 ⟨rfl, R1⟩; clear R0)
     | (go_at_call 62; refine (num8 (p := 8) R1 hg HZ8.out (by rw [HL8.out]; omega) (by rw [HL8.out]; omega) (by omega)).mono ?_; rw [H5.out.w1]; rintro e w3 ⟨rfl, R2⟩; clear R1)
     | (go_at_call 62; refine (num8 (p := 16) R2 hg HZ8.out (by rw [HL8.out]; omega) (by rw [HL8.out]; omega) (by omega)).mono ?_; rw [H5.out.w2]; rintro e w4 ⟨rfl, R3⟩; clear R2)
     | (go_at_call 62; refine (num8 (p := 24) R3 hg HZ8.out (by rw [HL8.out]; omega) (by rw [HL8.out]; omega) (by omega)).mono ?_; rw [H5.out.w3]; rintro e w5 ⟨rfl, R4⟩; clear R3)
     | (go_at_call 62; refine (num8 (p := 32) R4 hg HZ8.out (by rw [HL8.out]; omega) (by rw [HL8.out]; omega) (by omega)).mono ?_; rw [H5.out.w4]; rintro e w6 ⟨rfl, R5⟩; have hb6 := (HB0.out.trans (R5.bel.mono HB0.out.size)); clear R4)
     | (go_at_call 42; refine (EN.out _ (HTB.out _ (hb6.alloc hb6.size _))).mono ?_; rintro e w7 ⟨A1, _, c1, rfl, rfl, ho1, hb7, -, -⟩; have hb8 := (hb6.alloc hb6.size (.cells #[.int .u64 u0, .int .u64 u1, .int .i64 d, .int .i64 f, .int .u64 u4] 29)).trans (hb7.mono (hb6.alloc hb6.size _).size); have BK : Blk w7 w.heap.size 29 hdZC := (Blk.new w 29 hdZC).below (R5.bel.trans (((boxed w6 _).trans (hb7.mono (boxed w6 _).size)).mono R5.bel.size)) (by simp); obtain ⟨y0, y1, y2, y3, y4⟩ := hdAt_of hb7; obtain ⟨x0, x1, x2, x3, x4⟩ := hdAt_blk BK; have f0 := BK.frozen 0; have f1 := BK.frozen 1; have f2 := BK.frozen 2; have f3 := BK.frozen 3; have f4 := BK.frozen 4)
     | (go_at_call 63; refine (beq_any A1 A x.length 64 c1 _ x (zs.take 64) _ (Reads.of_own ho1) (HR.out _ hb8) HX.out HZ4.out).mono ?_; rw [BB.out]; rintro e w9 ⟨rfl, rfl⟩))
 · refine bodyPost_ret (results_cell2 rfl _ _ w.heap.size 29 _ (0, 0) _ rfl (hd_store BK) Tryz.underlying29 rfl (by kernel_rfl)) rfl ?_
   exact ⟨rfl, hd_below hb8 (Nat.le_refl _)⟩
 · refine bodyPost_ret (results_cell2 rfl _ _ w.heap.size 29 _ (0, 0) _ rfl (hd_store BK) Tryz.underlying29 rfl (by kernel_rfl)) rfl ?_
   exact ⟨rfl, hd_below hb8 (Nat.le_refl _)⟩
theorem wordAt_bd {zs : List Int} (hz : AreB zs) (j : Nat) : 0 <= wordAt zs j /\ wordAt zs j < 18446744073709551616 := lev8_lt ((hz.drop _).take 8) (by rw [List.length_take]; omega)
theorem isH_dec {zs : List Int} (hz : AreB zs) (hn : 64 <= zs.length) :
 decide (encHR (wordAt zs 0) (wordAt zs 1) (IntKind.i64.wrap (wordAt zs 2)) (IntKind.i64.wrap (wordAt zs 3)) (wordAt zs 4) = zs.take 64) = isH zs /\
 (isH zs = true -> IntKind.i64.wrap (wordAt zs 2) = wordAt zs 2 /\ IntKind.i64.wrap (wordAt zs 3) = wordAt zs 3) := by
 have b2 := wordAt_bd hz 2
 have b3 := wordAt_bd hz 3
 have e2 : rightH (IntKind.i64.wrap (wordAt zs 2)) (IntKind.i64.wrap (wordAt zs 3)) = rightH (wordAt zs 2) (wordAt zs 3) := by
   rw [Bool.eq_iff_iff]
   simp only [rightH, IntKind.wrap_i64, Bool.and_eq_true, decide_eq_true_eq]
   omega
 unfold isH encHR
 rw [e2]
 by_cases hr : rightH (wordAt zs 2) (wordAt zs 3) = true
 · have hb := rightH_bd hr
   have w2 : IntKind.i64.wrap (wordAt zs 2) = wordAt zs 2 := by rw [IntKind.wrap_i64]; omega
   have w3 : IntKind.i64.wrap (wordAt zs 3) = wordAt zs 3 := by rw [IntKind.wrap_i64]; omega
   rw [if_pos hr, hr, decide_eq_true hn, w2, w3]
   exact ⟨rfl, fun _ => ⟨rfl, rfl⟩⟩
 · rw [if_neg hr, show rightH (wordAt zs 2) (wordAt zs 3) = false by simpa using hr]
   simp only [Bool.and_false, Bool.false_and]
   refine ⟨decide_eq_false fun h => ?_, fun h => by cases h⟩
   have := congrArg List.length h
   rw [List.length_take] at this
   simp at this
   omega
def decH (zs : List Int) : Value := if isH zs then hdV (wordAt zs 0) (wordAt zs 1) (wordAt zs 2) (wordAt zs 3) (wordAt zs 4) else hdZ
theorem isH_short {zs : List Int} (h : zs.length < 64) : isH zs = false := by
 unfold isH
 rw [decide_eq_false (by omega)]
 rfl
theorem hdec_any {B : Nat} (G : Nat) (A : Option Addr) (n c : Nat) (zs : List Int) (w : World) (hr : Reads w B 1 A n (cellsOf .u8 zs)) (hB : B <= w.heap.size) (hz : AreB zs) (hl : n <= c) (hcap : c <= 9223372036854775807) (ht : IsTable w G) :
 Calls Tryz.prog 30 #[.pointer (some ⟨G, 0, none⟩), .slice A n c] w fun e w' => e = .returned (.tuple #[decH zs, .bool (isH zs)]) /\ Below w.heap.size w w' := by
 have hlen := hr.len
 by_cases hn : n < 64
 · have h := hdec_short (.pointer (some ⟨G, 0, none⟩)) A n c w hn
   unfold decH
   rw [isH_short (by omega)]
   exact h
 · obtain ⟨h1, h2⟩ := isH_dec hz (by omega)
   have h := hdec_long G A n c zs _ _ _ _ _ _ _ (isH zs) w hr hB hz hl hcap (by omega) ht (five_of zs) rfl rfl h1
   refine h.mono fun e w' ⟨he, hb⟩ => ⟨?_, hb⟩
   rw [he]
   unfold decH
   by_cases hs : isH zs = true
   · rw [(h2 hs).1, (h2 hs).2]
   · rw [if_neg hs, if_neg hs]
end Go.Proofs.YtgcmbgniaffdlaaGreat
