import Derived.Test.YtgcmbgniaffdlaaGreatCaD
import Derived.Test.YtgcmbgniaffdlaaGreatEnLaw
set_option linter.unusedVariables false
set_option maxRecDepth 100000
set_option linter.unusedSimpArgs false
namespace Go.Proofs.YtgcmbgniaffdlaaGreat
open Go.RowKit Go.Shelf
attribute [local go_sem] Oper.semAt_some
theorem results_two {P : Program} {fn : Func} {p u : Tmp} {ty ty2 : TypeId} (h : fn.results = #[.cell p ty, .cell u ty2]) (tmps : Array Value) (w : World) (g : Nat) (t : TypeId) (cs : Array Value) (fr : Nat × Nat) (d : TypeDesc) (g2 : Nat) (t2 : TypeId) (cs2 : Array Value) (fr2 : Nat × Nat) (d2 : TypeDesc)
 (hp : tmps.getD p undef = .pointer (some ⟨g, 0, none⟩)) (hg : w.heap[g]? = some (.cells cs t fr)) (hp2 : tmps.getD u undef = .pointer (some ⟨g2, 0, none⟩)) (hg2 : w.heap[g2]? = some (.cells cs2 t2 fr2))
 (hu : P.underlying ty = some d) (hd : (match d with | .struct _ | .array _ _ => true | _ => false) = true) (hi : (P.info? ty).map (·.size) = some cs.size)
 (hu2 : P.underlying ty2 = some d2) (hd2 : (match d2 with | .struct _ | .array _ _ => true | _ => false) = true) (hi2 : (P.info? ty2).map (·.size) = some cs2.size) :
 (results fn tmps).run P w = .ok (.tuple #[.agg cs, .agg cs2]) w := by
 have hp' : tmps[p]?.getD undef = .pointer (some ⟨g, 0, none⟩) := by simpa using hp
 have hp2' : tmps[u]?.getD undef = .pointer (some ⟨g2, 0, none⟩) := by simpa using hp2
 simp [results, h, hp', hp2', asAddr, run_loadVar_row w g t ty cs fr d hg hu hd hi, run_loadVar_row w g2 t2 ty2 cs2 fr2 d2 hg2 hu2 hd2 hi2]
theorem header_any (a b D F : Int) (w : World) (ha : 0 <= a) (ha2 : a < 256) (hb : 0 <= b) (hb2 : b < 256) (hD : 1 + a % 5 = D) (hF : 1 + b % 5 = F) :
 Calls Tryz.prog 9 #[.int .u8 a, .int .u8 b] w fun e w' => e = .returned (.tuple #[hdV 1 2 D F 0, hdV 1 2 D F 0]) /\ Below w.heap.size w w' := by
 obtain ⟨x, hx⟩ : ∃ x, a % 5 = x := ⟨_, rfl⟩
 obtain ⟨y, hy⟩ : ∃ y, b % 5 = y := ⟨_, rfl⟩
 rw [hx] at hD
 rw [hy] at hF
 have hx2 : a.tmod 5 = x := by rw [Int.tmod_eq_emod_of_nonneg ha]; exact hx
 have hy2 : b.tmod 5 = y := by rw [Int.tmod_eq_emod_of_nonneg hb]; exact hy
 have t1 : IntKind.u8.wrap x = x := by rw [IntKind.wrap_u8]; omega
 have t2 : IntKind.u8.wrap y = y := by rw [IntKind.wrap_u8]; omega
 have t3 : IntKind.i64.wrap x = x := by rw [IntKind.wrap_i64]; omega
 have t4 : IntKind.i64.wrap y = y := by rw [IntKind.wrap_i64]; omega
 have t5 : IntKind.i64.wrap D = D := by rw [IntKind.wrap_i64]; omega
 have t6 : IntKind.i64.wrap F = F := by rw [IntKind.wrap_i64]; omega
 go_enter Tryz.func9, Tryz.ntmps9
 go_wp2
 have h1 := (Blk.new w 29 #[.int .u64 1, .int .u64 2, .int .i64 D, .int .i64 F, .int .u64 0]).alloc (.cells #[.int .u64 1, .int .u64 2, .int .i64 D, .int .i64 F, .int .u64 0] 30)
 have h2 := Blk.new (w.alloc (.cells #[.int .u64 1, .int .u64 2, .int .i64 D, .int .i64 F, .int .u64 0] 29)) 30 #[.int .u64 1, .int .u64 2, .int .i64 D, .int .i64 F, .int .u64 0]
 rw [World.size_alloc] at h2
 refine bodyPost_ret (results_two rfl _ _ w.heap.size 29 _ (0, 0) _ (w.heap.size + 1) 30 _ (0, 0) _ rfl h1 rfl h2 Tryz.underlying29 rfl (by kernel_rfl) Tryz.underlying30 rfl (by kernel_rfl)) rfl ?_
 exact ⟨rfl, (boxed _ _).alloc (by simp) _⟩
theorem nz_newB {i k d f h : Int} {j : Nat} (hj : 64 <= j) : nz (newB i k d f h) j = 0 := by
 unfold newB
 rw [nz_append, encH_length, if_neg (by omega)]
 exact nz_of_all (fun z hz => (List.mem_replicate.1 hz).2) _
theorem newC_ed {base : Nat} (G : Nat) (D F : Int) (lm : Nat) (w : World) (hr : rightH D F = true) (ht : IsTable w G) (hb : base <= w.heap.size) (hlm : lm <= 1048576) :
 Calls Tryz.prog 10 #[.pointer (some ⟨G, 0, none⟩), hdV 1 2 D F 0, .int .i64 lm] w fun e w' => ∃ p, e = .returned (.pointer (some ⟨p, 0, none⟩)) /\ Below w.heap.size w w' /\ ∃ S, ED 1 0 2 D F w' base S p lm (newB 1 2 D F 0) [] [] [] (newK D F) := by
 refine (inew_yes (base := base) G 1 2 D F 0 lm w hr ht hb).mono ?_
 rintro e w' ⟨p, bv, sv, rfl, h1, h2⟩
 obtain ⟨d1, d2, d3, d4⟩ := rightH_bd hr
 have hl : (newB 1 2 D F 0).length = newK D F := newB_length hr
 have hk := newK_eq hr
 have hdb : DB fldI 2 D F 0 0 (newB 1 2 D F 0) [] := DB.nothing ⟨d1, d2⟩ ⟨d3, d4⟩ hl (fun j hj => nz_newB (by omega))
 exact ⟨p, rfl, h1, _, ⟨⟨⟨newB 1 2 D F 0, newB 1 2 D F 0, [], lm⟩, bv, sv, [], h2, EV.nothing ⟨d1, d2⟩ ⟨d3, d4⟩ hdb, goodL_new (lm := lm) (newB_bytes _ _ _ _ _) hdb (fun j hj => nz_newB (by omega)), rfl, rfl, rfl, rfl⟩, ⟨hlm, by omega, by omega⟩, ⟨by omega, by omega⟩⟩⟩
theorem ex_bytes {hI hM k d f : Int} {w : World} {base : Nat} {S : Nat -> Prop} {p lim : Nat} {was : List Int} {R : List DR} {O : List GO} {Lr : List Int} {tl cnt : Nat} (h : EX hI hM k d f w base S p lim was R O Lr tl cnt) (ht : tl <= 1099511627776) :
 ∃ now l L, AreB now /\ EV k d f now l R O Lr /\ Later (newK d f) was now L /\ now.length <= tl /\ ∀ wx, Below w.heap.size w wx -> Calls Tryz.prog 15 #[.pointer (some ⟨p, 0, none⟩)] wx (Told now wx) := by
 obtain ⟨⟨m, bv, sv, l, H, V, hg, rfl, rfl, htl, hcnt⟩, hsm, hk⟩ := id h
 obtain ⟨L, hL⟩ := hg.later V.db.gb (newK_low d f V.db.hD V.db.hF).1
 exact ⟨m.b, l, L, hg.bb, V, hL, htl, fun wx hb => ibytes_any wx (H.below hb) (by omega)⟩
theorem txt_oneC (w : World) (t : TypeId) (a : ByteArray) (ha : a.size <= maxLen) : Txt (w.alloc (.cells #[.string a] t)) (w.heap.size + 1) (some ⟨w.heap.size, 0, none⟩) 1 1 [a] :=
 ⟨Reads.newN w t #[.string a], Nat.le_refl _, by omega, fun s hs => by rw [List.mem_singleton.1 hs]; exact ha⟩
theorem txt_twoC (w : World) (t : TypeId) (a b : ByteArray) (ha : a.size <= maxLen) (hb : b.size <= maxLen) : Txt (w.alloc (.cells #[.string a, .string b] t)) (w.heap.size + 1) (some ⟨w.heap.size, 0, none⟩) 2 2 [a, b] :=
 ⟨Reads.newN w t #[.string a, .string b], Nat.le_refl _, by omega, fun s hs => by
   rcases List.mem_cons.1 hs with rfl | hs
   · exact ha
   · rw [List.mem_singleton.1 hs]; exact hb⟩
theorem ca_chk1 : chkE [tA1] = 0 /\ chkL [tA1] = [tA1] := by
 have o2 : spOk tA1 = true := by kernel_rfl
 have k2 : okB tA1 = true := by unfold okB; rw [o2]; rfl
 have hE : chkE [tA1] = 0 := chk_good (by decide) (by decide) (fun j hj => by
   have : j = 0 := by simp at hj; omega
   subst this; exact k2) (by decide)
 refine ⟨hE, ?_⟩
 unfold chkL
 rw [if_pos hE, once_put cfT_tot]
 kernel_rfl
theorem ca_chk2 : chkE [tA1, tB1] = 0 /\ chkL [tA1, tB1] = [tA1, tB1] := by
 have o1 : spOk tB1 = true := by kernel_rfl
 have o2 : spOk tA1 = true := by kernel_rfl
 have k1 : okB tB1 = true := by unfold okB; rw [o1]; rfl
 have k2 : okB tA1 = true := by unfold okB; rw [o2]; rfl
 have hE : chkE [tA1, tB1] = 0 := chk_good (by decide) (by decide) (fun j hj => by
   have : j = 0 ∨ j = 1 := by simp at hj; omega
   rcases this with rfl | rfl
   · exact k2
   · exact k1) (by decide)
 refine ⟨hE, ?_⟩
 unfold chkL
 rw [if_pos hE, once_put cfT_tot]
 kernel_rfl
theorem Stands.now {k d f : Int} {bs now : List Int} {R : List DR} {O : List GO} {Lr : List Int} {L L2 : List SR} (h : Stands k d f bs R O Lr L) (H : Later (newK d f) bs now L2) (hb : AreB now) :
 newK d f <= bs.length /\ bs.length <= now.length /\ scanAt (now.take bs.length) (newK d f : Nat) L /\ lastE (newK d f : Nat) L = (bs.length : Int) /\ (cutW d f L now bs.length).1 = bs := by
 obtain rfl := h.later H
 obtain ⟨l, V, e⟩ := h.ex
 have hle := H.len
 have M : Mixed bs now (now.take bs.length) := ⟨by rw [List.length_take]; omega, hb.take _, V.db.gb.al, fun q hq => .inr (fun j j1 j2 => by rw [nz_take, if_pos (by omega)])⟩
 obtain ⟨⟨h1, h2⟩, h3⟩ := h.mixed H M
 exact ⟨V.db.gb.low, hle, h1, h.scan.2, h3⟩
section
variable {w1 : World} {base : Nat} {S : Nat -> Prop} {p : Nat} {bs : List Int}
theorem ca_add1 (hD : ED 1 0 2 2 2 w1 base S p 9000 bs [] [] [] 288) :
 Calls Tryz.prog 13 #[.pointer (some ⟨p, 0, none⟩), .agg #[.int .u64 1, .int .u64 0, .int .u64 0, .int .u64 0, .slice (some ⟨w1.heap.size, 0, none⟩) 1 1]] (w1.alloc (.cells #[.string tA1] 9)) fun e w2 => ∃ (a : Nat) (S2 : Nat -> Prop) (R' : List DR) (o : GO) (Lr : List Int), e = .returned (.tuple #[.int .i64 a, .int .i64 0]) /\ Below base w1 w2 /\ EX 1 0 2 2 2 w2 base S2 p 9000 bs R' [o] Lr 1608 300 /\ EL R' [o] Lr [[tA1].map nums] := by
 have hb2 := boxed w1 (.cells #[.string tA1] 9)
 have hD2 := hD.below hb2
 refine (eadd_any (B := w1.heap.size + 1) ⟨1, 0, 0, 0, some ⟨w1.heap.size, 0, none⟩, 1, 1, [tA1]⟩ ⟨show (0 : Int) <= 1 /\ (1 : Int) < 18446744073709551616 by decide, show (0 : Int) <= 0 /\ (0 : Int) < 18446744073709551616 by decide, show (0 : Int) <= 0 /\ (0 : Int) < 18446744073709551616 by decide, show (0 : Int) <= 0 /\ (0 : Int) < 18446744073709551616 by decide, txt_oneC w1 9 tA1 (by decide)⟩ (by simp) (by show 1 <= 9223372036854775807; omega) hD2 EL.nothing (by decide) (by omega)).mono ?_
 have hbud : budE [] [] ((chkL [tA1]).map nums) = 1320 := by rw [ca_chk1.2]; decide
 rintro e w2 (⟨h1, -⟩ | ⟨-, a, R', ps, rfl, ha1, ha2, hc2, hx2, hE2, -⟩ | ⟨-, hlm, -⟩)
 · exact absurd ca_chk1.1 h1
 · refine ⟨a, _, R', _, _, rfl, (hb2.mono hD.bas).trans (hc2.below (by have := hD.bas; have := hb2.size; omega) (fun q _ hq => (hD2.foot q hq).1)), hx2.more (by have := hbud; show 288 + budE [] [] ((chkL [tA1]).map nums) <= 1608; omega) (Nat.le_refl _) (by omega), ?_⟩
   have e2 : chkL [tA1] = [tA1] := ca_chk1.2
   rw [show (⟨1, 0, 0, 0, some ⟨w1.heap.size, 0, none⟩, 1, 1, [tA1]⟩ : RC).its = [tA1] from rfl, e2] at hE2
   exact hE2
 · exfalso
   have : 9000 < 288 + budE [] [] ((chkL [tA1]).map nums) := hlm
   omega
theorem ca_add2 {R : List DR} {o : GO} {Lr : List Int} (hD : ED 1 0 2 2 2 w1 base S p 9000 bs R [o] Lr 1608) (hE : EL R [o] Lr [[tA1].map nums]) :
 Calls Tryz.prog 13 #[.pointer (some ⟨p, 0, none⟩), .agg #[.int .u64 2, .int .u64 0, .int .u64 0, .int .u64 0, .slice (some ⟨w1.heap.size, 0, none⟩) 2 2]] (w1.alloc (.cells #[.string tA1, .string tB1] 9)) fun e w2 => ∃ (a : Nat) (S2 : Nat -> Prop) (R' : List DR) (O2 : List GO) (Lr2 : List Int), e = .returned (.tuple #[.int .i64 a, .int .i64 0]) /\ Below base w1 w2 /\ Chg S w1 w2 /\ EX 1 0 2 2 2 w2 base S2 p 9000 bs R' O2 Lr2 9000 300 /\ Lr.length = 1 /\ Lr2.length = 2 := by
 have hb2 := boxed w1 (.cells #[.string tA1, .string tB1] 9)
 have hD2 := hD.below hb2
 refine (eadd_any (B := w1.heap.size + 1) ⟨2, 0, 0, 0, some ⟨w1.heap.size, 0, none⟩, 2, 2, [tA1, tB1]⟩ ⟨show (0 : Int) <= 2 /\ (2 : Int) < 18446744073709551616 by decide, show (0 : Int) <= 0 /\ (0 : Int) < 18446744073709551616 by decide, show (0 : Int) <= 0 /\ (0 : Int) < 18446744073709551616 by decide, show (0 : Int) <= 0 /\ (0 : Int) < 18446744073709551616 by decide, txt_twoC w1 9 tA1 tB1 (by decide) (by decide)⟩ (by simp) (by show 2 <= 9223372036854775807; omega) hD2 hE (by show 1 <= 900; omega) (by omega)).mono ?_
 have hbud : budE R [o] ((chkL [tA1, tB1]).map nums) <= 2640 := by
   rw [ca_chk2.2]
   have h1 := newsD_le R ([tA1, tB1].map nums)
   have h2 : ([tA1, tB1].map nums).length = 2 := rfl
   have h3 : rfE [o] = 56 := rfl
   have h4 : apE [o] = 56 := rfl
   unfold budE
   rw [h3, h4]
   omega
 rintro e w2 (⟨h1, -⟩ | ⟨-, a, R', ps, rfl, ha1, ha2, hc2, hx2, hE2, -⟩ | ⟨-, hlm, -⟩)
 · exact absurd ca_chk2.1 h1
 · have hl := hE.lr
   have hl2 := hE2.lr
   refine ⟨a, _, R', _, _, rfl, (hb2.mono hD.bas).trans (hc2.below (by have := hD.bas; have := hb2.size; omega) (fun q _ hq => (hD2.foot q hq).1)), (Chg.of_below hb2 (Nat.le_refl _) S).trans hc2 (fun _ _ e => e), hx2.more (by have := hbud; show 1608 + budE R [o] ((chkL [tA1, tB1]).map nums) <= 9000; omega) (Nat.le_refl _) (by omega), by rw [hl]; rfl, by rw [hl2]; rfl⟩
 · exfalso
   have : 9000 < 1608 + budE R [o] ((chkL [tA1, tB1]).map nums) := hlm
   omega
end
structure HdTwo (w1 W2 : World) (D F : Int) : Prop where
 below : Below w1.heap.size w1 W2
 hd : Blk W2 w1.heap.size 29 #[.int .u64 1, .int .u64 2, .int .i64 D, .int .i64 F, .int .u64 0]
 rf : Blk W2 (w1.heap.size + 1) 30 #[.int .u64 1, .int .u64 2, .int .i64 D, .int .i64 F, .int .u64 0]
theorem hdTwo (w1 : World) (D F : Int) : HdTwo w1 ((w1.alloc (.cells #[.int .u64 1, .int .u64 2, .int .i64 D, .int .i64 F, .int .u64 0] 29)).alloc (.cells #[.int .u64 1, .int .u64 2, .int .i64 D, .int .i64 F, .int .u64 0] 30)) D F := by
 refine ⟨(boxed w1 _).alloc (boxed w1 _).size _, (Blk.new w1 _ _).alloc _, ?_⟩
 have := Blk.new (w1.alloc (.cells #[.int .u64 1, .int .u64 2, .int .i64 D, .int .i64 F, .int .u64 0] 29)) 30 #[.int .u64 1, .int .u64 2, .int .i64 D, .int .i64 F, .int .u64 0]
 rw [World.size_alloc] at this
 exact this
set_option maxHeartbeats 4000000 in
theorem clawake_any (w : World) : Calls Tryz.prog 7 #[] w fun e w' => e = .returned (.bool true) /\ Below w.heap.size w w' := by
 have HH := Lib.hid (header_any 1 1 2 2 w (by decide) (by decide) (by decide) (by decide) (by decide) (by decide))
 have NW := Lib.hid (fun (base G : Nat) (wx : World) (hb : base <= wx.heap.size) (ht : IsTable wx G) => newC_ed (base := base) G 2 2 9000 wx (by decide) ht hb (by omega))
 have hk : newK 2 2 = 288 := by decide
 rw [hk] at NW
 have HKN := Lib.hid hk
 clear hk
 go_enter Tryz.func7, Tryz.ntmps7
 go_wp2_with (go_at_call 9; refine HH.out.mono ?_; rintro e w1 ⟨rfl, hb1⟩)
 obtain ⟨W2, hW2, X2⟩ : ∃ W2, (w1.alloc (.cells #[.int .u64 1, .int .u64 2, .int .i64 2, .int .i64 2, .int .u64 0] 29)).alloc (.cells #[.int .u64 1, .int .u64 2, .int .i64 2, .int .i64 2, .int .u64 0] 30) = W2 /\ Hid (HdTwo w1 W2 2 2) := ⟨_, rfl, Lib.hid (hdTwo _ _ _)⟩
 rw [hW2]
 have hb : Below W2.heap.size W2 W2.drew := below_drewn (Below.refl _ _) 1
 have HD := Lib.hid (fun wx (hx : Below W2.heap.size W2 wx) => (hdAt_blk (X2.out.hd.below hx X2.out.hd.lt) : HdAt wx w1.heap.size 1 2 2 2 0))
 have HK := Lib.hid (HD.out _ hb)
 have HB1 := Lib.hid (hb1.trans (X2.out.below.mono hb1.size))
 clear hW2 hb1
 obtain ⟨g1, hg1⟩ : ∃ g1, w1.heap.size = g1 := ⟨_, rfl⟩
 rw [hg1] at HD HK
 try rw [hg1]
 clear hg1
 go_region_held3 (fun w' => HdAt w' g1 1 2 2 2 0)
   (first | assumption | exact HK.out | exact HD.out _ (by assumption))
   (first
     | (go_at_call 11; refine (crcMake_any _).mono ?_; rintro e w3 ⟨rfl, ht, hb3⟩; have HT := Lib.hid ht; have hb := hb.trans (hb3.mono hb.size); clear ht hb3)
     | (go_at_call 10; refine (NW.out W2.heap.size _ w3 hb.size HT.out).mono ?_; rintro e w4 ⟨p, rfl, hb4, S4, hd4⟩; have HX := Lib.hid hd4; have hb := hb.trans (hb4.mono hb.size); clear hb4 hd4))
 have HB4 := Lib.hid hb
 have m1 : True := trivial
 clear hb HK
 go_wp2_with (first
   | (clear m1; go_at_call 13; refine (ca_add1 HX.out).mono ?_; rintro e w5 ⟨a5, S5, R5, o5, Lr5, rfl, hb5, hx5, hE5⟩; have HX5 := Lib.hid (And.intro hx5 (And.intro hE5 (HB4.out.trans hb5))); clear hb5 hx5 hE5)
   | (go_at_call 14; refine (done_later HX5.out.1 (by omega)).mono ?_; rintro e w6 ⟨rfl, hc6, bs6, L6, hd6, -⟩; have HX6 := Lib.hid (And.intro hd6 (HX5.out.2.2.trans (hc6.below HX5.out.2.2.size (fun q _ hq => (HX5.out.1.foot q hq).1)))); clear hc6 hd6)
   | (go_at_call 15; refine (bytes_ed HX6.out.1).mono ?_; rintro e w7 ⟨A7, N7, c7, rfl, hN7, ho7, hb7, hl7, hc7⟩; have HX7 := Lib.hid (And.intro hN7 (And.intro ho7 (And.intro hb7 (And.intro hl7 (And.intro hc7 (HX6.out.2.trans (hb7.mono HX6.out.2.size))))))); clear hN7 ho7 hb7 hl7 hc7)
   | (go_at_call 13; refine (ca_add2 (HX6.out.1.below HX7.out.2.2.1) HX5.out.2.1).mono ?_; rintro e w8 ⟨a8, S8, R8, O8, Lr8, rfl, hb8, hc8, hx8, h81, h82⟩; have HX8 := Lib.hid (And.intro hx8 (And.intro h81 (And.intro h82 (And.intro hc8 (HX7.out.2.2.2.2.2.trans hb8))))); clear hb8 hc8 hx8 h81 h82))
 obtain ⟨now, l8, L8, hnb, hV8, hL8, hnl, hby⟩ := ex_bytes HX8.out.1 (by omega)
 obtain ⟨L, hSt⟩ := HX6.out.1.old.stands
 obtain ⟨q1, q2, q3, q4, q5⟩ := hSt.now hL8 hnb
 obtain ⟨l6, hV6, -⟩ := hSt.ex
 have hcut : 0 < (cutW 2 2 L now bs6.length).2.length := by
   rcases Nat.eq_zero_or_pos (cutW 2 2 L now bs6.length).2.length with h0 | h0
   · exfalso
     have h1 := (cutF_same (bs6.length : Nat) (wordsS (newK 2 2) L) (now.take bs6.length, [])).2 h0
     have h2 : (cutW 2 2 L now bs6.length).1 = now.take bs6.length := h1
     rw [q5] at h2
     exact few_differ hV6 hV8 HX8.out.2.1 HX8.out.2.2.1 q2 h2
   · exact h0
 have hb : Below w8.heap.size w8 w8.drew := below_drewn (Below.refl _ _) 1
 have HD8 := Lib.hid (fun wx (hx : Below w8.heap.size w8 wx) => HD.out wx (HX8.out.2.2.2.2.trans (hx.mono HX8.out.2.2.2.2.size)))
 have HK := Lib.hid (HD8.out _ hb)
 have BY := Lib.hid hby
 have CU := Lib.hid (fun (A : Option Addr) (c : Nat) (wx : World) (hr : Reads wx wx.heap.size 1 A now.length (cellsOf .u8 now)) (hl : now.length <= c) (hc : c <= 9223372036854775807) => cut_yes 1 2 2 2 0 A now.length c now bs6.length L wx hr (Nat.le_refl _) hnb hl hc (by omega) (by decide) q1 q2 q3 q4)
 rw [q5] at CU
 obtain ⟨T, hT⟩ : ∃ T, bs6.length = T := ⟨_, rfl⟩
 rw [hT] at CU hcut
 have hNT : N7 = T := HX7.out.1.trans hT
 have hTpos : decide (0 < T) = true := decide_eq_true (by have := HKN.out; omega)
 obtain ⟨ct, hct⟩ : ∃ ct, (cutW 2 2 L now T).2 = ct := ⟨_, rfl⟩
 rw [hct] at CU hcut
 have hcd : decide (0 < ct.length) = true := decide_eq_true hcut
 have hbB : AreB bs6 := hSt.by_
 have SM := Lib.hid (fun (A A' : Option Addr) (c c' B B' : Nat) (wx : World) (h1 : Reads wx B 1 A T (cellsOf .u8 bs6)) (h2 : Reads wx B' 1 A' T (cellsOf .u8 bs6)) => same_yes A A' T T c c' bs6 bs6 wx h1 h2 hbB (Lib.hid rfl))
 have HN := Lib.hid hnl
 have HR7 := Lib.hid (fun wx (hx : Below w8.heap.size w8 wx) => ((Reads.of_own HX7.out.2.1).chg HX8.out.2.2.2.1 (Nat.le_refl _) (fun hn ad ha e => by
   subst ha
   have h1 := (HX7.out.2.1.lt ad.block rfl).1
   have h2 := (HX6.out.1.foot _ e).2
   omega)).below (hx.mono HX8.out.2.2.2.1.size))
 subst hNT
 clear hby hL8 hV8 hnl q1 q2 q3 q4 q5 hSt hV6 hcut hct hT HX HX5 HX6
 go_region_held3 (fun w' => HdAt w' g1 1 2 2 2 0)
   (first | assumption | exact HK.out | exact HD8.out _ (by assumption))
   (first
     | (go_at_call 15; refine (BY.out _ hb).mono ?_; rintro e w9 ⟨A9, N9, c9, rfl, hN9, ho9, hb9, hl9, hc9⟩; obtain rfl := hN9; have H9 := Lib.hid (And.intro ho9 (And.intro hl9 hc9)); have hb := hb.trans (hb9.mono hb.size); clear ho9 hb9 hl9 hc9)
     | (go_at_call 16; refine (CU.out A9 c9 w9 (Reads.of_own H9.out.1) H9.out.2.1 H9.out.2.2).mono ?_; rintro e w10 ⟨A1, c1, v, rfl, ho1, ho2, hl1, hc1, hb10⟩; obtain ⟨A2, c2, rfl, -, -⟩ := own_form ho2; have H10 := Lib.hid (And.intro ho1 ho2); have hb := hb.trans (hb10.mono hb.size); clear ho1 ho2 hl1 hc1 hb10))
 go_wp2_with (go_at_call 19; refine (SM.out A1 A7 c1 c7 _ _ _ (Reads.of_own H10.out.1) (HR7.out _ hb)).mono ?_; rintro e w11 ⟨rfl, rfl⟩)
 go_ret
 exact ⟨rfl, HB1.out.trans ((HX8.out.2.2.2.2.trans (hb.mono HX8.out.2.2.2.2.size)).mono HB1.out.size)⟩
end Go.Proofs.YtgcmbgniaffdlaaGreat
