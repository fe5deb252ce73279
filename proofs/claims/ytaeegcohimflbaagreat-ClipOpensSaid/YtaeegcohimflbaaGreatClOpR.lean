import Derived.Test.YtaeegcohimflbaaGreatClOpen
set_option linter.unusedVariables false
set_option maxRecDepth 100000
set_option linter.unusedSimpArgs false
namespace Go.Proofs.YtaeegcohimflbaaGreat
open Go.RowKit Go.Shelf
theorem results_open5 {P : Program} {fn : Func} {r p q u v : Tmp} {ty ty2 : TypeId} (h : fn.results = #[.tmp r, .cell p ty, .cell q ty2, .tmp u, .tmp v]) (tmps : Array Value) (w : World) (g : Nat) (t : TypeId) (cs : Array Value) (fr : Nat × Nat) (d : TypeDesc)
 (g2 : Nat) (t2 : TypeId) (cs2 : Array Value) (fr2 : Nat × Nat) (d2 : TypeDesc)
 (hp : tmps.getD p undef = .pointer (some ⟨g, 0, none⟩)) (hg : w.heap[g]? = some (.cells cs t fr))
 (hu : P.underlying ty = some d) (hd : (match d with | .struct _ | .array _ _ => true | _ => false) = true) (hi : (P.info? ty).map (·.size) = some cs.size)
 (hp2 : tmps.getD q undef = .pointer (some ⟨g2, 0, none⟩)) (hg2 : w.heap[g2]? = some (.cells cs2 t2 fr2))
 (hu2 : P.underlying ty2 = some d2) (hd2 : (match d2 with | .struct _ | .array _ _ => true | _ => false) = true) (hi2 : (P.info? ty2).map (·.size) = some cs2.size) :
 (results fn tmps).run P w = .ok (.tuple #[tmps.getD r undef, .agg cs, .agg cs2, tmps.getD u undef, tmps.getD v undef]) w := by
 have hp' : tmps[p]?.getD undef = .pointer (some ⟨g, 0, none⟩) := by simpa using hp
 have hp2' : tmps[q]?.getD undef = .pointer (some ⟨g2, 0, none⟩) := by simpa using hp2
 simp [results, h, hp', hp2', asAddr, run_loadVar_row w g t ty cs fr d hg hu hd hi, run_loadVar_row w g2 t2 ty2 cs2 fr2 d2 hg2 hu2 hd2 hi2]
abbrev hZC : Array Value := #[.int .u64 0, .int .u64 0, .int .i64 0, .int .i64 0, .int .u64 0]
structure RpAt (w W : World) (gh gs : Nat) (i k d f m a t cn fi la st : Int) (ch cs : Array Value) : Prop where
 below : Below w.heap.size w W
 rh : Blk W w.heap.size 27 ch
 rs : Blk W (w.heap.size + 1) 47 cs
 hd : Blk W gh 27 #[.int .u64 i, .int .u64 k, .int .i64 d, .int .i64 f, .int .u64 m]
 sl : Blk W gs 47 (sC a t cn fi la st)
 ne : w.heap.size + 1 < gh /\ w.heap.size + 1 < gs
theorem RpAt.bel {W' : World} {w W : World} {gh gs : Nat} {i k d f m a t cn fi la st : Int} {ch cs : Array Value} (h : RpAt w W gh gs i k d f m a t cn fi la st ch cs) (hb : Below W.heap.size W W') : RpAt w W' gh gs i k d f m a t cn fi la st ch cs :=
 ⟨h.below.trans (hb.mono h.below.size), h.rh.below hb h.rh.lt, h.rs.below hb h.rs.lt, h.hd.below hb h.hd.lt, h.sl.below hb h.sl.lt, h.ne⟩
theorem RpAt.make {w w1 w2 : World} {i k d f m a t cn fi la st : Int} (hb1 : Below ((w.alloc (.cells hZC 27)).alloc (.cells sZC 47)).heap.size ((w.alloc (.cells hZC 27)).alloc (.cells sZC 47)) w1)
 (hb2 : Below (w1.alloc (.cells #[.int .u64 i, .int .u64 k, .int .i64 d, .int .i64 f, .int .u64 m] 27)).heap.size (w1.alloc (.cells #[.int .u64 i, .int .u64 k, .int .i64 d, .int .i64 f, .int .u64 m] 27)) w2) :
 RpAt w (w2.alloc (.cells (sC a t cn fi la st) 47)) w1.heap.size w2.heap.size i k d f m a t cn fi la st hZC sZC := by
 have q1 : Below w1.heap.size w1 w2 := (boxed w1 _).trans (hb2.mono (boxed w1 (.cells #[.int .u64 i, .int .u64 k, .int .i64 d, .int .i64 f, .int .u64 m] 27)).size)
 have s1 := hb1.size
 rw [World.size_alloc, World.size_alloc] at s1
 have s2 := hb2.size
 rw [World.size_alloc] at s2
 have q00 : Below w.heap.size w ((w.alloc (.cells hZC 27)).alloc (.cells sZC 47)) := (boxed w _).alloc (boxed w _).size _
 have q0 : Below w.heap.size w w1 := q00.trans (hb1.mono q00.size)
 have r2 := Blk.new (w.alloc (.cells hZC 27)) 47 sZC
 rw [World.size_alloc] at r2
 refine ⟨(q0.trans (q1.mono q0.size)).alloc (by omega) _, ?_, ?_, ?_, Blk.new w2 _ _, ⟨by omega, by omega⟩⟩
 · exact ((((Blk.new w 27 hZC).alloc _).below hb1 (by rw [World.size_alloc, World.size_alloc]; omega)).below q1 (by omega)).alloc _
 · exact ((r2.below hb1 (by simp)).below q1 (by omega)).alloc _
 · exact ((Blk.new w1 27 _).below hb2 (by simp)).alloc _
theorem RpAt.cells {w W : World} {gh gs : Nat} {i k d f m a t cn fi la st : Int} {ch cs : Array Value} (h : RpAt w W gh gs i k d f m a t cn fi la st ch cs) :
 W.cell? ⟨gh, 0, none⟩ = some (.int .u64 i) /\ W.cell? ⟨gh, 1, none⟩ = some (.int .u64 k) /\ W.cell? ⟨gh, 2, none⟩ = some (.int .i64 d) /\ W.cell? ⟨gh, 3, none⟩ = some (.int .i64 f) /\ W.cell? ⟨gh, 4, none⟩ = some (.int .u64 m) /\ W.cell? ⟨gs, 0, none⟩ = some (.int .u64 a) /\ W.cell? ⟨gs, 1, none⟩ = some (.int .u64 t) /\ W.cell? ⟨gs, 2, none⟩ = some (.int .u64 cn) /\ W.cell? ⟨gs, 3, none⟩ = some (.int .u64 fi) /\ W.cell? ⟨gs, 4, none⟩ = some (.int .u64 la) /\ W.cell? ⟨gs, 5, none⟩ = some (.int .u64 st) := by
 obtain ⟨x0, x1, x2, x3, x4, x5⟩ := slAt_blk h.sl
 have y := h.hd
 exact ⟨y.cell 0, y.cell 1, y.cell 2, y.cell 3, y.cell 4, x0, x1, x2, x3, x4, x5⟩
theorem RpAt.zero {w W : World} {gh gs : Nat} {i k d f m a t cn fi la st : Int} {cs : Array Value} (h : RpAt w W gh gs i k d f m a t cn fi la st hZC cs) :
 (W.cell? ⟨w.heap.size, 0, none⟩ = some (.int .u64 0) /\ W.cell? ⟨w.heap.size, 1, none⟩ = some (.int .u64 0) /\ W.cell? ⟨w.heap.size, 2, none⟩ = some (.int .i64 0) /\ W.cell? ⟨w.heap.size, 3, none⟩ = some (.int .i64 0) /\ W.cell? ⟨w.heap.size, 4, none⟩ = some (.int .u64 0)) /\
 (W.frozen? ⟨w.heap.size, 0, none⟩ = false /\ W.frozen? ⟨w.heap.size, 1, none⟩ = false /\ W.frozen? ⟨w.heap.size, 2, none⟩ = false /\ W.frozen? ⟨w.heap.size, 3, none⟩ = false /\ W.frozen? ⟨w.heap.size, 4, none⟩ = false) := by
 obtain ⟨x0, x1, x2, x3, x4⟩ := hdAt_blk h.rh
 exact ⟨⟨x0, x1, x2, x3, x4⟩, h.rh.frozen 0, h.rh.frozen 1, h.rh.frozen 2, h.rh.frozen 3, h.rh.frozen 4⟩
theorem RpAt.zeroS {w W : World} {gh gs : Nat} {i k d f m a t cn fi la st : Int} {ch : Array Value} (h : RpAt w W gh gs i k d f m a t cn fi la st ch sZC) :
 (W.cell? ⟨w.heap.size + 1, 0, none⟩ = some (.int .u64 0) /\ W.cell? ⟨w.heap.size + 1, 1, none⟩ = some (.int .u64 0) /\ W.cell? ⟨w.heap.size + 1, 2, none⟩ = some (.int .u64 0) /\ W.cell? ⟨w.heap.size + 1, 3, none⟩ = some (.int .u64 0) /\ W.cell? ⟨w.heap.size + 1, 4, none⟩ = some (.int .u64 0) /\ W.cell? ⟨w.heap.size + 1, 5, none⟩ = some (.int .u64 0)) /\
 (W.frozen? ⟨w.heap.size + 1, 0, none⟩ = false /\ W.frozen? ⟨w.heap.size + 1, 1, none⟩ = false /\ W.frozen? ⟨w.heap.size + 1, 2, none⟩ = false /\ W.frozen? ⟨w.heap.size + 1, 3, none⟩ = false /\ W.frozen? ⟨w.heap.size + 1, 4, none⟩ = false /\ W.frozen? ⟨w.heap.size + 1, 5, none⟩ = false) :=
 ⟨slAt_blk h.rs, h.rs.frozen 0, h.rs.frozen 1, h.rs.frozen 2, h.rs.frozen 3, h.rs.frozen 4, h.rs.frozen 5⟩
theorem RpAt.st1 {w W : World} {gh gs : Nat} {i k d f m a t cn fi la st : Int} {cs : Array Value} {a' b' c' d' e' : Value} (h : RpAt w W gh gs i k d f m a t cn fi la st hZC cs) :
 RpAt w (((((W.setCell ⟨w.heap.size, 0, none⟩ a').setCell ⟨w.heap.size, 1, none⟩ b').setCell ⟨w.heap.size, 2, none⟩ c').setCell ⟨w.heap.size, 3, none⟩ d').setCell ⟨w.heap.size, 4, none⟩ e') gh gs i k d f m a t cn fi la st #[a', b', c', d', e'] cs := by
 have n := h.ne
 exact ⟨hd_below h.below (Nat.le_refl _), hd_store h.rh, hd_far h.rs (by omega), hd_far h.hd (by omega), hd_far h.sl (by omega), n⟩
theorem RpAt.st2 {w W : World} {gh gs : Nat} {i k d f m a t cn fi la st : Int} {ch : Array Value} {a' b' c' d' e' f' : Value} (h : RpAt w W gh gs i k d f m a t cn fi la st ch sZC) :
 RpAt w ((((((W.setCell ⟨w.heap.size + 1, 0, none⟩ a').setCell ⟨w.heap.size + 1, 1, none⟩ b').setCell ⟨w.heap.size + 1, 2, none⟩ c').setCell ⟨w.heap.size + 1, 3, none⟩ d').setCell ⟨w.heap.size + 1, 4, none⟩ e').setCell ⟨w.heap.size + 1, 5, none⟩ f') gh gs i k d f m a t cn fi la st ch #[a', b', c', d', e', f'] := by
 have n := h.ne
 exact ⟨sl_below h.below (by omega), sl_far h.rh (by omega), sl_store h.rs, sl_far h.hd (by omega), sl_far h.sl (by omega), n⟩
section
variable {B : Nat} {A : Option Addr} {n c : Nat} {zs : List Int} {w : World} {i k d f m a t cn fi la st : Int}
set_option maxHeartbeats 4000000 in
theorem ropen_bad (hr : Reads w B 1 A n (cellsOf .u8 zs)) (hB : B <= w.heap.size) (hz : AreB zs) (hl : n <= c) (hcap : c <= 9223372036854775807) (hm : n <= 549755813888) (H : OpHd zs i k d f m a t cn fi la st)
 (hno : isH zs = false ∨ chB zs = false ∨ (n : Int) < t ∨ ∃ (T : Nat) (L : List SR), isH zs = true /\ t = T /\ T <= n /\ scanAt (zs.take T) (newK d f : Nat) L /\ (((T : Nat) : Int) < ((newK d f : Nat) : Int) ∨ wholeB n (newK d f : Nat) T L = false)) :
 Calls Tryz.prog 16 #[.slice A n c] w fun e w' => e = .returned (.tuple #[.slice none 0 0, hdV 0 0 0 0 0, sZ, .slice none 0 0, .bool false]) /\ Below w.heap.size w w' := by
 have DH := Lib.hid (fun wx (hx : Below w.heap.size w wx) => rhdec_any A n c zs wx (hr.below (hx.mono hB)) (Nat.le_trans hB hx.size) hz hl hcap)
 have DS := Lib.hid (fun wx (hx : Below w.heap.size w wx) => rschoose_any A n c zs wx (hr.below (hx.mono hB)) (Nat.le_trans hB hx.size) hz hl hcap)
 rw [H.hd] at DH
 rw [H.sl] at DS
 have tb := H.tb
 have HR := H.right
 obtain ⟨bh, hbh⟩ : ∃ b, isH zs = b := ⟨_, rfl⟩
 obtain ⟨bs, hbs⟩ : ∃ b, chB zs = b := ⟨_, rfl⟩
 rw [hbh] at DH hno HR
 rw [hbs] at DS hno
 have CN := Lib.hid (fun (wx : World) (hx : Below w.heap.size w wx) (T : Nat) (L : List SR) (hR : rightH d f = true) (hT : T <= n) (hL : scanAt (zs.take T) (newK d f : Nat) L) (h : ((T : Nat) : Int) < ((newK d f : Nat) : Int) ∨ wholeB n (newK d f : Nat) T L = false) =>
   rcut_no i k d f m A n c zs T L wx (hr.below (hx.mono hB)) (Nat.le_trans hB hx.size) hz hl hcap hm hR (by omega) (by omega) (by rw [show cutN n (T : Int) = T by unfold cutN; omega]; exact hL) h)
 have hno2 : bh = false ∨ (bh = true /\ bs = false) ∨ (bh = true /\ bs = true /\ (n : Int) < t) ∨ (bh = true /\ bs = true /\ ¬ (n : Int) < t /\ ∃ T : Nat, t = T /\ T <= n /\ Hid (∀ wx, Below w.heap.size w wx -> Calls Tryz.prog 9 #[hdV i k d f m, .slice A n c, .int .i64 T] wx fun e w' => e = .returned (.tuple #[.slice none 0 0, .slice none 0 0, .bool false]) /\ Below wx.heap.size wx w')) := by
   cases bh
   · exact .inl rfl
   cases bs
   · exact .inr (.inl ⟨rfl, rfl⟩)
   by_cases hnt : (n : Int) < t
   · exact .inr (.inr (.inl ⟨rfl, rfl, hnt⟩))
   · rcases hno with h | h | h | ⟨T, L, -, e, hT, hL, h⟩
     · cases h
     · cases h
     · exact absurd h hnt
     · exact .inr (.inr (.inr ⟨rfl, rfl, hnt, T, e, hT, Lib.hid (fun wx hx => CN.out wx hx T L (HR rfl) hT hL h)⟩))
 have hb0 : Below w.heap.size w ((w.alloc (.cells hZC 27)).alloc (.cells sZC 47)) := (boxed w _).alloc (boxed w _).size _
 have HB0 := Lib.hid hb0
 have hnw : IntKind.u64.wrap (n : Int) = n := by rw [IntKind.wrap_u64]; omega
 have HN2 := Lib.hid hno2
 clear hr hz H hbh hbs hb0 hno HR CN hno2
 go_enter Tryz.func16, Tryz.ntmps16
 go_upto_region 3 with (first
   | (go_at_call 43; refine (DH.out _ HB0.out).mono ?_; rintro e w1 ⟨rfl, hb1⟩; have hbw1 := HB0.out.trans (hb1.mono HB0.out.size); have hbw1' := hbw1.alloc hbw1.size (.cells #[.int .u64 i, .int .u64 k, .int .i64 d, .int .i64 f, .int .u64 m] 27))
   | (go_at_call 44; refine (DS.out _ hbw1').mono ?_; rintro e w2 ⟨rfl, hb2⟩))
 have OA := RpAt.make (a := a) (t := t) (cn := cn) (fi := fi) (la := la) (st := st) hb1 hb2
 unfold sC at OA
 clear hbw1 hbw1' hb1 hb2 DH DS HB0
 obtain ⟨W, hW⟩ : ∃ W, w2.alloc (.cells #[.int .u64 a, .int .u64 t, .int .u64 cn, .int .u64 fi, .int .u64 la, .int .u64 st] 47) = W := ⟨_, rfl⟩
 rw [hW] at OA ⊢
 clear hW
 generalize w1.heap.size = gh at OA ⊢
 generalize w2.heap.size = gs at OA ⊢
 have HO := Lib.hid OA
 obtain ⟨y0, y1, y2, y3, y4, x0, x1, x2, x3, x4, x5⟩ := OA.cells
 obtain ⟨⟨z0, z1, z2, z3, z4⟩, f0, f1, f2, f3, f4⟩ := OA.zero
 obtain ⟨⟨u0, u1, u2, u3, u4, u5⟩, g0, g1, g2, g3, g4, g5⟩ := OA.zeroS
 clear OA
 rcases HN2.out with rfl | ⟨rfl, rfl⟩ | ⟨rfl, rfl, h⟩ | ⟨rfl, rfl, hnt, T, rfl, hT, hC⟩
 · clear HN2
   go_wp2
   refine bodyPost_ret (results_open5 rfl _ _ w.heap.size 27 _ (0, 0) _ (w.heap.size + 1) 47 _ (0, 0) _ rfl HO.out.st1.st2.rh Tryz.underlying27 rfl (by kernel_rfl) rfl HO.out.st1.st2.rs Tryz.underlying47 rfl (by kernel_rfl)) rfl ?_
   exact ⟨rfl, HO.out.st1.st2.below⟩
 · clear HN2
   go_wp2
   refine bodyPost_ret (results_open5 rfl _ _ w.heap.size 27 _ (0, 0) _ (w.heap.size + 1) 47 _ (0, 0) _ rfl HO.out.st1.st2.rh Tryz.underlying27 rfl (by kernel_rfl) rfl HO.out.st1.st2.rs Tryz.underlying47 rfl (by kernel_rfl)) rfl ?_
   exact ⟨rfl, HO.out.st1.st2.below⟩
 · clear HN2
   have hdt : decide ((n : Int) < t) = true := decide_eq_true h
   go_wp2
   refine bodyPost_ret (results_open5 rfl _ _ w.heap.size 27 _ (0, 0) _ (w.heap.size + 1) 47 _ (0, 0) _ rfl HO.out.st1.st2.rh Tryz.underlying27 rfl (by kernel_rfl) rfl HO.out.st1.st2.rs Tryz.underlying47 rfl (by kernel_rfl)) rfl ?_
   exact ⟨rfl, HO.out.st1.st2.below⟩
 · clear HN2
   have hdt : decide ((n : Int) < (T : Int)) = false := decide_eq_false (by omega)
   have hTw : IntKind.i64.wrap (T : Int) = T := by rw [IntKind.wrap_i64]; omega
   have hTn : ¬ n < T := by omega
   go_wp2_with (go_at_call 9; refine (hC.out _ HO.out.below).mono ?_; rintro e w3 ⟨rfl, hb3⟩; have HO3 := Lib.hid (HO.out.bel hb3); clear y0 y1 y2 y3 y4 x0 x1 x2 x3 x4 x5 z0 z1 z2 z3 z4 f0 f1 f2 f3 f4 u0 u1 u2 u3 u4 u5 g0 g1 g2 g3 g4 g5; obtain ⟨⟨z0, z1, z2, z3, z4⟩, f0, f1, f2, f3, f4⟩ := HO3.out.zero; obtain ⟨⟨u0, u1, u2, u3, u4, u5⟩, g0, g1, g2, g3, g4, g5⟩ := HO3.out.zeroS)
   refine bodyPost_ret (results_open5 rfl _ _ w.heap.size 27 _ (0, 0) _ (w.heap.size + 1) 47 _ (0, 0) _ rfl HO3.out.st1.st2.rh Tryz.underlying27 rfl (by kernel_rfl) rfl HO3.out.st1.st2.rs Tryz.underlying47 rfl (by kernel_rfl)) rfl ?_
   exact ⟨rfl, HO3.out.st1.st2.below⟩
set_option maxHeartbeats 4000000 in
theorem ropen_ok {T : Nat} {L : List SR} (hr : Reads w B 1 A n (cellsOf .u8 zs)) (hB : B <= w.heap.size) (hz : AreB zs) (hl : n <= c) (hcap : c <= 9223372036854775807) (hm : n <= 549755813888) (H : OpHd zs i k d f m a t cn fi la st)
 (hih : isH zs = true) (hch : chB zs = true) (hT : t = T) (hTn : T <= n) (hnT : newK d f <= T) (hL : scanAt (zs.take T) (newK d f : Nat) L) (hE : lastE (newK d f : Nat) L = T) :
 Calls Tryz.prog 16 #[.slice A n c] w fun e w' => ∃ A1 c1 v, e = .returned (.tuple #[.slice A1 T c1, hdV i k d f m, sV a t cn fi la st, v, .bool true]) /\ w'.ownsRow w.heap.size 5 1 (.slice A1 T c1) T (cellsOf .u8 (cutW d f L zs T).1) /\ w'.ownsRow w.heap.size 3 1 v (cutW d f L zs T).2.length (cellsOf .i64 (nI (cutW d f L zs T).2)) /\ T <= c1 /\ c1 <= 9223372036854775807 /\ Below w.heap.size w w' := by
 have hR := H.right hih
 have DH := Lib.hid (fun wx (hx : Below w.heap.size w wx) => rhdec_any A n c zs wx (hr.below (hx.mono hB)) (Nat.le_trans hB hx.size) hz hl hcap)
 have DS := Lib.hid (fun wx (hx : Below w.heap.size w wx) => rschoose_any A n c zs wx (hr.below (hx.mono hB)) (Nat.le_trans hB hx.size) hz hl hcap)
 rw [H.hd, hih] at DH
 rw [H.sl, hch] at DS
 have tb := H.tb
 subst hT
 have CY := Lib.hid (fun (wx : World) (hx : Below w.heap.size w wx) => rcut_yes i k d f m A n c zs T L wx (hr.below (hx.mono hB)) (Nat.le_trans hB hx.size) hz hl hcap hm hR hnT hTn hL hE)
 have hb0 : Below w.heap.size w ((w.alloc (.cells hZC 27)).alloc (.cells sZC 47)) := (boxed w _).alloc (boxed w _).size _
 have HB0 := Lib.hid hb0
 have hnw : IntKind.u64.wrap (n : Int) = n := by rw [IntKind.wrap_u64]; omega
 have hTw : IntKind.i64.wrap (T : Int) = T := by rw [IntKind.wrap_i64]; omega
 have hTn2 : ¬ n < T := by omega
 have hdt : decide ((n : Int) < (T : Int)) = false := decide_eq_false (by omega)
 generalize (cutW d f L zs T).1 = xz at *
 generalize (cutW d f L zs T).2 = cw at *
 clear hr hz H hb0 hL hE hnT hR hih hch
 go_enter Tryz.func16, Tryz.ntmps16
 go_upto_region 3 with (first
   | (go_at_call 43; refine (DH.out _ HB0.out).mono ?_; rintro e w1 ⟨rfl, hb1⟩; have hbw1 := HB0.out.trans (hb1.mono HB0.out.size); have hbw1' := hbw1.alloc hbw1.size (.cells #[.int .u64 i, .int .u64 k, .int .i64 d, .int .i64 f, .int .u64 m] 27))
   | (go_at_call 44; refine (DS.out _ hbw1').mono ?_; rintro e w2 ⟨rfl, hb2⟩))
 have OA := RpAt.make (a := a) (t := T) (cn := cn) (fi := fi) (la := la) (st := st) hb1 hb2
 unfold sC at OA
 clear hbw1 hbw1' hb1 hb2 DH DS HB0
 obtain ⟨W, hW⟩ : ∃ W, w2.alloc (.cells #[.int .u64 a, .int .u64 T, .int .u64 cn, .int .u64 fi, .int .u64 la, .int .u64 st] 47) = W := ⟨_, rfl⟩
 rw [hW] at OA ⊢
 clear hW
 generalize w1.heap.size = gh at OA ⊢
 generalize w2.heap.size = gs at OA ⊢
 have HO := Lib.hid OA
 obtain ⟨y0, y1, y2, y3, y4, x0, x1, x2, x3, x4, x5⟩ := OA.cells
 clear OA
 go_upto_region 8 with (go_at_call 9; refine (CY.out _ HO.out.below).mono ?_; rintro e w3 ⟨A1, c1, v, rfl, hox, hov, hc1, hc2, hb3⟩; have HX := Lib.hid (And.intro hox hov); clear hox hov)
 have HO3 : Hid (RpAt w w3.drew gh gs i k d f m a T cn fi la st hZC sZC) := Lib.hid (HO.out.bel (below_drewn hb3 1))
 have HB3 := Lib.hid (And.intro HO.out.below.size hb3.size)
 have o1 : w3.drew.ownsRow W.heap.size 5 1 (.slice A1 T c1) T (cellsOf .u8 xz) := own_below HX.out.1 (below_drewn (Below.refl _ _) 1)
 have o2 : w3.drew.ownsRow W.heap.size 3 1 v cw.length (cellsOf .i64 (nI cw)) := own_below HX.out.2 (below_drewn (Below.refl _ _) 1)
 have HXd := Lib.hid (And.intro o1 o2)
 clear HO y0 y1 y2 y3 y4 x0 x1 x2 x3 x4 x5 hb3 CY HX o1 o2
 refine wp_region_z (S := fun w' => w'.cell? ⟨gh, 0, none⟩ = some (.int .u64 i) /\ w'.cell? ⟨gh, 1, none⟩ = some (.int .u64 k) /\ w'.cell? ⟨gh, 2, none⟩ = some (.int .i64 d) /\ w'.cell? ⟨gh, 3, none⟩ = some (.int .i64 f) /\ w'.cell? ⟨gh, 4, none⟩ = some (.int .u64 m) /\ w'.cell? ⟨gs, 0, none⟩ = some (.int .u64 a) /\ w'.cell? ⟨gs, 1, none⟩ = some (.int .u64 T) /\ w'.cell? ⟨gs, 2, none⟩ = some (.int .u64 cn) /\ w'.cell? ⟨gs, 3, none⟩ = some (.int .u64 fi) /\ w'.cell? ⟨gs, 4, none⟩ = some (.int .u64 la) /\ w'.cell? ⟨gs, 5, none⟩ = some (.int .u64 st)) 8 (by kernel_rfl) HO3.out.cells (fun hHeld => ?_)
 obtain ⟨wd, hwd⟩ : ∃ wd, w3.drew = wd := ⟨_, rfl⟩
 rw [hwd] at HO3 HXd hHeld ⊢
 clear hwd
 have OA := HO3.out
 obtain ⟨⟨z0, z1, z2, z3, z4⟩, f0, f1, f2, f3, f4⟩ := OA.zero
 obtain ⟨⟨u0, u1, u2, u3, u4, u5⟩, g0, g1, g2, g3, g4, g5⟩ := OA.zeroS
 clear OA
 refine takeZ_yes (i := 0) (v := ?_) rfl (by kernel_rfl) (by kernel_rfl) (by kernel_rfl) (by kernel_rfl) (fun _ _ _ h => h) (by kernel_rfl) ?_ (by assumption) ?_
 rotate_left
 · intro wz hSw; (try dsimp only at hSw); go_simp; try with_reducible rfl
 simp only [Act.put, lS, lZ, lC]
 refine takeZ_yes (i := 1) (v := ?_) rfl (by kernel_rfl) (by kernel_rfl) (by kernel_rfl) (by kernel_rfl) (fun _ _ _ h => h) (by kernel_rfl) ?_ (by assumption) ?_
 rotate_left
 · intro wz hSw; (try dsimp only at hSw); go_simp; try with_reducible rfl
 simp only [Act.put, lS, lZ, lC]
 refine takeZ_yes (i := 2) (v := ?_) rfl (by kernel_rfl) (by kernel_rfl) (by kernel_rfl) (by kernel_rfl) (fun _ _ _ h => h) (by kernel_rfl) ?_ (by assumption) ?_
 rotate_left
 · intro wz hSw; (try dsimp only at hSw); go_simp; try with_reducible rfl
 simp only [Act.put, lS, lZ, lC]
 refine takeZ_yes (i := 3) (v := ?_) rfl (by kernel_rfl) (by kernel_rfl) (by kernel_rfl) (by kernel_rfl) (fun _ _ _ h => h) (by kernel_rfl) ?_ (by assumption) ?_
 rotate_left
 · intro wz hSw; (try dsimp only at hSw); go_simp; try with_reducible rfl
 simp only [Act.put, lS, lZ, lC]
 refine takeZ_yes (i := 4) (v := ?_) rfl (by kernel_rfl) (by kernel_rfl) (by kernel_rfl) (by kernel_rfl) (fun _ _ _ h => h) (by kernel_rfl) ?_ (by assumption) ?_
 rotate_left
 · intro wz hSw; (try dsimp only at hSw); go_simp; try with_reducible rfl
 simp only [Act.put, lS, lZ, lC]
 refine wpAnyZ_ready (rs := [5]) (by kernel_rfl) (by simp) (AllReadyZ.cons rfl (fun K hK => ?_) AllReadyZ.nil)
 go_simp
 refine hK.out _ _ HO3.out.st1.cells (fun hHeld => ?_)
 clear hK K z0 z1 z2 z3 z4 f0 f1 f2 f3 f4 u0 u1 u2 u3 u4 u5 g0 g1 g2 g3 g4 g5
 try simp only [Act.put, lS, lZ, lC]
 obtain ⟨⟨u0, u1, u2, u3, u4, u5⟩, g0, g1, g2, g3, g4, g5⟩ := (HO3.out.st1 (a' := .int .u64 i) (b' := .int .u64 k) (c' := .int .i64 d) (d' := .int .i64 f) (e' := .int .u64 m)).zeroS
 refine wpAnyZ_ready (rs := [6]) (by kernel_rfl) (by simp) (AllReadyZ.cons rfl (fun K hK => ?_) AllReadyZ.nil)
 go_simp
 refine hK.out _ _ HO3.out.st1.st2.cells (fun hHeld => ?_)
 clear hK K u0 u1 u2 u3 u4 u5 g0 g1 g2 g3 g4 g5
 try simp only [Act.put, lS, lZ, lC]
 refine takeZ_yes (i := 7) (v := ?_) rfl (by kernel_rfl) (by kernel_rfl) (by kernel_rfl) (by kernel_rfl) (fun _ _ _ h => h) (by kernel_rfl) ?_ (by assumption) ?_
 rotate_left
 · intro wz hSw; (try dsimp only at hSw); go_simp; try with_reducible rfl
 simp only [Act.put, lS, lZ, lC]
 refine wpAnyZ_ready (rs := [8]) (by kernel_rfl) (by simp) (AllReadyZ.last rfl (fun K hK => ?_))
 go_simp
 refine hK.out _ _ ?_
 clear hK K
 refine wpAnyZ_done (by kernel_rfl) ?_ _
 go_wp2
 refine bodyPost_ret (results_open5 rfl _ _ w.heap.size 27 _ (0, 0) _ (w.heap.size + 1) 47 _ (0, 0) _ rfl HO3.out.st1.st2.rh Tryz.underlying27 rfl (by kernel_rfl) rfl HO3.out.st1.st2.rs Tryz.underlying47 rfl (by kernel_rfl)) rfl ?_
 refine ⟨A1, c1, v, rfl, ?_, ?_, hc1, hc2, HO3.out.st1.st2.below⟩
 all_goals
   refine own_base (own_chg (by first | exact HXd.out.1 | exact HXd.out.2) ((((((((((((Chg.refl (fun j => j = w.heap.size ∨ j = w.heap.size + 1) wd).setCell (p := ⟨w.heap.size, 0, none⟩) (.inr (.inl rfl)) _).setCell (p := ⟨w.heap.size, 1, none⟩) (.inr (.inl rfl)) _).setCell (p := ⟨w.heap.size, 2, none⟩) (.inr (.inl rfl)) _).setCell (p := ⟨w.heap.size, 3, none⟩) (.inr (.inl rfl)) _).setCell (p := ⟨w.heap.size, 4, none⟩) (.inr (.inl rfl)) _).setCell (p := ⟨w.heap.size + 1, 0, none⟩) (.inr (.inr rfl)) _).setCell (p := ⟨w.heap.size + 1, 1, none⟩) (.inr (.inr rfl)) _).setCell (p := ⟨w.heap.size + 1, 2, none⟩) (.inr (.inr rfl)) _).setCell (p := ⟨w.heap.size + 1, 3, none⟩) (.inr (.inr rfl)) _).setCell (p := ⟨w.heap.size + 1, 4, none⟩) (.inr (.inr rfl)) _).setCell (p := ⟨w.heap.size + 1, 5, none⟩) (.inr (.inr rfl)) _) (fun g hg e => ?_)) HB3.out.1
   rcases e with e | e
   · exact own_blk_ne (by first | exact HXd.out.1 | exact HXd.out.2) HO3.out.rh (by decide) (e ▸ hg)
   · exact own_blk_ne (by first | exact HXd.out.1 | exact HXd.out.2) HO3.out.rs (by decide) (e ▸ hg)
end
end Go.Proofs.YtaeegcohimflbaaGreat
