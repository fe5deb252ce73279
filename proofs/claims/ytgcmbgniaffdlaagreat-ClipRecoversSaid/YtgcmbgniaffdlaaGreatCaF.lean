import Derived.Test.YtgcmbgniaffdlaaGreatCaE
set_option linter.unusedVariables false
set_option maxRecDepth 100000
set_option linter.unusedSimpArgs false
namespace Go.Proofs.YtgcmbgniaffdlaaGreat
open Go.RowKit Go.Shelf
theorem results_open {P : Program} {fn : Func} {r p u v : Tmp} {ty : TypeId} (h : fn.results = #[.tmp r, .cell p ty, .tmp u, .tmp v]) (tmps : Array Value) (w : World) (g : Nat) (t : TypeId) (cs : Array Value) (fr : Nat × Nat) (d : TypeDesc)
 (hp : tmps.getD p undef = .pointer (some ⟨g, 0, none⟩)) (hg : w.heap[g]? = some (.cells cs t fr))
 (hu : P.underlying ty = some d) (hd : (match d with | .struct _ | .array _ _ => true | _ => false) = true) (hi : (P.info? ty).map (·.size) = some cs.size) :
 (results fn tmps).run P w = .ok (.tuple #[tmps.getD r undef, .agg cs, tmps.getD u undef, tmps.getD v undef]) w := by
 have hp' : tmps[p]?.getD undef = .pointer (some ⟨g, 0, none⟩) := by simpa using hp
 simp [results, h, hp', asAddr, run_loadVar_row w g t ty cs fr d hg hu hd hi]
structure OpHd (zs : List Int) (i k d f m : Int) (a t cn fi la st : Int) : Prop where
 hd : decH zs = hdV i k d f m
 right : isH zs = true -> rightH d f = true
 sl : chV zs = sV a t cn fi la st
 tb : 0 <= t /\ t < 18446744073709551616
structure OpAt (w W : World) (gh gs : Nat) (i k d f m : Int) (a t cn fi la st : Int) : Prop where
 below : Below w.heap.size w W
 res : Blk W w.heap.size 51 sZC
 hd : Blk W gh 29 #[.int .u64 i, .int .u64 k, .int .i64 d, .int .i64 f, .int .u64 m]
 sl : Blk W gs 51 (sC a t cn fi la st)
 ne : w.heap.size < gh /\ w.heap.size < gs /\ gs < W.heap.size
theorem OpAt.bel {w W W' : World} {gh gs : Nat} {i k d f m a t cn fi la st : Int} (h : OpAt w W gh gs i k d f m a t cn fi la st) (hb : Below W.heap.size W W') : OpAt w W' gh gs i k d f m a t cn fi la st :=
 ⟨h.below.trans (hb.mono h.below.size), h.res.below hb h.res.lt, h.hd.below hb h.hd.lt, h.sl.below hb h.sl.lt, ⟨h.ne.1, h.ne.2.1, Nat.lt_of_lt_of_le h.ne.2.2 hb.size⟩⟩
theorem OpAt.make {w w1 w2 : World} {i k d f m a t cn fi la st : Int} (hb1 : Below (w.alloc (.cells sZC 51)).heap.size (w.alloc (.cells sZC 51)) w1)
 (hb2 : Below (w1.alloc (.cells #[.int .u64 i, .int .u64 k, .int .i64 d, .int .i64 f, .int .u64 m] 29)).heap.size (w1.alloc (.cells #[.int .u64 i, .int .u64 k, .int .i64 d, .int .i64 f, .int .u64 m] 29)) w2) :
 OpAt w (w2.alloc (.cells (sC a t cn fi la st) 51)) w1.heap.size w2.heap.size i k d f m a t cn fi la st := by
 have q1 : Below w1.heap.size w1 w2 := (boxed w1 _).trans (hb2.mono (boxed w1 (.cells #[.int .u64 i, .int .u64 k, .int .i64 d, .int .i64 f, .int .u64 m] 29)).size)
 have s1 := hb1.size
 rw [World.size_alloc] at s1
 have s2 := hb2.size
 rw [World.size_alloc] at s2
 have q0 : Below w.heap.size w w1 := (boxed w _).trans (hb1.mono (boxed w (.cells sZC 51)).size)
 refine ⟨(q0.trans (q1.mono q0.size)).alloc (by omega) _, ?_, ?_, Blk.new w2 _ _, ⟨by omega, by omega, by simp⟩⟩
 · exact (((Blk.new w 51 sZC).below hb1 (by simp)).below q1 (by omega)).alloc _
 · exact ((Blk.new w1 29 _).below hb2 (by simp)).alloc _
theorem OpAt.cells {w W : World} {gh gs : Nat} {i k d f m a t cn fi la st : Int} (h : OpAt w W gh gs i k d f m a t cn fi la st) :
 W.cell? ⟨gh, 0, none⟩ = some (.int .u64 i) /\ W.cell? ⟨gh, 1, none⟩ = some (.int .u64 k) /\ W.cell? ⟨gh, 2, none⟩ = some (.int .i64 d) /\ W.cell? ⟨gh, 3, none⟩ = some (.int .i64 f) /\ W.cell? ⟨gh, 4, none⟩ = some (.int .u64 m) /\ W.cell? ⟨gs, 0, none⟩ = some (.int .u64 a) /\ W.cell? ⟨gs, 1, none⟩ = some (.int .u64 t) /\ W.cell? ⟨gs, 2, none⟩ = some (.int .u64 cn) /\ W.cell? ⟨gs, 3, none⟩ = some (.int .u64 fi) /\ W.cell? ⟨gs, 4, none⟩ = some (.int .u64 la) /\ W.cell? ⟨gs, 5, none⟩ = some (.int .u64 st) := by
 obtain ⟨x0, x1, x2, x3, x4, x5⟩ := slAt_blk h.sl
 have y := h.hd
 exact ⟨y.cell 0, y.cell 1, y.cell 2, y.cell 3, y.cell 4, x0, x1, x2, x3, x4, x5⟩
theorem OpAt.stored {w W : World} {gh gs : Nat} {i k d f m a t cn fi la st : Int} {a' b' c' d' e' f' : Value} (h : OpAt w W gh gs i k d f m a t cn fi la st) :
 ((((((W.setCell ⟨w.heap.size, 0, none⟩ a').setCell ⟨w.heap.size, 1, none⟩ b').setCell ⟨w.heap.size, 2, none⟩ c').setCell ⟨w.heap.size, 3, none⟩ d').setCell ⟨w.heap.size, 4, none⟩ e').setCell ⟨w.heap.size, 5, none⟩ f').cell? ⟨gh, 0, none⟩ = some (.int .u64 i) /\ ((((((W.setCell ⟨w.heap.size, 0, none⟩ a').setCell ⟨w.heap.size, 1, none⟩ b').setCell ⟨w.heap.size, 2, none⟩ c').setCell ⟨w.heap.size, 3, none⟩ d').setCell ⟨w.heap.size, 4, none⟩ e').setCell ⟨w.heap.size, 5, none⟩ f').cell? ⟨gh, 1, none⟩ = some (.int .u64 k) /\ ((((((W.setCell ⟨w.heap.size, 0, none⟩ a').setCell ⟨w.heap.size, 1, none⟩ b').setCell ⟨w.heap.size, 2, none⟩ c').setCell ⟨w.heap.size, 3, none⟩ d').setCell ⟨w.heap.size, 4, none⟩ e').setCell ⟨w.heap.size, 5, none⟩ f').cell? ⟨gh, 2, none⟩ = some (.int .i64 d) /\ ((((((W.setCell ⟨w.heap.size, 0, none⟩ a').setCell ⟨w.heap.size, 1, none⟩ b').setCell ⟨w.heap.size, 2, none⟩ c').setCell ⟨w.heap.size, 3, none⟩ d').setCell ⟨w.heap.size, 4, none⟩ e').setCell ⟨w.heap.size, 5, none⟩ f').cell? ⟨gh, 3, none⟩ = some (.int .i64 f) /\ ((((((W.setCell ⟨w.heap.size, 0, none⟩ a').setCell ⟨w.heap.size, 1, none⟩ b').setCell ⟨w.heap.size, 2, none⟩ c').setCell ⟨w.heap.size, 3, none⟩ d').setCell ⟨w.heap.size, 4, none⟩ e').setCell ⟨w.heap.size, 5, none⟩ f').cell? ⟨gh, 4, none⟩ = some (.int .u64 m) /\ ((((((W.setCell ⟨w.heap.size, 0, none⟩ a').setCell ⟨w.heap.size, 1, none⟩ b').setCell ⟨w.heap.size, 2, none⟩ c').setCell ⟨w.heap.size, 3, none⟩ d').setCell ⟨w.heap.size, 4, none⟩ e').setCell ⟨w.heap.size, 5, none⟩ f').cell? ⟨gs, 0, none⟩ = some (.int .u64 a) /\ ((((((W.setCell ⟨w.heap.size, 0, none⟩ a').setCell ⟨w.heap.size, 1, none⟩ b').setCell ⟨w.heap.size, 2, none⟩ c').setCell ⟨w.heap.size, 3, none⟩ d').setCell ⟨w.heap.size, 4, none⟩ e').setCell ⟨w.heap.size, 5, none⟩ f').cell? ⟨gs, 1, none⟩ = some (.int .u64 t) /\ ((((((W.setCell ⟨w.heap.size, 0, none⟩ a').setCell ⟨w.heap.size, 1, none⟩ b').setCell ⟨w.heap.size, 2, none⟩ c').setCell ⟨w.heap.size, 3, none⟩ d').setCell ⟨w.heap.size, 4, none⟩ e').setCell ⟨w.heap.size, 5, none⟩ f').cell? ⟨gs, 2, none⟩ = some (.int .u64 cn) /\ ((((((W.setCell ⟨w.heap.size, 0, none⟩ a').setCell ⟨w.heap.size, 1, none⟩ b').setCell ⟨w.heap.size, 2, none⟩ c').setCell ⟨w.heap.size, 3, none⟩ d').setCell ⟨w.heap.size, 4, none⟩ e').setCell ⟨w.heap.size, 5, none⟩ f').cell? ⟨gs, 3, none⟩ = some (.int .u64 fi) /\ ((((((W.setCell ⟨w.heap.size, 0, none⟩ a').setCell ⟨w.heap.size, 1, none⟩ b').setCell ⟨w.heap.size, 2, none⟩ c').setCell ⟨w.heap.size, 3, none⟩ d').setCell ⟨w.heap.size, 4, none⟩ e').setCell ⟨w.heap.size, 5, none⟩ f').cell? ⟨gs, 4, none⟩ = some (.int .u64 la) /\ ((((((W.setCell ⟨w.heap.size, 0, none⟩ a').setCell ⟨w.heap.size, 1, none⟩ b').setCell ⟨w.heap.size, 2, none⟩ c').setCell ⟨w.heap.size, 3, none⟩ d').setCell ⟨w.heap.size, 4, none⟩ e').setCell ⟨w.heap.size, 5, none⟩ f').cell? ⟨gs, 5, none⟩ = some (.int .u64 st) := by
 have z := sl_far (h := w.heap.size) (a' := a') (b' := b') (c' := c') (d' := d') (e' := e') (f' := f') h.sl (by have := h.ne; omega)
 obtain ⟨x0, x1, x2, x3, x4, x5⟩ := slAt_blk z
 have y := sl_far (h := w.heap.size) (a' := a') (b' := b') (c' := c') (d' := d') (e' := e') (f' := f') h.hd (by have := h.ne; omega)
 exact ⟨y.cell 0, y.cell 1, y.cell 2, y.cell 3, y.cell 4, x0, x1, x2, x3, x4, x5⟩
theorem sl_chg {W : World} {g : Nat} {a' b' c' d' e' f' : Value} : Chg (fun j => j = g) W ((((((W.setCell ⟨g, 0, none⟩ a').setCell ⟨g, 1, none⟩ b').setCell ⟨g, 2, none⟩ c').setCell ⟨g, 3, none⟩ d').setCell ⟨g, 4, none⟩ e').setCell ⟨g, 5, none⟩ f') :=
 ((((((Chg.refl (fun j => j = g) W).setCell (p := ⟨g, 0, none⟩) (.inr rfl) _).setCell (p := ⟨g, 1, none⟩) (.inr rfl) _).setCell (p := ⟨g, 2, none⟩) (.inr rfl) _).setCell (p := ⟨g, 3, none⟩) (.inr rfl) _).setCell (p := ⟨g, 4, none⟩) (.inr rfl) _).setCell (p := ⟨g, 5, none⟩) (.inr rfl) _
theorem OpAt.zero {w W : World} {gh gs : Nat} {i k d f m a t cn fi la st : Int} (h : OpAt w W gh gs i k d f m a t cn fi la st) :
 (W.cell? ⟨w.heap.size, 0, none⟩ = some (.int .u64 0) /\ W.cell? ⟨w.heap.size, 1, none⟩ = some (.int .u64 0) /\ W.cell? ⟨w.heap.size, 2, none⟩ = some (.int .u64 0) /\ W.cell? ⟨w.heap.size, 3, none⟩ = some (.int .u64 0) /\ W.cell? ⟨w.heap.size, 4, none⟩ = some (.int .u64 0) /\ W.cell? ⟨w.heap.size, 5, none⟩ = some (.int .u64 0)) /\
 (W.frozen? ⟨w.heap.size, 0, none⟩ = false /\ W.frozen? ⟨w.heap.size, 1, none⟩ = false /\ W.frozen? ⟨w.heap.size, 2, none⟩ = false /\ W.frozen? ⟨w.heap.size, 3, none⟩ = false /\ W.frozen? ⟨w.heap.size, 4, none⟩ = false /\ W.frozen? ⟨w.heap.size, 5, none⟩ = false) :=
 ⟨slAt_blk h.res, h.res.frozen 0, h.res.frozen 1, h.res.frozen 2, h.res.frozen 3, h.res.frozen 4, h.res.frozen 5⟩
theorem own_rd {w : World} {base : Nat} {e : TypeId} {size n c : Nat} {A : Option Addr} {xs : List Value} (h : w.ownsRow base e size (.slice A n c) n xs) : Reads w w.heap.size size A n xs := by
 obtain ⟨A1, c1, he, -, -, hr⟩ := own_reads h
 cases he
 exact hr
section
variable {B : Nat} {G : Nat} {A : Option Addr} {n c lm : Nat} {zs : List Int} {w : World} {i k d f m a t cn fi la st : Int}
set_option maxHeartbeats 4000000 in
theorem open_ok {T : Nat} {L : List SR} (hr : Reads w B 1 A n (cellsOf .u8 zs)) (hB : B <= w.heap.size) (hz : AreB zs) (hl : n <= c) (hcap : c <= 9223372036854775807) (hm : n <= 549755813888) (ht : IsTable w G) (H : OpHd zs i k d f m a t cn fi la st)
 (hih : isH zs = true) (hch : chB zs = true) (hT : t = T) (hTn : T <= n) (hnT : newK d f <= T) (hL : scanAt (zs.take T) (newK d f : Nat) L) (hE : lastE (newK d f : Nat) L = T) :
 Calls Tryz.prog 17 #[.pointer (some ⟨G, 0, none⟩), .slice A n c, .int .i64 lm] w fun e w' => ∃ p v bv sv, e = .returned (.tuple #[.pointer (some ⟨p, 0, none⟩), sV a t cn fi la st, v, .int .i64 0]) /\ w'.ownsRow w.heap.size 3 1 v (cutW d f L zs T).2.length (cellsOf .i64 (nI (cutW d f L zs T).2)) /\ IX w' w.heap.size (fun j => w.heap.size <= j /\ j < w'.heap.size) p i k d f m ⟨(cutW d f L zs T).1, (cutW d f L zs T).1, [], lm⟩ bv sv /\ Below w.heap.size w w' := by
 have hR := H.right hih
 have HR := Lib.hid hR
 obtain ⟨d1, d2, d3, d4⟩ := rightH_bd hR
 have hnk := newK_val ⟨d1, d2⟩ ⟨d3, d4⟩
 have DH := Lib.hid (fun wx (hx : Below w.heap.size w wx) => hdec_any G A n c zs wx (hr.below (hx.mono hB)) (Nat.le_trans hB hx.size) hz hl hcap (IsTable.below ht hx ht.lt))
 have DS := Lib.hid (fun wx (hx : Below w.heap.size w wx) => schoose_any G A n c zs wx (hr.below (hx.mono hB)) (Nat.le_trans hB hx.size) hz hl hcap (IsTable.below ht hx ht.lt))
 rw [H.hd, hih] at DH
 rw [H.sl, hch] at DS
 have tb := H.tb
 subst hT
 have CY := Lib.hid (fun (wx : World) (hx : Below w.heap.size w wx) => cut_yes i k d f m A n c zs T L wx (hr.below (hx.mono hB)) (Nat.le_trans hB hx.size) hz hl hcap hm hR hnT hTn hL hE)
 have hlz : zs.length = n := hr.len
 have hxl : (cutW d f L zs T).1.length = T := by
   have h := (cuts_ok (T := T) (C0 := zs.take T) (ws := wordsS (newK d f) L) (hz.take T) (by rw [List.length_take]; omega) (fun q hq => by have h := wordsS_fit (by omega) (by omega) (by rw [List.length_take]; omega) hL q hq; rw [List.length_take] at h; omega) (pre := nI (wordsS (newK d f) L)) (rest := []) (by rw [List.append_nil])).1
   rw [cuts_all] at h
   exact h
 have IL := Lib.hid (fun (wx : World) (A1 : Option Addr) (c1 : Nat) (hle : w.heap.size <= wx.heap.size) (ho : wx.ownsRow w.heap.size 5 1 (.slice A1 T c1) T (cellsOf .u8 (cutW d f L zs T).1)) => iload_yes (base := w.heap.size) i k d f m A1 T c1 lm (cutW d f L zs T).1 wx hR (by omega) (own_rd ho) (Nat.le_refl _) (by omega) hle)
 have hb0 := boxed w (.cells sZC 51)
 have HB0 := Lib.hid hb0
 have hnw : IntKind.u64.wrap (n : Int) = n := by rw [IntKind.wrap_u64]; omega
 have hTw : IntKind.i64.wrap (T : Int) = T := by rw [IntKind.wrap_i64]; omega
 have hTn2 : ¬ n < T := by omega
 have hdt : decide ((n : Int) < (T : Int)) = false := decide_eq_false (by omega)
 clear hlz
 generalize (cutW d f L zs T).1 = xz at *
 generalize (cutW d f L zs T).2 = cw at *
 clear hr hz ht H hb0 hL hE hnT hR d1 d2 d3 d4 hnk hih hch
 go_enter Tryz.func17, Tryz.ntmps17
 go_upto_region 3 with (first
   | (go_at_call 30; refine (DH.out _ HB0.out).mono ?_; rintro e w1 ⟨rfl, hb1⟩; have hbw1 := HB0.out.trans (hb1.mono HB0.out.size); have hbw1' := hbw1.alloc hbw1.size (.cells #[.int .u64 i, .int .u64 k, .int .i64 d, .int .i64 f, .int .u64 m] 29))
   | (go_at_call 53; refine (DS.out _ hbw1').mono ?_; rintro e w2 ⟨rfl, hb2⟩))
 have OA := OpAt.make (a := a) (t := T) (cn := cn) (fi := fi) (la := la) (st := st) hb1 hb2
 unfold sC at OA
 clear hbw1 hbw1' hb1 hb2 DH DS HB0
 obtain ⟨W, hW⟩ : ∃ W, w2.alloc (.cells #[.int .u64 a, .int .u64 T, .int .u64 cn, .int .u64 fi, .int .u64 la, .int .u64 st] 51) = W := ⟨_, rfl⟩
 rw [hW] at OA ⊢
 clear hW
 generalize w1.heap.size = gh at OA ⊢
 generalize w2.heap.size = gs at OA ⊢
 have HO := Lib.hid OA
 obtain ⟨y0, y1, y2, y3, y4, x0, x1, x2, x3, x4, x5⟩ := OA.cells
 clear OA
 go_upto_region 8 with (go_at_call 16; refine (CY.out _ HO.out.below).mono ?_; rintro e w3 ⟨A1, c1, v, rfl, hox, hov, hc1, hc2, hb3⟩; have HX := Lib.hid (And.intro hox hov); clear hox hov)
 have HO3 := Lib.hid (HO.out.bel hb3)
 have HS := Lib.hid (fun wx (hx : Below w3.heap.size w3 wx) => (HO3.out.bel hx).cells)
 have HW3 := Lib.hid (And.intro HO.out.below.size hb3.size)
 clear HO y0 y1 y2 y3 y4 x0 x1 x2 x3 x4 x5 hb3 CY
 refine wp_region_z (S := fun w' => w'.cell? ⟨gh, 0, none⟩ = some (.int .u64 i) /\ w'.cell? ⟨gh, 1, none⟩ = some (.int .u64 k) /\ w'.cell? ⟨gh, 2, none⟩ = some (.int .i64 d) /\ w'.cell? ⟨gh, 3, none⟩ = some (.int .i64 f) /\ w'.cell? ⟨gh, 4, none⟩ = some (.int .u64 m) /\ w'.cell? ⟨gs, 0, none⟩ = some (.int .u64 a) /\ w'.cell? ⟨gs, 1, none⟩ = some (.int .u64 T) /\ w'.cell? ⟨gs, 2, none⟩ = some (.int .u64 cn) /\ w'.cell? ⟨gs, 3, none⟩ = some (.int .u64 fi) /\ w'.cell? ⟨gs, 4, none⟩ = some (.int .u64 la) /\ w'.cell? ⟨gs, 5, none⟩ = some (.int .u64 st)) 9 (by kernel_rfl) (HS.out _ (below_drewn (Below.refl _ _) 1)) (fun hHeld => ?_)
 refine takeZ_yes (i := 0) (v := ?_) rfl (by kernel_rfl) (by kernel_rfl) (by kernel_rfl) (by kernel_rfl) (fun _ _ _ h => h) (by kernel_rfl) ?_ (by assumption) ?_
 rotate_left
 · intro wz hSw; (try dsimp only at hSw); go_simp; try with_reducible rfl
 simp only [Act.put, lS, lZ, lC]
 refine takeZ_yes (i := 1) (v := ?_) rfl (by kernel_rfl) (by kernel_rfl) (by kernel_rfl) (by kernel_rfl) (fun _ _ _ h => h) (by kernel_rfl) ?_ (by assumption) ?_
 rotate_left
 · intro wz hSw; (try dsimp only at hSw); go_simp; try with_reducible rfl
 simp only [Act.put, lS, lZ, lC]
 refine takeZ_yes (i := 2) (v := ?_) rfl (by kernel_rfl) (by kernel_rfl) (by kernel_rfl) (by kernel_rfl) (fun _ _ _ h => h) (by kernel_rfl) ?_ (by assumption) ?_
 rotate_left
 · intro wz hSw; (try dsimp only at hSw); go_simp; try with_reducible rfl
 simp only [Act.put, lS, lZ, lC]
 refine takeZ_yes (i := 4) (v := ?_) rfl (by kernel_rfl) (by kernel_rfl) (by kernel_rfl) (by kernel_rfl) (fun _ _ _ h => h) (by kernel_rfl) ?_ (by assumption) ?_
 rotate_left
 · intro wz hSw; (try dsimp only at hSw); go_simp; try with_reducible rfl
 simp only [Act.put, lS, lZ, lC]
 refine takeZ_yes (i := 5) (v := ?_) rfl (by kernel_rfl) (by kernel_rfl) (by kernel_rfl) (by kernel_rfl) (fun _ _ _ h => h) (by kernel_rfl) ?_ (by assumption) ?_
 rotate_left
 · intro wz hSw; (try dsimp only at hSw); go_simp; try with_reducible rfl
 simp only [Act.put, lS, lZ, lC]
 refine wpAnyZ_ready (rs := [3]) (by kernel_rfl) (by simp) (AllReadyZ.cons rfl (fun K hK => ?_) AllReadyZ.nil)
 go_simp
 go_at_call 31
 refine (IL.out w3.drew _ _ (show w.heap.size <= w3.heap.size from Nat.le_trans HW3.out.1 HW3.out.2) (by exact own_base (own_below HX.out.1 (below_drewn (Below.refl _ _) 1)) HW3.out.1)).mono ?_
 rintro e w4 ⟨p, bv, sv, rfl, hb4, hix⟩
 have hb34 : Below w3.heap.size w3 w4 := (below_drewn (Below.refl _ _) 1).trans hb4
 refine hK.out _ _ (HS.out _ hb34) (fun hHeld => ?_)
 clear hK K
 have HO4 := Lib.hid (HO3.out.bel hb34)
 obtain ⟨⟨z0, z1, z2, z3, z4, z5⟩, f0, f1, f2, f3, f4, f5⟩ := HO4.out.zero
 have HIX := Lib.hid hix
 have HV := Lib.hid (own_below HX.out.2 hb34)
 clear hb4 hix
 try simp only [Act.put, lS, lZ, lC]
 refine takeZ_yes (i := 6) (v := ?_) rfl (by kernel_rfl) (by kernel_rfl) (by kernel_rfl) (by kernel_rfl) (fun _ _ _ h => h) (by kernel_rfl) ?_ (by assumption) ?_
 rotate_left
 · intro wz hSw; (try dsimp only at hSw); go_simp; try with_reducible rfl
 simp only [Act.put, lS, lZ, lC]
 refine wpAnyZ_ready (rs := [7]) (by kernel_rfl) (by simp) (AllReadyZ.cons rfl (fun K hK => ?_) AllReadyZ.nil)
 go_simp
 refine hK.out _ _ HO4.out.stored (fun hHeld => ?_)
 clear hK K z0 z1 z2 z3 z4 z5 f0 f1 f2 f3 f4 f5
 try simp only [Act.put, lS, lZ, lC]
 refine takeZ_yes (i := 8) (v := ?_) rfl (by kernel_rfl) (by kernel_rfl) (by kernel_rfl) (by kernel_rfl) (fun _ _ _ h => h) (by kernel_rfl) ?_ (by assumption) ?_
 rotate_left
 · intro wz hSw; (try dsimp only at hSw); go_simp; try with_reducible rfl
 simp only [Act.put, lS, lZ, lC]
 refine wpAnyZ_ready (rs := [9]) (by kernel_rfl) (by simp) (AllReadyZ.last rfl (fun K hK => ?_))
 go_simp
 refine hK.out _ _ ?_
 clear hK K
 refine wpAnyZ_done (by kernel_rfl) ?_ _
 go_wp2
 refine bodyPost_ret (results_open rfl _ _ w.heap.size 51 _ (0, 0) _ rfl (sl_store HO4.out.res) Tryz.underlying51 rfl (by kernel_rfl)) rfl ?_
 have g1 := HO4.out.ne
 have g2 := HW3.out
 have hsz := (sl_chg (W := w4) (g := w.heap.size) (a' := .int .u64 a) (b' := .int .u64 T) (c' := .int .u64 cn) (d' := .int .u64 fi) (e' := .int .u64 la) (f' := .int .u64 st)).size
 refine ⟨p, v, bv, sv, rfl, own_base (own_chg HV.out sl_chg (fun g hg e => own_blk_ne HV.out HO4.out.res (by decide) (e ▸ hg))) g2.1, (HIX.out.keep sl_chg (fun j hj e => ?_)).mono (fun j hj => ?_) (fun j hj => hj), sl_below HO4.out.below (Nat.le_refl _)⟩
 · have := HO3.out.ne
   have h1 : w3.heap.size <= j := hj.1
   have h2 := HO3.out.below.size
   have h3 := HO3.out.hd.lt
   omega
 · have h1 : w3.heap.size <= j := hj.1
   have h2 := HO3.out.below.size
   have h3 := hj.2
   exact ⟨by omega, by omega⟩
end
section
variable {B : Nat} {A : Option Addr} {n c : Nat} {zs : List Int} {w : World} {i k d f m a t cn fi la st : Int}
end
def LightC (n : Nat) (w : World) (e : Ending) (w' : World) : Prop := ∃ q, e = .returned (.bool q) /\ w = w' /\ (q = true -> n <= 30)
set_option maxHeartbeats 2000000 in
theorem cllight_any {A : Option Addr} {n c : Nat} {l : List RC} (w : World) (h : InRC w A n c l) :
 Calls Tryz.prog 8 #[.slice A n c] w (LightC n w) := by
 have hle := h.le
 have hcap := h.cap
 have HH := Lib.hid h
 clear h
 go_enter Tryz.func8, Tryz.ntmps8
 go_wp2
 go_loopw [3, 4] (fun v i wr => ∃ k N : Nat, k <= n /\ k <= 30 /\ i = .int .i64 k /\ v = .int .i64 N /\ N <= 210000 * k /\ w = wr) (fun _ i _ => 200 - (intOf i).toNat)
 case atStart => exact ⟨0, 0, Nat.zero_le _, Nat.zero_le _, rfl, rfl, Nat.zero_le _, rfl⟩
 case round =>
   obtain ⟨k, N, hk, hk30, rfl, rfl, hN, rfl⟩ := hrel
   by_cases hmore : k < n /\ k < 30
   · obtain ⟨hlt, h30⟩ := hmore
     obtain ⟨b, off, r, rfl, hb, hr, hok, x0, x1, x2, x3, x4⟩ := HH.out.at_ (Below.refl _ _) hlt
     have ht := hok.txt
     have hlti : (k : Int) < (n : Int) := by omega
     have h30i : (k : Int) < 30 := by omega
     have htc := ht.cap
     have hte := ht.le
     have HT := Lib.hid ht
     obtain ⟨rA, hrA⟩ : ∃ x, r.A = x := ⟨_, rfl⟩
     obtain ⟨rn, hrn⟩ : ∃ x, r.n = x := ⟨_, rfl⟩
     obtain ⟨rc, hrc⟩ : ∃ x, r.c = x := ⟨_, rfl⟩
     rw [hrA, hrn, hrc] at HT x4
     rw [hrn] at hte
     rw [hrc] at htc hte
     clear hok ht x0 x1 x2 x3 hr hrA hrn hrc
     go_wp2
     go_loopw [3, 5] (fun v i wr => ∃ q M : Nat, q <= rn /\ q <= 70 /\ i = .int .i64 q /\ v = .int .i64 M /\ M <= 210000 * k + 3000 * q /\ w = wr) (fun _ i _ => 200 - (intOf i).toNat)
     case atStart => exact ⟨0, N, Nat.zero_le _, Nat.zero_le _, rfl, rfl, by omega, rfl⟩
     case round =>
       obtain ⟨q, M, hq, hq70, rfl, rfl, hM, rfl⟩ := hrel
       by_cases hmo : q < rn /\ q < 70
       · obtain ⟨hqlt, hq7⟩ := hmo
         have hqi : (q : Int) < (rn : Int) := by omega
         have hq7i : (q : Int) < 70 := by omega
         obtain ⟨b2, off2, rfl, hb2, hc2⟩ := HT.out.at_ (by omega)
         have y := hc2 q hqlt
         have hz : (nthT r.its q).size <= maxLen := HT.out.size hqlt
         unfold maxLen at hz
         obtain ⟨s, hs⟩ : ∃ s, nthT r.its q = s := ⟨_, rfl⟩
         rw [hs] at y hz
         clear hc2 hs
         go_wp2
         go_roundw
         case rel => exact ⟨q + 1, M + min s.size 3000, by omega, by omega, by go_num, by congr 1; omega, by omega, by first | rfl | trivial⟩
         case measure => simp [intOf]; omega
       · have hend : ¬ (q : Int) < (rn : Int) ∨ ((q : Int) < (rn : Int) /\ ¬ (q : Int) < 70) := by omega
         clear hmo
         rcases hend with hend | ⟨hend1, hend⟩
         all_goals
           go_wp2
           go_roundw
           case rel => exact ⟨k + 1, M, by omega, by omega, by go_num, rfl, by omega, by first | rfl | trivial⟩
           case measure => simp [intOf]; omega
   · by_cases hn30 : n <= 30
     · have hge : ¬ (k : Int) < (n : Int) := by omega
       have h30i : (n : Int) <= 30 := by omega
       clear hmore
       by_cases hbig : N <= 6000
       · have hbi : (N : Int) <= 6000 := by omega
         go_wp2
         go_ret
         exact ⟨true, rfl, rfl, fun _ => hn30⟩
       · have hbi : ¬ (N : Int) <= 6000 := by omega
         go_wp2
         go_ret
         exact ⟨false, rfl, rfl, fun h => by cases h⟩
     · have h30i : ¬ (n : Int) <= 30 := by omega
       have hlt : (k : Int) < (n : Int) := by omega
       have hge : ¬ (k : Int) < 30 := by omega
       clear hmore
       go_wp2
       go_ret
       exact ⟨false, rfl, rfl, fun h => by cases h⟩
theorem splice_one {cur ys : List Value} {q k : Nat} {y : Value} (hy : ys[k]? = some y) (h : q + k < cur.length) : (splice cur q (ys.take k)).set (q + k) y = splice cur q (ys.take (k + 1)) := by
 have hk : k < ys.length := by
   rcases Nat.lt_or_ge k ys.length with e | e
   · exact e
   · rw [List.getElem?_eq_none e] at hy; cases hy
 have hl : (ys.take k).length = k := by rw [List.length_take]; omega
 unfold splice
 have h1 : (cur.take q).length = q := by rw [List.length_take]; omega
 rw [hl, List.set_append_right _ _ (by omega), h1, show q + k - q = k by omega, List.set_append_right _ _ (by omega), hl, Nat.sub_self, List.drop_eq_getElem_cons h, List.set_cons_zero, List.length_take, show min (k + 1) ys.length = k + 1 by omega, List.take_add_one, hy, Option.toList_some, List.append_assoc]
 rfl
structure WiAt (w6 wr : World) (g : Nat) (c1 i : Nat) (cur ys : List Value) : Prop where
 out : Blk wr g 5 (splice cur 64 (ys.take i)).toArray
 chg : Chg (fun k => k = g) w6 wr
set_option maxHeartbeats 4000000 in
theorem clwith_any {B : Nat} (A : Option Addr) (n c : Nat) (bs : List Int) (t : Int) (w : World) (hr : Reads w B 1 A n (cellsOf .u8 bs)) (hB : B <= w.heap.size) (hl : n <= c) (hcap : c <= 9223372036854775807) (hm : n <= 549755813888) (hn : 128 <= n)
 (hel : (encS 2 t 0 0 0 1).length = 64) (t0 : 0 <= t) (t1 : t < 18446744073709551616) :
 Calls Tryz.prog 18 #[.slice A n c, sV 2 t 0 0 0 1] w (Told (splice bs 64 (encS 2 t 0 0 0 1)) w) := by
 have hbl : bs.length = n := hr.len
 have hb0 : Below w.heap.size w (w.alloc (.cells #[.int .u64 2, .int .u64 t, .int .u64 0, .int .u64 0, .int .u64 0, .int .u64 1] 47)) := boxed w _
 have x0 := Blk.new w 47 #[.int .u64 2, .int .u64 t, .int .u64 0, .int .u64 0, .int .u64 0, .int .u64 1]
 obtain ⟨W0, hW0⟩ : ∃ W0, w.alloc (.cells #[.int .u64 2, .int .u64 t, .int .u64 0, .int .u64 0, .int .u64 0, .int .u64 1] 47) = W0 := ⟨_, rfl⟩
 rw [hW0] at hb0 x0
 have HX0 := Lib.hid x0
 have HC : Hid (∀ wx, Below W0.heap.size W0 wx -> (wx.cell? ⟨w.heap.size, 0, none⟩ = some (.int .u64 2) /\ wx.cell? ⟨w.heap.size, 1, none⟩ = some (.int .u64 t) /\ wx.cell? ⟨w.heap.size, 2, none⟩ = some (.int .u64 0) /\ wx.cell? ⟨w.heap.size, 3, none⟩ = some (.int .u64 0) /\ wx.cell? ⟨w.heap.size, 4, none⟩ = some (.int .u64 0) /\ wx.cell? ⟨w.heap.size, 5, none⟩ = some (.int .u64 1))) := Lib.hid (fun wx hx => slAt_blk (HX0.out.below hx HX0.out.lt))
 have EN := Lib.hid (fun wx => rsenc_any 2 t 0 0 0 1 wx (fun j => by rcases j with _ | _ | _ | _ | _ | _ | j <;> simp <;> omega))
 have HRD := Lib.hid (fun wx (hx : Below w.heap.size w wx) => hr.below (hx.mono hB))
 have HB0 := Lib.hid hb0
 obtain ⟨i0, hi0, hz0, hz1, hz2⟩ := info_parts byteInfo
 have b2 : 0 + n <= maxLen := by unfold maxLen; omega
 have b3 : (0 + n) * 1 <= 140737488355328 := by omega
 obtain ⟨es, hes⟩ : ∃ es, encS 2 t 0 0 0 1 = es := ⟨_, rfl⟩
 rw [hes] at EN hel ⊢
 obtain ⟨y0, y1, y2, y3, y4, y5⟩ := HC.out _ (Below.refl _ _)
 clear hr x0 hb0 hes
 have HW0 := Lib.hid hW0
 go_enter Tryz.func18, Tryz.ntmps18
 have hb : Below W0.heap.size W0 W0 := Below.refl _ _
 go_wp2_with (first
   | (at_builtin; have HBA := Lib.hid hb; go_loud (refine wpList_append_any _ rfl _ _ _ rfl W0.heap.size 5 i0 (.int .u8 0) 1 1 Tryz.underlying24 hi0 hz0 hz1 hz2 rfl (Nat.lt_succ_self 0) _ 0 [] rfl (World.ownsRow_lit _ #[] 0 HBA.out.size (Nat.zero_le _) rfl) B A n c (cellsOf .u8 bs) rfl ((HRD.out _ (HB0.out.trans (hb.mono HB0.out.size))).alloc (Nat.le_trans hB (HB0.out.trans (hb.mono HB0.out.size)).size) _) (cellsOf_one _ _) b2 b3 (by have := HBA.out.size; first | (simp; done) | (simp; omega)) ?_; intro v1 w5 hown1 hg1 hat1; rw [Nat.zero_add, List.nil_append] at hown1; obtain ⟨A1, c1, rfl, hc1, hc2⟩ := own_form hown1; have hb5 := row_lit0 hg1; have hb := hb.trans (hb5.mono hb.size); clear hb5 hg1 hat1 y0 y1 y2 y3 y4 y5; obtain ⟨y0, y1, y2, y3, y4, y5⟩ := HC.out _ hb; have HO := Lib.hid hown1; clear hown1))
   | (go_at_call 54; refine (EN.out _).mono ?_; rintro e w6 ⟨Ae, ne, ce, rfl, hne, hoe, hbe, hle, hce⟩; have hne2 : 64 = ne := (hne.trans hel).symm; subst hne2; have HE := Lib.hid (And.intro hoe (And.intro hbe hb)); have hb := hb.trans (hbe.mono hb.size); clear hne hoe hbe y0 y1 y2 y3 y4 y5))
 obtain ⟨hoe, hbe, hb5⟩ := HE.out
 obtain ⟨g9, cur0, hA1, hg9, hbk9, hc9, hm9, hl9, ht9⟩ := row_open HO.out (by omega)
 subst hA1
 obtain ⟨be, off, hAe, -, h1e⟩ := (Reads.of_own hoe).plain (by omega)
 subst hAe
 have hbk6 := hbk9.below hbe hbk9.lt
 have hne : be ≠ g9 := by
   have h1 := (hoe.lt be rfl).1
   have h2 := hbk9.lt
   omega
 have hl9' : cur0.length = c1 := by rw [hl9, Nat.mul_one]
 have HOE := Lib.hid hoe
 have HG := Lib.hid (And.intro hg9 (And.intro hne (And.intro ht9 (And.intro hm9 (And.intro hb (And.intro hl9' h1e))))))
 have hesl : (cellsOf .u8 es).length = 64 := by rw [cellsOf_length, hel]
 have hcl : n <= cur0.length := by omega
 have R0 : Hid (WiAt w6 w6 g9 c1 0 cur0 (cellsOf .u8 es)) := Lib.hid ⟨by rw [List.take_zero, splice_none _ _ (by omega)]; exact hbk6, Chg.refl _ _⟩
 have H6 := Lib.hid (HX0.out.below hb HX0.out.lt)
 have hgw : w.heap.size ≠ g9 := by have := HX0.out.lt; omega
 clear hoe hbe hb5 hbk9 hbk6 hl9 ht9 HO HE hm9 hg9 h1e hb HC
 go_loopw [7] (fun s wr => ∃ (kk : Nat), s = .int .i64 kk /\ kk <= 64 /\ Hid (WiAt w6 wr g9 c1 kk cur0 (cellsOf .u8 es))) (fun s _ => 64 - (intOf s).toNat)
 case atStart => exact ⟨0, rfl, Nat.zero_le _, R0⟩
 case round =>
   obtain ⟨kk, rfl, hkk, H⟩ := hrel
   by_cases hlt : kk < 64
   · obtain ⟨-, hne, -, -, -, -, h1e⟩ := HG.out
     have hoe2 := own_chg HOE.out H.out.chg (fun g hg e => by
       injection hg with hg
       exact hne (hg.trans e))
     obtain ⟨be2, off2, hA2, -, h1c⟩ := (Reads.of_own hoe2).plain (by omega)
     injection hA2 with hA2
     injection hA2 with e1 e2 e3
     obtain ⟨x, hx⟩ : ∃ x, es[kk]? = some x := ⟨_, List.getElem?_eq_getElem (by omega)⟩
     have q1 := h1c kk hlt
     have hxd : es.getD kk 0 = x := by rw [List.getD_eq_getElem?_getD, hx]; rfl
     rw [hxd, <- e1, <- e2] at q1
     have hbx := H6.out.chg H.out.chg hgw
     have y0 : wr.cell? ⟨w.heap.size, 0, none⟩ = some (.int .u64 2) := hbx.cell 0
     have hsl : (splice cur0 64 ((cellsOf .u8 es).take kk)).length = cur0.length := splice_lenV _ _ _ (by rw [List.length_take]; omega)
     obtain ⟨u9, hu9⟩ : ∃ u9, (splice cur0 64 ((cellsOf .u8 es).take kk))[64 + kk]? = some u9 := ⟨_, List.getElem?_eq_getElem (by omega)⟩
     have hcz : wr.cell? ⟨g9, 64 + kk, none⟩ = some u9 := by
       have := H.out.out.cell (64 + kk)
       rw [this, List.getElem?_toArray]; exact hu9
     have hfz := H.out.out.frozen (64 + kk)
     have i6 : (64 : Int) + (kk : Int) < (n : Int) := by omega
     have i7 : (kk : Int) < 64 := by omega
     have v0 : IntKind.i64.wrap 0 = 0 := by decide
     have v1 : IntKind.i64.wrap 64 = 64 := by decide
     have v2 : IntKind.i64.wrap (64 + (kk : Int)) = 64 + (kk : Int) := by rw [IntKind.wrap_i64]; omega
     have v3 : (0 : Int) <= 64 + (kk : Int) := by omega
     have v4 : ((64 : Int) + (kk : Int)).toNat = 64 + kk := by omega
     have HN : Hid (WiAt w6 (wr.setCell ⟨g9, 64 + kk, none⟩ (.int .u8 x)).drew g9 c1 (kk + 1) cur0 (cellsOf .u8 es)) := Lib.hid (by
       have h1 := H.out.out.set_ (64 + kk) (.int .u8 x)
       rw [List.setIfInBounds_toArray, splice_one (by unfold cellsOf; rw [List.getElem?_map, hx]; rfl) (by omega)] at h1
       exact ⟨h1, (H.out.chg.setCell (p := ⟨g9, 64 + kk, none⟩) (.inr rfl) _).drew⟩)
     clear H hoe2 h1c e1 e2 e3 hx hxd hbx hu9 hsl HG R0 h1e hne
     have SS : wr.drew.cell? ⟨w.heap.size, 0, none⟩ = some (.int .u64 2) /\ wr.drew.cell? ⟨be, off + kk, none⟩ = some (.int .u8 x) := ⟨y0, q1⟩
     go_wp2
     refine wp_region_z (S := fun w' => w'.cell? ⟨w.heap.size, 0, none⟩ = some (.int .u64 2) /\ w'.cell? ⟨be, off + kk, none⟩ = some (.int .u8 x)) 14 (by kernel_rfl) SS (fun hHeld => ?_)
     refine takeZ_yes (i := 0) (v := ?_) rfl (by kernel_rfl) (by kernel_rfl) (by kernel_rfl) (by kernel_rfl) (fun _ _ _ h => h) (by kernel_rfl) ?_ (by assumption) ?_
     rotate_left
     · intro wz hSw; (try dsimp only at hSw); go_simp; try with_reducible rfl
     simp only [Act.put, lS, lZ, lC]
     refine takeZ_yes (i := 1) (v := ?_) rfl (by kernel_rfl) (by kernel_rfl) (by kernel_rfl) (by kernel_rfl) (fun _ _ _ h => h) (by kernel_rfl) ?_ (by assumption) ?_
     rotate_left
     · intro wz hSw; (try dsimp only at hSw); go_simp; try with_reducible rfl
     simp only [Act.put, lS, lZ, lC]
     refine takeZ_yes (i := 2) (v := ?_) rfl (by kernel_rfl) (by kernel_rfl) (by kernel_rfl) (by kernel_rfl) (fun _ _ _ h => h) (by kernel_rfl) ?_ (by assumption) ?_
     rotate_left
     · intro wz hSw; (try dsimp only at hSw); go_simp; try with_reducible rfl
     simp only [Act.put, lS, lZ, lC]
     refine takeZ_yes (i := 3) (v := ?_) rfl (by kernel_rfl) (by kernel_rfl) (by kernel_rfl) (by kernel_rfl) (fun _ _ _ h => h) (by kernel_rfl) ?_ (by assumption) ?_
     rotate_left
     · intro wz hSw; (try dsimp only at hSw); go_simp; try with_reducible rfl
     simp only [Act.put, lS, lZ, lC]
     refine takeZ_yes (i := 4) (v := ?_) rfl (by kernel_rfl) (by kernel_rfl) (by kernel_rfl) (by kernel_rfl) (fun _ _ _ h => h) (by kernel_rfl) ?_ (by assumption) ?_
     rotate_left
     · intro wz hSw; (try dsimp only at hSw); go_simp; try with_reducible rfl
     simp only [Act.put, lS, lZ, lC]
     refine takeZ_yes (i := 5) (v := ?_) rfl (by kernel_rfl) (by kernel_rfl) (by kernel_rfl) (by kernel_rfl) (fun _ _ _ h => h) (by kernel_rfl) ?_ (by assumption) ?_
     rotate_left
     · intro wz hSw; (try dsimp only at hSw); go_simp; try with_reducible rfl
     simp only [Act.put, lS, lZ, lC]
     refine takeZ_yes (i := 6) (v := ?_) rfl (by kernel_rfl) (by kernel_rfl) (by kernel_rfl) (by kernel_rfl) (fun _ _ _ h => h) (by kernel_rfl) ?_ (by assumption) ?_
     rotate_left
     · intro wz hSw; (try dsimp only at hSw); go_simp; try with_reducible rfl
     simp only [Act.put, lS, lZ, lC]
     refine takeZ_yes (i := 7) (v := ?_) rfl (by kernel_rfl) (by kernel_rfl) (by kernel_rfl) (by kernel_rfl) (fun _ _ _ h => h) (by kernel_rfl) ?_ (by assumption) ?_
     rotate_left
     · intro wz hSw; (try dsimp only at hSw); go_simp; try with_reducible rfl
     simp only [Act.put, lS, lZ, lC]
     refine takeZ_yes (i := 8) (v := ?_) rfl (by kernel_rfl) (by kernel_rfl) (by kernel_rfl) (by kernel_rfl) (fun _ _ _ h => h) (by kernel_rfl) ?_ (by assumption) ?_
     rotate_left
     · intro wz hSw; (try dsimp only at hSw); go_simp; try with_reducible rfl
     simp only [Act.put, lS, lZ, lC]
     refine takeZ_yes (i := 9) (v := ?_) rfl (by kernel_rfl) (by kernel_rfl) (by kernel_rfl) (by kernel_rfl) (fun _ _ _ h => h) (by kernel_rfl) ?_ (by assumption) ?_
     rotate_left
     · intro wz hSw; (try dsimp only at hSw); go_simp; try with_reducible rfl
     simp only [Act.put, lS, lZ, lC]
     refine takeZ_yes (i := 10) (v := ?_) rfl (by kernel_rfl) (by kernel_rfl) (by kernel_rfl) (by kernel_rfl) (fun _ _ _ h => h) (by kernel_rfl) ?_ (by assumption) ?_
     rotate_left
     · intro wz hSw; (try dsimp only at hSw); go_simp; try with_reducible rfl
     simp only [Act.put, lS, lZ, lC]
     refine takeZ_yes (i := 11) (v := ?_) rfl (by kernel_rfl) (by kernel_rfl) (by kernel_rfl) (by kernel_rfl) (fun _ _ _ h => h) (by kernel_rfl) ?_ (by assumption) ?_
     rotate_left
     · intro wz hSw; (try dsimp only at hSw); go_simp; try with_reducible rfl
     simp only [Act.put, lS, lZ, lC]
     refine takeZ_yes (i := 12) (v := ?_) rfl (by kernel_rfl) (by kernel_rfl) (by kernel_rfl) (by kernel_rfl) (fun _ _ _ h => h) (by kernel_rfl) ?_ (by assumption) ?_
     rotate_left
     · intro wz hSw; (try dsimp only at hSw); go_simp; try with_reducible rfl
     simp only [Act.put, lS, lZ, lC]
     refine takeZ_yes (i := 13) (v := ?_) rfl (by kernel_rfl) (by kernel_rfl) (by kernel_rfl) (by kernel_rfl) (fun _ _ _ h => h) (by kernel_rfl) ?_ (by assumption) ?_
     rotate_left
     · intro wz hSw; (try dsimp only at hSw); go_simp; try with_reducible rfl
     simp only [Act.put, lS, lZ, lC]
     refine wpAnyZ_ready (rs := [14]) (by kernel_rfl) (by simp) (AllReadyZ.last rfl (fun K hK => ?_))
     go_simp
     refine hK.out _ _ ?_
     clear hK K
     refine wpAnyZ_done (by kernel_rfl) ?_ _
     go_wp2
     go_roundw
     case rel => exact ⟨kk + 1, by go_num, by omega, HN⟩
     case measure => simp [intOf]; omega
   · obtain rfl : kk = 64 := by omega
     go_wp2
     go_ret
     obtain ⟨hg9, hne, ht9, hm9, hb, hl9', -⟩ := HG.out
     have h2 := H.out.out
     rw [List.take_of_length_le (by omega)] at h2
     have hk1 : (splice bs 64 es).length = n := by
       unfold splice
       rw [List.length_append, List.length_append, List.length_take, List.length_drop]; omega
     have h1 : wr.ownsRow w.heap.size 5 1 (.slice (some ⟨g9, 0, none⟩) n c1) n (cellsOf .u8 (splice bs 64 es)) := row_shut (by have := HB0.out.size; omega) h2 hc9 hm9 (by rw [splice_lenV _ _ _ (by omega), hl9', Nat.mul_one]) (by rw [Nat.mul_one] at ht9 ⊢; rw [take_splice ht9 (by omega) (by omega), splice_cells]) (by simp [cellsOf, hk1])
     exact ⟨some ⟨g9, 0, none⟩, n, c1, rfl, hk1.symm, h1, HB0.out.trans ((H.out.chg.below (B := W0.heap.size) hb.size (fun k _ e => by omega) |> fun h => hb.trans h).mono HB0.out.size), hc9, by unfold maxLen at hm9; omega⟩
end Go.Proofs.YtgcmbgniaffdlaaGreat
