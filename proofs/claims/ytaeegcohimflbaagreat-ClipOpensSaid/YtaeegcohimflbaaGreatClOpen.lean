import Derived.Test.YtaeegcohimflbaaGreatCaD
import Derived.Test.YtaeegcohimflbaaGreatLSl
import Derived.Test.YtaeegcohimflbaaGreatLHe
set_option linter.unusedVariables false
set_option maxRecDepth 100000
set_option linter.unusedSimpArgs false
namespace Go.Proofs.YtaeegcohimflbaaGreat
open Go.RowKit Go.Shelf
theorem results_open {P : Program} {fn : Func} {r p u v : Tmp} {ty : TypeId} (h : fn.results = #[.tmp r, .cell p ty, .tmp u, .tmp v]) (tmps : Array Value) (w : World) (g : Nat) (t : TypeId) (cs : Array Value) (fr : Nat × Nat) (d : TypeDesc)
 (hp : tmps.getD p undef = .pointer (some ⟨g, 0, none⟩)) (hg : w.heap[g]? = some (.cells cs t fr))
 (hu : P.underlying ty = some d) (hd : (match d with | .struct _ | .array _ _ => true | _ => false) = true) (hi : (P.info? ty).map (·.size) = some cs.size) :
 (results fn tmps).run P w = .ok (.tuple #[tmps.getD r undef, .agg cs, tmps.getD u undef, tmps.getD v undef]) w := by
 have hp' : tmps[p]?.getD undef = .pointer (some ⟨g, 0, none⟩) := by simpa using hp
 simp [results, h, hp', asAddr, run_loadVar_row w g t ty cs fr d hg hu hd hi]
structure OpHd (zs : List Int) (i k d f m : Int) (a t cn fi la st : Int) : Prop where
 hd : decH zs = hdV i k d f m
 right : isH zs = true -> rightH d f = true
 sl : chV zs = sV a t cn fi la st
 tb : 0 <= t /\ t < 18446744073709551616
theorem ophd (zs : List Int) (hz : AreB zs) : ∃ i k d f m a t cn fi la st, OpHd zs i k d f m a t cn fi la st := by
 have h1 : ∃ i k d f m, decH zs = hdV i k d f m /\ (isH zs = true -> rightH d f = true) := by
   unfold decH
   by_cases h : isH zs = true
   · rw [if_pos h]
     refine ⟨_, _, _, _, _, rfl, fun _ => ?_⟩
     unfold isH at h
     simp only [Bool.and_eq_true] at h
     exact h.1.2
   · rw [if_neg h]
     exact ⟨_, _, _, _, _, rfl, fun e => absurd e h⟩
 have h2 : ∀ Z : List Int, AreB Z -> ∃ a t cn fi la st, decS Z = sV a t cn fi la st /\ 0 <= t /\ t < 18446744073709551616 := fun Z hZ => by
   unfold decS
   by_cases h : isS Z = true
   · rw [if_pos h]
     exact ⟨_, _, _, _, _, _, rfl, wordS_bd hZ 1⟩
   · rw [if_neg h]
     exact ⟨_, _, _, _, _, _, rfl, by omega, by omega⟩
 obtain ⟨i, k, d, f, m, e1, e2⟩ := h1
 have h3 : ∃ a t cn fi la st, chV zs = sV a t cn fi la st /\ 0 <= t /\ t < 18446744073709551616 := by
   unfold chV
   split
   · exact h2 _ (hz.drop _)
   · exact h2 _ (hz.drop _)
 obtain ⟨a, t, cn, fi, la, st, e3, e4⟩ := h3
 exact ⟨i, k, d, f, m, a, t, cn, fi, la, st, e1, e2, e3, e4⟩
structure OpAt (w W : World) (gh gs : Nat) (i k d f m : Int) (a t cn fi la st : Int) : Prop where
 below : Below w.heap.size w W
 res : Blk W w.heap.size 41 sZC
 hd : Blk W gh 26 #[.int .u64 i, .int .u64 k, .int .i64 d, .int .i64 f, .int .u64 m]
 sl : Blk W gs 41 (sC a t cn fi la st)
 ne : w.heap.size < gh /\ w.heap.size < gs /\ gs < W.heap.size
theorem OpAt.bel {w W W' : World} {gh gs : Nat} {i k d f m a t cn fi la st : Int} (h : OpAt w W gh gs i k d f m a t cn fi la st) (hb : Below W.heap.size W W') : OpAt w W' gh gs i k d f m a t cn fi la st :=
 ⟨h.below.trans (hb.mono h.below.size), h.res.below hb h.res.lt, h.hd.below hb h.hd.lt, h.sl.below hb h.sl.lt, ⟨h.ne.1, h.ne.2.1, Nat.lt_of_lt_of_le h.ne.2.2 hb.size⟩⟩
theorem OpAt.make {w w1 w2 : World} {i k d f m a t cn fi la st : Int} (hb1 : Below (w.alloc (.cells sZC 41)).heap.size (w.alloc (.cells sZC 41)) w1)
 (hb2 : Below (w1.alloc (.cells #[.int .u64 i, .int .u64 k, .int .i64 d, .int .i64 f, .int .u64 m] 26)).heap.size (w1.alloc (.cells #[.int .u64 i, .int .u64 k, .int .i64 d, .int .i64 f, .int .u64 m] 26)) w2) :
 OpAt w (w2.alloc (.cells (sC a t cn fi la st) 41)) w1.heap.size w2.heap.size i k d f m a t cn fi la st := by
 have q1 : Below w1.heap.size w1 w2 := (boxed w1 _).trans (hb2.mono (boxed w1 (.cells #[.int .u64 i, .int .u64 k, .int .i64 d, .int .i64 f, .int .u64 m] 26)).size)
 have s1 := hb1.size
 rw [World.size_alloc] at s1
 have s2 := hb2.size
 rw [World.size_alloc] at s2
 have q0 : Below w.heap.size w w1 := (boxed w _).trans (hb1.mono (boxed w (.cells sZC 41)).size)
 refine ⟨(q0.trans (q1.mono q0.size)).alloc (by omega) _, ?_, ?_, Blk.new w2 _ _, ⟨by omega, by omega, by simp⟩⟩
 · exact (((Blk.new w 41 sZC).below hb1 (by simp)).below q1 (by omega)).alloc _
 · exact ((Blk.new w1 26 _).below hb2 (by simp)).alloc _
theorem OpAt.cells {w W : World} {gh gs : Nat} {i k d f m a t cn fi la st : Int} (h : OpAt w W gh gs i k d f m a t cn fi la st) :
 W.cell? ⟨gh, 0, none⟩ = some (.int .u64 i) /\ W.cell? ⟨gh, 1, none⟩ = some (.int .u64 k) /\ W.cell? ⟨gh, 2, none⟩ = some (.int .i64 d) /\ W.cell? ⟨gh, 3, none⟩ = some (.int .i64 f) /\ W.cell? ⟨gh, 4, none⟩ = some (.int .u64 m) /\ W.cell? ⟨gs, 0, none⟩ = some (.int .u64 a) /\ W.cell? ⟨gs, 1, none⟩ = some (.int .u64 t) /\ W.cell? ⟨gs, 2, none⟩ = some (.int .u64 cn) /\ W.cell? ⟨gs, 3, none⟩ = some (.int .u64 fi) /\ W.cell? ⟨gs, 4, none⟩ = some (.int .u64 la) /\ W.cell? ⟨gs, 5, none⟩ = some (.int .u64 st) := by
 obtain ⟨x0, x1, x2, x3, x4, x5⟩ := slAt_blk h.sl
 have y := h.hd
 exact ⟨y.cell 0, y.cell 1, y.cell 2, y.cell 3, y.cell 4, x0, x1, x2, x3, x4, x5⟩
theorem OpAt.stored {w W : World} {gh gs : Nat} {i k d f m a t cn fi la st : Int} {a' b' c' d' e' f' : Value} (h : OpAt w W gh gs i k d f m a t cn fi la st) :
 ((((((W.setCell ⟨w.heap.size, 0, none⟩ a').setCell ⟨w.heap.size, 1, none⟩ b').setCell ⟨w.heap.size, 2, none⟩ c').setCell ⟨w.heap.size, 3, none⟩ d').setCell ⟨w.heap.size, 4, none⟩ e').setCell ⟨w.heap.size, 5, none⟩ f').cell? ⟨gh, 0, none⟩ = some (.int .u64 i) /\ ((((((W.setCell ⟨w.heap.size, 0, none⟩ a').setCell ⟨w.heap.size, 1, none⟩ b').setCell ⟨w.heap.size, 2, none⟩ c').setCell ⟨w.heap.size, 3, none⟩ d').setCell ⟨w.heap.size, 4, none⟩ e').setCell ⟨w.heap.size, 5, none⟩ f').cell? ⟨gh, 1, none⟩ = some (.int .u64 k) /\ ((((((W.setCell ⟨w.heap.size, 0, none⟩ a').setCell ⟨w.heap.size, 1, none⟩ b').setCell ⟨w.heap.size, 2, none⟩ c').setCell ⟨w.heap.size, 3, none⟩ d').setCell ⟨w.heap.size, 4, none⟩ e').setCell ⟨w.heap.size, 5, none⟩ f').cell? ⟨gh, 2, none⟩ = some (.int .i64 d) /\ ((((((W.setCell ⟨w.heap.size, 0, none⟩ a').setCell ⟨w.heap.size, 1, none⟩ b').setCell ⟨w.heap.size, 2, none⟩ c').setCell ⟨w.heap.size, 3, none⟩ d').setCell ⟨w.heap.size, 4, none⟩ e').setCell ⟨w.heap.size, 5, none⟩ f').cell? ⟨gh, 3, none⟩ = some (.int .i64 f) /\ ((((((W.setCell ⟨w.heap.size, 0, none⟩ a').setCell ⟨w.heap.size, 1, none⟩ b').setCell ⟨w.heap.size, 2, none⟩ c').setCell ⟨w.heap.size, 3, none⟩ d').setCell ⟨w.heap.size, 4, none⟩ e').setCell ⟨w.heap.size, 5, none⟩ f').cell? ⟨gh, 4, none⟩ = some (.int .u64 m) /\ ((((((W.setCell ⟨w.heap.size, 0, none⟩ a').setCell ⟨w.heap.size, 1, none⟩ b').setCell ⟨w.heap.size, 2, none⟩ c').setCell ⟨w.heap.size, 3, none⟩ d').setCell ⟨w.heap.size, 4, none⟩ e').setCell ⟨w.heap.size, 5, none⟩ f').cell? ⟨gs, 0, none⟩ = some (.int .u64 a) /\ ((((((W.setCell ⟨w.heap.size, 0, none⟩ a').setCell ⟨w.heap.size, 1, none⟩ b').setCell ⟨w.heap.size, 2, none⟩ c').setCell ⟨w.heap.size, 3, none⟩ d').setCell ⟨w.heap.size, 4, none⟩ e').setCell ⟨w.heap.size, 5, none⟩ f').cell? ⟨gs, 1, none⟩ = some (.int .u64 t) /\ ((((((W.setCell ⟨w.heap.size, 0, none⟩ a').setCell ⟨w.heap.size, 1, none⟩ b').setCell ⟨w.heap.size, 2, none⟩ c').setCell ⟨w.heap.size, 3, none⟩ d').setCell ⟨w.heap.size, 4, none⟩ e').setCell ⟨w.heap.size, 5, none⟩ f').cell? ⟨gs, 2, none⟩ = some (.int .u64 cn) /\ ((((((W.setCell ⟨w.heap.size, 0, none⟩ a').setCell ⟨w.heap.size, 1, none⟩ b').setCell ⟨w.heap.size, 2, none⟩ c').setCell ⟨w.heap.size, 3, none⟩ d').setCell ⟨w.heap.size, 4, none⟩ e').setCell ⟨w.heap.size, 5, none⟩ f').cell? ⟨gs, 3, none⟩ = some (.int .u64 fi) /\ ((((((W.setCell ⟨w.heap.size, 0, none⟩ a').setCell ⟨w.heap.size, 1, none⟩ b').setCell ⟨w.heap.size, 2, none⟩ c').setCell ⟨w.heap.size, 3, none⟩ d').setCell ⟨w.heap.size, 4, none⟩ e').setCell ⟨w.heap.size, 5, none⟩ f').cell? ⟨gs, 4, none⟩ = some (.int .u64 la) /\ ((((((W.setCell ⟨w.heap.size, 0, none⟩ a').setCell ⟨w.heap.size, 1, none⟩ b').setCell ⟨w.heap.size, 2, none⟩ c').setCell ⟨w.heap.size, 3, none⟩ d').setCell ⟨w.heap.size, 4, none⟩ e').setCell ⟨w.heap.size, 5, none⟩ f').cell? ⟨gs, 5, none⟩ = some (.int .u64 st) := by
 have z := sl_far (h := w.heap.size) (a' := a') (b' := b') (c' := c') (d' := d') (e' := e') (f' := f') h.sl (by have := h.ne; omega)
 obtain ⟨x0, x1, x2, x3, x4, x5⟩ := slAt_blk z
 have y := sl_far (h := w.heap.size) (a' := a') (b' := b') (c' := c') (d' := d') (e' := e') (f' := f') h.hd (by have := h.ne; omega)
 exact ⟨y.cell 0, y.cell 1, y.cell 2, y.cell 3, y.cell 4, x0, x1, x2, x3, x4, x5⟩
theorem sl_chg {W : World} {g : Nat} {a' b' c' d' e' f' : Value} : Chg (fun j => j = g) W ((((((W.setCell ⟨g, 0, none⟩ a').setCell ⟨g, 1, none⟩ b').setCell ⟨g, 2, none⟩ c').setCell ⟨g, 3, none⟩ d').setCell ⟨g, 4, none⟩ e').setCell ⟨g, 5, none⟩ f') :=
 ((((((Chg.refl (fun j => j = g) W).setCell (p := ⟨g, 0, none⟩) (.inr rfl) _).setCell (p := ⟨g, 1, none⟩) (.inr rfl) _).setCell (p := ⟨g, 2, none⟩) (.inr rfl) _).setCell (p := ⟨g, 3, none⟩) (.inr rfl) _).setCell (p := ⟨g, 4, none⟩) (.inr rfl) _).setCell (p := ⟨g, 5, none⟩) (.inr rfl) _
theorem OpAt.zero {w W : World} {gh gs : Nat} {i k d f m a t cn fi la st : Int} (h : OpAt w W gh gs i k d f m a t cn fi la st) :
 (W.cell? ⟨w.heap.size, 0, none⟩ = some (.int .u64 0) /\ W.cell? ⟨w.heap.size, 1, none⟩ = some (.int .u64 0) /\ W.cell? ⟨w.heap.size, 2, none⟩ = some (.int .u64 0) /\ W.cell? ⟨w.heap.size, 3, none⟩ = some (.int .u64 0) /\ W.cell? ⟨w.heap.size, 4, none⟩ = some (.int .u64 0) /\ W.cell? ⟨w.heap.size, 5, none⟩ = some (.int .u64 0)) /\
 (W.frozen? ⟨w.heap.size, 0, none⟩ = false /\ W.frozen? ⟨w.heap.size, 1, none⟩ = false /\ W.frozen? ⟨w.heap.size, 2, none⟩ = false /\ W.frozen? ⟨w.heap.size, 3, none⟩ = false /\ W.frozen? ⟨w.heap.size, 4, none⟩ = false /\ W.frozen? ⟨w.heap.size, 5, none⟩ = false) :=
 ⟨slAt_blk h.res, h.res.frozen 0, h.res.frozen 1, h.res.frozen 2, h.res.frozen 3, h.res.frozen 4, h.res.frozen 5⟩
theorem own_rd {w : World} {base : Nat} {e : TypeId} {size n c : Nat} {A : Option Addr} {xs : List Value} (h : w.ownsRow base e size (.slice A n c) n xs) : Reads w w.heap.size size A n xs := by
 obtain ⟨A1, c1, he, -, -, hr⟩ := own_reads h
 cases he
 exact hr
section
variable {B : Nat} {G : Nat} {A : Option Addr} {n c lm : Nat} {zs : List Int} {w : World} {i k d f m a t cn fi la st : Int}
set_option maxHeartbeats 4000000 in
theorem open_bad (hr : Reads w B 1 A n (cellsOf .u8 zs)) (hB : B <= w.heap.size) (hz : AreB zs) (hl : n <= c) (hcap : c <= 9223372036854775807) (hm : n <= 549755813888) (ht : IsTable w G) (H : OpHd zs i k d f m a t cn fi la st)
 (hno : isH zs = false ∨ chB zs = false ∨ (n : Int) < t ∨ ∃ (T : Nat) (L : List SR), isH zs = true /\ t = T /\ T <= n /\ scanAt (zs.take T) (newK d f : Nat) L /\ (((T : Nat) : Int) < ((newK d f : Nat) : Int) ∨ wholeB n (newK d f : Nat) T L = false)) :
 Calls Tryz.prog 14 #[.pointer (some ⟨G, 0, none⟩), .slice A n c, .int .i64 lm] w fun e w' => e = .returned (.tuple #[.pointer none, sZ, .slice none 0 0, .int .i64 27]) /\ Below w.heap.size w w' := by
 have DH := Lib.hid (fun wx (hx : Below w.heap.size w wx) => hdec_any G A n c zs wx (hr.below (hx.mono hB)) (Nat.le_trans hB hx.size) hz hl hcap (IsTable.below ht hx ht.lt))
 have DS := Lib.hid (fun wx (hx : Below w.heap.size w wx) => schoose_any G A n c zs wx (hr.below (hx.mono hB)) (Nat.le_trans hB hx.size) hz hl hcap (IsTable.below ht hx ht.lt))
 rw [H.hd] at DH
 rw [H.sl] at DS
 have tb := H.tb
 have HR := H.right
 obtain ⟨bh, hbh⟩ : ∃ b, isH zs = b := ⟨_, rfl⟩
 obtain ⟨bs, hbs⟩ : ∃ b, chB zs = b := ⟨_, rfl⟩
 rw [hbh] at DH hno HR
 rw [hbs] at DS hno
 have CN := Lib.hid (fun (wx : World) (hx : Below w.heap.size w wx) (T : Nat) (L : List SR) (hR : rightH d f = true) (hT : T <= n) (hL : scanAt (zs.take T) (newK d f : Nat) L) (h : ((T : Nat) : Int) < ((newK d f : Nat) : Int) ∨ wholeB n (newK d f : Nat) T L = false) =>
   cut_no i k d f m A n c zs T L wx (hr.below (hx.mono hB)) (Nat.le_trans hB hx.size) hz hl hcap hm hR (by omega) (by omega) (by rw [show cutN n (T : Int) = T by unfold cutN; omega]; exact hL) h)
 have hno2 : bh = false ∨ (bh = true /\ bs = false) ∨ (bh = true /\ bs = true /\ (n : Int) < t) ∨ (bh = true /\ bs = true /\ ¬ (n : Int) < t /\ ∃ T : Nat, t = T /\ T <= n /\ Hid (∀ wx, Below w.heap.size w wx -> Calls Tryz.prog 8 #[hdV i k d f m, .slice A n c, .int .i64 T] wx fun e w' => e = .returned (.tuple #[.slice none 0 0, .slice none 0 0, .bool false]) /\ Below wx.heap.size wx w')) := by
   cases bh
   · exact .inl rfl
   cases bs
   · exact .inr (.inl ⟨rfl, rfl⟩)
   by_cases hnt : (n : Int) < t
   · exact .inr (.inr (.inl ⟨rfl, rfl, hnt⟩))
   · rcases hno with h | h | h | ⟨T, L, -, e, hT, hL, h⟩
     · cases h
     · cases h
     · exact absurd h hnt
     · exact .inr (.inr (.inr ⟨rfl, rfl, hnt, T, e, hT, Lib.hid (fun wx hx => CN.out wx hx T L (HR rfl) hT hL h)⟩))
 have hb0 := boxed w (.cells sZC 41)
 have HB0 := Lib.hid hb0
 have hnw : IntKind.u64.wrap (n : Int) = n := by rw [IntKind.wrap_u64]; omega
 have HN2 := Lib.hid hno2
 clear hr hz ht H hbh hbs hb0 hno HR CN hno2
 go_enter Tryz.func14, Tryz.ntmps14
 go_upto_region 3 with (first
   | (go_at_call 39; refine (DH.out _ HB0.out).mono ?_; rintro e w1 ⟨rfl, hb1⟩; have hbw1 := HB0.out.trans (hb1.mono HB0.out.size); have hbw1' := hbw1.alloc hbw1.size (.cells #[.int .u64 i, .int .u64 k, .int .i64 d, .int .i64 f, .int .u64 m] 26))
   | (go_at_call 40; refine (DS.out _ hbw1').mono ?_; rintro e w2 ⟨rfl, hb2⟩))
 have OA := OpAt.make (a := a) (t := t) (cn := cn) (fi := fi) (la := la) (st := st) hb1 hb2
 unfold sC at OA
 clear hbw1 hbw1' hb1 hb2 DH DS HB0
 obtain ⟨W, hW⟩ : ∃ W, w2.alloc (.cells #[.int .u64 a, .int .u64 t, .int .u64 cn, .int .u64 fi, .int .u64 la, .int .u64 st] 41) = W := ⟨_, rfl⟩
 rw [hW] at OA ⊢
 clear hW
 generalize w1.heap.size = gh at OA ⊢
 generalize w2.heap.size = gs at OA ⊢
 have HO := Lib.hid OA
 obtain ⟨y0, y1, y2, y3, y4, x0, x1, x2, x3, x4, x5⟩ := OA.cells
 obtain ⟨⟨z0, z1, z2, z3, z4, z5⟩, f0, f1, f2, f3, f4, f5⟩ := OA.zero
 clear OA
 rcases HN2.out with rfl | ⟨rfl, rfl⟩ | ⟨rfl, rfl, h⟩ | ⟨rfl, rfl, hnt, T, rfl, hT, hC⟩
 · clear HN2
   go_wp2
   refine bodyPost_ret (results_open rfl _ _ w.heap.size 41 _ (0, 0) _ rfl (sl_store HO.out.res) Tryz.underlying41 rfl (by kernel_rfl)) rfl ?_
   exact ⟨rfl, sl_below HO.out.below (Nat.le_refl _)⟩
 · clear HN2
   go_wp2
   refine bodyPost_ret (results_open rfl _ _ w.heap.size 41 _ (0, 0) _ rfl (sl_store HO.out.res) Tryz.underlying41 rfl (by kernel_rfl)) rfl ?_
   exact ⟨rfl, sl_below HO.out.below (Nat.le_refl _)⟩
 · clear HN2
   have hdt : decide ((n : Int) < t) = true := decide_eq_true h
   go_wp2
   refine bodyPost_ret (results_open rfl _ _ w.heap.size 41 _ (0, 0) _ rfl (sl_store HO.out.res) Tryz.underlying41 rfl (by kernel_rfl)) rfl ?_
   exact ⟨rfl, sl_below HO.out.below (Nat.le_refl _)⟩
 · clear HN2
   have hdt : decide ((n : Int) < (T : Int)) = false := decide_eq_false (by omega)
   have hTw : IntKind.i64.wrap (T : Int) = T := by rw [IntKind.wrap_i64]; omega
   have hTn : ¬ n < T := by omega
   go_wp2_with (go_at_call 8; refine (hC.out _ HO.out.below).mono ?_; rintro e w3 ⟨rfl, hb3⟩; have HO3 := Lib.hid (HO.out.bel hb3); clear y0 y1 y2 y3 y4 x0 x1 x2 x3 x4 x5 z0 z1 z2 z3 z4 z5 f0 f1 f2 f3 f4 f5; obtain ⟨⟨z0, z1, z2, z3, z4, z5⟩, f0, f1, f2, f3, f4, f5⟩ := HO3.out.zero)
   refine bodyPost_ret (results_open rfl _ _ w.heap.size 41 _ (0, 0) _ rfl (sl_store HO3.out.res) Tryz.underlying41 rfl (by kernel_rfl)) rfl ?_
   exact ⟨rfl, sl_below HO3.out.below (Nat.le_refl _)⟩
set_option maxHeartbeats 4000000 in
theorem open_ok {T : Nat} {L : List SR} (hr : Reads w B 1 A n (cellsOf .u8 zs)) (hB : B <= w.heap.size) (hz : AreB zs) (hl : n <= c) (hcap : c <= 9223372036854775807) (hm : n <= 549755813888) (ht : IsTable w G) (H : OpHd zs i k d f m a t cn fi la st)
 (hih : isH zs = true) (hch : chB zs = true) (hT : t = T) (hTn : T <= n) (hnT : newK d f <= T) (hL : scanAt (zs.take T) (newK d f : Nat) L) (hE : lastE (newK d f : Nat) L = T) :
 Calls Tryz.prog 14 #[.pointer (some ⟨G, 0, none⟩), .slice A n c, .int .i64 lm] w fun e w' => ∃ p v bv sv, e = .returned (.tuple #[.pointer (some ⟨p, 0, none⟩), sV a t cn fi la st, v, .int .i64 0]) /\ w'.ownsRow w.heap.size 3 1 v (cutW d f L zs T).2.length (cellsOf .i64 (nI (cutW d f L zs T).2)) /\ IX w' w.heap.size (fun j => w.heap.size <= j /\ j < w'.heap.size) p i k d f m ⟨(cutW d f L zs T).1, (cutW d f L zs T).1, [], lm⟩ bv sv /\ Below w.heap.size w w' := by
 have hR := H.right hih
 have HR := Lib.hid hR
 obtain ⟨d1, d2, d3, d4⟩ := rightH_bd hR
 have hnk := newK_val ⟨d1, d2⟩ ⟨d3, d4⟩
 have DH := Lib.hid (fun wx (hx : Below w.heap.size w wx) => hdec_any G A n c zs wx (hr.below (hx.mono hB)) (Nat.le_trans hB hx.size) hz hl hcap (IsTable.below ht hx ht.lt))
 have DS := Lib.hid (fun wx (hx : Below w.heap.size w wx) => schoose_any G A n c zs wx (hr.below (hx.mono hB)) (Nat.le_trans hB hx.size) hz hl hcap (IsTable.below ht hx ht.lt))
 rw [H.hd, hih] at DH
 rw [H.sl, hch] at DS
 have tb := H.tb
 subst hT
 have CY := Lib.hid (fun (wx : World) (hx : Below w.heap.size w wx) => cut_yes i k d f m A n c zs T L wx (hr.below (hx.mono hB)) (Nat.le_trans hB hx.size) hz hl hcap hm hR hnT hTn hL hE)
 have hlz : zs.length = n := hr.len
 have hxl : (cutW d f L zs T).1.length = T := by
   have h := (cuts_ok (T := T) (C0 := zs.take T) (ws := wordsS (newK d f) L) (hz.take T) (by rw [List.length_take]; omega) (fun q hq => by have h := wordsS_fit (by omega) (by omega) (by rw [List.length_take]; omega) hL q hq; rw [List.length_take] at h; omega) (pre := nI (wordsS (newK d f) L)) (rest := []) (by rw [List.append_nil])).1
   rw [cuts_all] at h
   exact h
 have IL := Lib.hid (fun (wx : World) (A1 : Option Addr) (c1 : Nat) (hle : w.heap.size <= wx.heap.size) (ho : wx.ownsRow w.heap.size 5 1 (.slice A1 T c1) T (cellsOf .u8 (cutW d f L zs T).1)) => iload_yes (base := w.heap.size) i k d f m A1 T c1 lm (cutW d f L zs T).1 wx hR (by omega) (own_rd ho) (Nat.le_refl _) (by omega) hle)
 have hb0 := boxed w (.cells sZC 41)
 have HB0 := Lib.hid hb0
 have hnw : IntKind.u64.wrap (n : Int) = n := by rw [IntKind.wrap_u64]; omega
 have hTw : IntKind.i64.wrap (T : Int) = T := by rw [IntKind.wrap_i64]; omega
 have hTn2 : ¬ n < T := by omega
 have hdt : decide ((n : Int) < (T : Int)) = false := decide_eq_false (by omega)
 clear hlz
 generalize (cutW d f L zs T).1 = xz at *
 generalize (cutW d f L zs T).2 = cw at *
 clear hr hz ht H hb0 hL hE hnT hR d1 d2 d3 d4 hnk hih hch
 go_enter Tryz.func14, Tryz.ntmps14
 go_upto_region 3 with (first
   | (go_at_call 39; refine (DH.out _ HB0.out).mono ?_; rintro e w1 ⟨rfl, hb1⟩; have hbw1 := HB0.out.trans (hb1.mono HB0.out.size); have hbw1' := hbw1.alloc hbw1.size (.cells #[.int .u64 i, .int .u64 k, .int .i64 d, .int .i64 f, .int .u64 m] 26))
   | (go_at_call 40; refine (DS.out _ hbw1').mono ?_; rintro e w2 ⟨rfl, hb2⟩))
 have OA := OpAt.make (a := a) (t := T) (cn := cn) (fi := fi) (la := la) (st := st) hb1 hb2
 unfold sC at OA
 clear hbw1 hbw1' hb1 hb2 DH DS HB0
 obtain ⟨W, hW⟩ : ∃ W, w2.alloc (.cells #[.int .u64 a, .int .u64 T, .int .u64 cn, .int .u64 fi, .int .u64 la, .int .u64 st] 41) = W := ⟨_, rfl⟩
 rw [hW] at OA ⊢
 clear hW
 generalize w1.heap.size = gh at OA ⊢
 generalize w2.heap.size = gs at OA ⊢
 have HO := Lib.hid OA
 obtain ⟨y0, y1, y2, y3, y4, x0, x1, x2, x3, x4, x5⟩ := OA.cells
 clear OA
 go_upto_region 8 with (go_at_call 8; refine (CY.out _ HO.out.below).mono ?_; rintro e w3 ⟨A1, c1, v, rfl, hox, hov, hc1, hc2, hb3⟩; have HX := Lib.hid (And.intro hox hov); clear hox hov)
 have HO3 := Lib.hid (HO.out.bel hb3)
 have HS := Lib.hid (fun wx (hx : Below w3.heap.size w3 wx) => (HO3.out.bel hx).cells)
 have HW3 := Lib.hid (And.intro HO.out.below.size hb3.size)
 clear HO y0 y1 y2 y3 y4 x0 x1 x2 x3 x4 x5 hb3 CY
 refine wp_region_z (S := fun w' => w'.cell? ⟨gh, 0, none⟩ = some (.int .u64 i) /\ w'.cell? ⟨gh, 1, none⟩ = some (.int .u64 k) /\ w'.cell? ⟨gh, 2, none⟩ = some (.int .i64 d) /\ w'.cell? ⟨gh, 3, none⟩ = some (.int .i64 f) /\ w'.cell? ⟨gh, 4, none⟩ = some (.int .u64 m) /\ w'.cell? ⟨gs, 0, none⟩ = some (.int .u64 a) /\ w'.cell? ⟨gs, 1, none⟩ = some (.int .u64 T) /\ w'.cell? ⟨gs, 2, none⟩ = some (.int .u64 cn) /\ w'.cell? ⟨gs, 3, none⟩ = some (.int .u64 fi) /\ w'.cell? ⟨gs, 4, none⟩ = some (.int .u64 la) /\ w'.cell? ⟨gs, 5, none⟩ = some (.int .u64 st)) 9 (by kernel_rfl) (HS.out _ (below_drewn (Below.refl _ _) 1)) (fun hHeld => ?_)
 refine takeZ_yes (i := 0) (v := ?_) rfl (by kernel_rfl) (by kernel_rfl) (by kernel_rfl) (by kernel_rfl) (fun _ _ _ h => h) (by kernel_rfl) ?_ (by assumption) ?_
 rotate_left
 · intro wz hSw; (try dsimp only at hSw); go_simp; try with_reducible rfl
 simp only [Act.put, lS, lZ, lC]
 refine takeZ_yes (i := 1) (v := ?_) rfl (by kernel_rfl) (by kernel_rfl) (by kernel_rfl) (by kernel_rfl) (fun _ _ _ h => h) (by kernel_rfl) ?_ (by assumption) ?_
 rotate_left
 · intro wz hSw; (try dsimp only at hSw); go_simp; try with_reducible rfl
 simp only [Act.put, lS, lZ, lC]
 refine takeZ_yes (i := 2) (v := ?_) rfl (by kernel_rfl) (by kernel_rfl) (by kernel_rfl) (by kernel_rfl) (fun _ _ _ h => h) (by kernel_rfl) ?_ (by assumption) ?_
 rotate_left
 · intro wz hSw; (try dsimp only at hSw); go_simp; try with_reducible rfl
 simp only [Act.put, lS, lZ, lC]
 refine takeZ_yes (i := 4) (v := ?_) rfl (by kernel_rfl) (by kernel_rfl) (by kernel_rfl) (by kernel_rfl) (fun _ _ _ h => h) (by kernel_rfl) ?_ (by assumption) ?_
 rotate_left
 · intro wz hSw; (try dsimp only at hSw); go_simp; try with_reducible rfl
 simp only [Act.put, lS, lZ, lC]
 refine takeZ_yes (i := 5) (v := ?_) rfl (by kernel_rfl) (by kernel_rfl) (by kernel_rfl) (by kernel_rfl) (fun _ _ _ h => h) (by kernel_rfl) ?_ (by assumption) ?_
 rotate_left
 · intro wz hSw; (try dsimp only at hSw); go_simp; try with_reducible rfl
 simp only [Act.put, lS, lZ, lC]
 refine wpAnyZ_ready (rs := [3]) (by kernel_rfl) (by simp) (AllReadyZ.cons rfl (fun K hK => ?_) AllReadyZ.nil)
 go_simp
 go_at_call 41
 refine (IL.out w3.drew _ _ (show w.heap.size <= w3.heap.size from Nat.le_trans HW3.out.1 HW3.out.2) (by exact own_base (own_below HX.out.1 (below_drewn (Below.refl _ _) 1)) HW3.out.1)).mono ?_
 rintro e w4 ⟨p, bv, sv, rfl, hb4, hix⟩
 have hb34 : Below w3.heap.size w3 w4 := (below_drewn (Below.refl _ _) 1).trans hb4
 refine hK.out _ _ (HS.out _ hb34) (fun hHeld => ?_)
 clear hK K
 have HO4 := Lib.hid (HO3.out.bel hb34)
 obtain ⟨⟨z0, z1, z2, z3, z4, z5⟩, f0, f1, f2, f3, f4, f5⟩ := HO4.out.zero
 have HIX := Lib.hid hix
 have HV := Lib.hid (own_below HX.out.2 hb34)
 clear hb4 hix
 try simp only [Act.put, lS, lZ, lC]
 refine takeZ_yes (i := 6) (v := ?_) rfl (by kernel_rfl) (by kernel_rfl) (by kernel_rfl) (by kernel_rfl) (fun _ _ _ h => h) (by kernel_rfl) ?_ (by assumption) ?_
 rotate_left
 · intro wz hSw; (try dsimp only at hSw); go_simp; try with_reducible rfl
 simp only [Act.put, lS, lZ, lC]
 refine wpAnyZ_ready (rs := [7]) (by kernel_rfl) (by simp) (AllReadyZ.cons rfl (fun K hK => ?_) AllReadyZ.nil)
 go_simp
 refine hK.out _ _ HO4.out.stored (fun hHeld => ?_)
 clear hK K z0 z1 z2 z3 z4 z5 f0 f1 f2 f3 f4 f5
 try simp only [Act.put, lS, lZ, lC]
 refine takeZ_yes (i := 8) (v := ?_) rfl (by kernel_rfl) (by kernel_rfl) (by kernel_rfl) (by kernel_rfl) (fun _ _ _ h => h) (by kernel_rfl) ?_ (by assumption) ?_
 rotate_left
 · intro wz hSw; (try dsimp only at hSw); go_simp; try with_reducible rfl
 simp only [Act.put, lS, lZ, lC]
 refine wpAnyZ_ready (rs := [9]) (by kernel_rfl) (by simp) (AllReadyZ.last rfl (fun K hK => ?_))
 go_simp
 refine hK.out _ _ ?_
 clear hK K
 refine wpAnyZ_done (by kernel_rfl) ?_ _
 go_wp2
 refine bodyPost_ret (results_open rfl _ _ w.heap.size 41 _ (0, 0) _ rfl (sl_store HO4.out.res) Tryz.underlying41 rfl (by kernel_rfl)) rfl ?_
 have g1 := HO4.out.ne
 have g2 := HW3.out
 have hsz := (sl_chg (W := w4) (g := w.heap.size) (a' := .int .u64 a) (b' := .int .u64 T) (c' := .int .u64 cn) (d' := .int .u64 fi) (e' := .int .u64 la) (f' := .int .u64 st)).size
 refine ⟨p, v, bv, sv, rfl, own_base (own_chg HV.out sl_chg (fun g hg e => own_blk_ne HV.out HO4.out.res (by decide) (e ▸ hg))) g2.1, (HIX.out.keep sl_chg (fun j hj e => ?_)).mono (fun j hj => ?_) (fun j hj => hj), sl_below HO4.out.below (Nat.le_refl _)⟩
 · have := HO3.out.ne
   have h1 : w3.heap.size <= j := hj.1
   have h2 := HO3.out.below.size
   have h3 := HO3.out.hd.lt
   omega
 · have h1 : w3.heap.size <= j := hj.1
   have h2 := HO3.out.below.size
   have h3 := hj.2
   exact ⟨by omega, by omega⟩
end
end Go.Proofs.YtaeegcohimflbaaGreat
