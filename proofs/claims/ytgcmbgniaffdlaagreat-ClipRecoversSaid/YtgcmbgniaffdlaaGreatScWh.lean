import Derived.Test.YtgcmbgniaffdlaaGreatScFn
set_option linter.unusedVariables false
set_option maxRecDepth 100000
set_option linter.unusedSimpArgs false
namespace Go.Proofs.YtgcmbgniaffdlaaGreat
open Go.RowKit Go.Shelf
attribute [local go_sem] Oper.semAt_some
theorem SR.Is.bare {zs : List Int} {r : SR} (h : r.Is zs) : bareN r.k (r.raw zs).length (r.its zs).length = r.s := by
 obtain ⟨-, h2, h3⟩ := right_may h.at_ h.parts.1
 unfold SR.raw SR.its
 rw [dR_length, dI_length, objB_length h.at_.fit]
 unfold bareN
 by_cases hi : hasI r.k = true
 · rw [if_pos hi, if_pos hi]; have := h3 hi; omega
 · rw [if_neg hi, if_neg hi]; omega
theorem SR.Is.lens {zs : List Int} {r : SR} (h : r.Is zs) : (r.raw zs).length <= zs.length /\ (r.its zs).length <= zs.length /\ (r.wds zs).length = kwN r.k := by
 have h1 := h.bare
 have h2 := h.room
 unfold bareN at h1
 exact ⟨by omega, by omega, dW_length _ _⟩
theorem so_size {zs : List Int} {x : So} {W : World} (hx : x.lies zs W) (hi : x.r.Is zs) (hl : zs.length <= 1099511627776) :
 Calls Tryz.prog 96 #[obV x.r.k x.A x.n x.c x.B x.m x.d x.C x.p x.q] W fun e w' => e = .returned (.int .i64 ((x.r.s + padn x.r.s 8 : Nat) : Int)) /\ Below W.heap.size W w' := by
 have h1 : (x.r.raw zs).length = x.m := hx.rr.len
 have h2 : (x.r.its zs).length = x.p := hx.ir.len
 have h3 := hi.lens
 have h4 := osize_any x.r.k x.A x.n x.c x.B x.m x.d x.C x.p x.q W (by omega) (by omega)
 have h5 : algn (bareN x.r.k x.m x.p) = ((x.r.s + padn x.r.s 8 : Nat) : Int) := by rw [<- h1, <- h2, hi.bare, algn_pad]
 rw [h5] at h4
 exact h4
theorem objects_seq (fp₀ : Nat -> Prop) (B : Nat) (A : Option Addr) (len cap : Nat) (zs : List Int) (pl : Int) (L : List SR) (w : World)
 (hr : Reads w B 1 A len (cellsOf .u8 zs)) (hB : B <= w.heap.size) (hA : 0 < len -> ∀ ad, A = some ad -> ¬ fp₀ ad.block) (hz : AreB zs) (hl : len <= cap) (hcap : cap <= 9223372036854775807) (hm : len <= 140737488355328)
 (hfp : ∀ k, fp₀ k -> k < w.heap.size) (h0 : -9223372036854775808 <= pl) (h1 : pl <= 9223372036854775807) (hL : scanAt zs pl L) :
 Calls Tryz.prog 64 #[.slice A len cap, .int .i64 pl] w fun e w' => e = .returned (scV w.heap.size) /\ Below w.heap.size w w' /\
 SeqF Fence.wide 8 Tryz.prog 121 (scB w.heap.size) So.encs (TellsS zs L) fp₀ (fun xs => xs.map (·.r) = L) (fun pre => ∃ rest, pre.map (·.r) ++ rest = L) L.length w' := by
 refine (objects_any A len cap pl w).mono ?_
 rintro e w' ⟨rfl, rfl⟩
 have hb : Below w.heap.size w ((w.alloc (.cells #[.slice A len cap] 24)).alloc (.cells #[.int .i64 pl] 3)) := (boxed w _).alloc (boxed w _).size _
 have b1 := (Blk.new w 24 #[.slice A len cap]).alloc (.cells #[.int .i64 pl] 3)
 have b2 := Blk.new (w.alloc (.cells #[.slice A len cap] 24)) 3 #[.int .i64 pl]
 rw [World.size_alloc] at b2
 exact ⟨rfl, hb, objects_F 8 (by omega) fp₀ w.heap.size B A len cap zs pl L _ (hr.below (hb.mono hB)) (Nat.le_trans hB hb.size) hA hz hl hcap hm (by simp)
   ⟨fun e => by have := hfp _ e; omega, fun e => by have := hfp _ e; omega⟩ (b2.cell 0) (b1.cell 0) h0 h1 hL⟩
def wholeB (n : Nat) (pl to : Int) (L : List SR) : Bool := decide (0 <= pl /\ to <= n /\ lastE pl L = to)
def WhI (g : Nat) (pl : Int) (w : World) (fq : Nat -> Prop) (pre : List So) (W : World) : Prop := fq = (fun k => k = g) /\ Blk W g 3 #[.int .i64 (lastE pl (pre.map (·.r)))] /\ Below g w W
theorem own_blkAny {β : Type} {B : Nat} (g : Nat) (t : TypeId) (cs : β -> Array Value) : OwnFrom B (fun s W => Blk W g t (cs s)) :=
 fun s W W' row hs hg hr => hs.grown hg (fun e => by
   obtain ⟨-, o, ho, hc⟩ := hr g e.symm
   rw [show W.heap[g]? = _ from hs] at ho; cases ho; cases hc)
theorem whI_own (g C : Nat) (pl : Int) (w : World) (hC : g < C) (hw : g <= w.heap.size) (fq : Nat -> Prop) : OwnFrom C (WhI g pl w fq) := by
 rintro pre W W' row ⟨e1, hb, hbw⟩ hg hrow
 exact ⟨e1, own_blkAny g 3 (fun s : List So => #[.int .i64 (lastE pl (s.map (·.r)))]) pre W W' row hb hg hrow, hbw.grown hg (by have := hbw.size; omega) (fun k e => by have := (hrow k e).1; omega)⟩
theorem GrowF.set {fp : Nat -> Prop} {W : World} {p : Addr} (h : FpOk fp W) (hp : fp p.block) (u : Value) : GrowF fp W fp (W.setCell p u) :=
 ⟨chg_set1 (Chg.refl _ _) hp u, fun k hk => ⟨.inl hk, by rw [size_set]; exact h k hk⟩⟩
set_option maxHeartbeats 2000000 in
theorem scWhole_any {B : Nat} (A : Option Addr) (n c : Nat) (zs : List Int) (pl to : Int) (L : List SR) (w : World) (hr : Reads w B 1 A n (cellsOf .u8 zs)) (hB : B <= w.heap.size) (hz : AreB zs) (hl : n <= c) (hcap : c <= 9223372036854775807) (hm : n <= 1099511627776)
 (h0 : -9223372036854775808 <= pl) (h1 : pl <= 9223372036854775807) (t0 : -9223372036854775808 <= to) (t1 : to <= 9223372036854775807) (hL : scanAt (zs.take (cutN n to)) pl L) :
 Calls Tryz.prog 50 #[.slice A n c, .int .i64 pl, .int .i64 to] w fun e w' => e = .returned (.bool (wholeB n pl to L)) /\ Below w.heap.size w w' := by
 by_cases c0 : pl < 0
 · have HF : Hid (false = wholeB n pl to L) := Lib.hid (by unfold wholeB; simp; omega)
   have c1 : decide (pl < 0) = true := decide_eq_true c0
   clear hr hz hL
   go_enter Tryz.func50, Tryz.ntmps50
   go_wp2
   go_ret
   exact ⟨by rw [<- HF.out]; rfl, Below.refl _ _⟩
 by_cases c1 : (n : Int) < to
 · have HF : Hid (false = wholeB n pl to L) := Lib.hid (by unfold wholeB; simp; omega)
   have c2 : decide (pl < 0) = false := decide_eq_false c0
   have c3 : decide ((n : Int) < to) = true := decide_eq_true c1
   clear hr hz hL
   go_enter Tryz.func50, Tryz.ntmps50
   go_wp2
   go_ret
   exact ⟨by rw [<- HF.out]; rfl, Below.refl _ _⟩
 have hn : (zs.take (cutN n to)).length = cutN n to := by
   have := hr.len
   rw [List.length_take, this]; unfold cutN; omega
 obtain ⟨T, hT⟩ : ∃ T, cutN n to = T := ⟨_, rfl⟩
 have hTn : T <= n := by rw [<- hT]; exact cutN_le _ _
 rw [hT] at hL hn
 have AH := Lib.hid (fun wx => ahead_any A n c to wx hl hcap t0 t1)
 rw [hT] at AH
 have hb0 : Below w.heap.size w (w.alloc (.cells #[.int .i64 pl] 3)) := boxed w _
 have OB := Lib.hid (objects_seq (fun k => k = w.heap.size) B A T c (zs.take T) pl L (w.alloc (.cells #[.int .i64 pl] 3)) ((hr.pre hTn).below (hb0.mono hB)) (by simp; omega) (fun hn ad ha e => by
   obtain ⟨ad2, ea, hb, -⟩ := (hr.pre hTn).2 hn
   rw [ha] at ea; injection ea with ea; subst ea; omega) (hz.take _) (by omega) hcap (by omega) (fun k hk => by subst hk; simp) h0 h1 hL)
 have x0 := Blk.new w 3 #[.int .i64 pl]
 rw [World.size_alloc] at OB
 have SC := Lib.hid hL
 clear hT
 refine (callsIn_wide (n := 9)).1 ?_
 refine callsIn_of_wp_marks Tryz.func50 rfl trivial ?_ rfl
 simp only [Tryz.ntmps50, List.size_toArray, List.length_cons, List.length_nil, Nat.reduceAdd, Nat.reduceSub, Array.replicate_succ, Array.replicate_zero, List.push_toArray, List.append_toArray, List.nil_append, List.cons_append]
 gi_wp2_with (first
   | (refine ⟨trivial, ?_⟩; gi_at_call 65; refine (callsIn_wide.2 (AH.out _)).mono ?_; rintro e w1 ⟨rfl, rfl⟩)
   | (refine ⟨trivial, ?_⟩; gi_at_call 64; refine (callsIn_wide.2 OB.out).mono ?_; rintro e w2 ⟨rfl, hb2, hseq⟩))
 have hs2 := hb2.size
 rw [World.size_alloc] at hs2
 have hbw2 : Below w.heap.size w w2 := hb0.trans (hb2.mono (by simp))
 have y0 := x0.below hb2 (by simp)
 refine wp_range_F (F := Fence.wide) (n := 9) rfl (by omega) (gf := 121) (lb := scB (w.heap.size + 1)) rfl trivial (enters_of Tryz.func121 (by kernel_rfl) rfl) hseq
     (fun k hk => by subst hk; omega)
     (fun fp pre x => tellsS_own _ L _ fp pre x) (fun _ => rfl)
     (fun fq pre W => WhI w.heap.size pl w fq pre W)
     (fun c pre W => False)
     (fun fq => whI_own _ _ _ _ (by omega) (Nat.le_refl _) fq)
     (fun c => own_never)
     ⟨rfl, y0, hbw2⟩
     (fun x a' W => ∃ b, Blk W b 128 #[.int .i64 x.r.k, .slice x.A x.n x.c, .slice x.B x.m x.d, .slice x.C x.p x.q] /\ a' = { tmps := #[.slice A n c, .int .i64 pl, .int .i64 to, undef, undef, undef, .bool false, .pointer (some ⟨w.heap.size, 0, none⟩), .int .i64 x.r.j, .pointer (some ⟨b, 0, none⟩), .int .i64 pl, .bool false, .bool false, .int .i64 to, .slice A n c, .int .i64 n, .bool false, .bool false, .int .i64 pl, .slice A n c, .int .i64 to, .slice A T c, .int .i64 pl, scV (w.heap.size + 1), .int .i64 x.r.j, x.v, undef, undef, undef, undef, undef, undef, undef], defers := [] })
     (fun x a' _ A C row hs hg hr => by
       obtain ⟨b, h1, h2⟩ := hs
       exact ⟨b, own_blkAny b 128 (fun _ : Unit => _) () A C row h1 hg hr, h2⟩)
     ?assign ?body ?done ?stop
 case assign =>
   intro l2 x W3 K hW hK
   dsimp only [So.encs, So.v, obV]
   gi_wp2
   exact hK _ _ (boxed _ _) ⟨_, Blk.new _ _ _, rfl⟩
 case body =>
   rintro l2 fp fq pre x W3 ⟨rfl, hv, hbW⟩ hok hsub hlen hpx - a' ⟨b, hbx, rfl⟩
   have b0 := hbx.cell 0
   have b1 := hbx.cell 1
   have b2 := hbx.cell 2
   have b3 := hbx.cell 3
   have hmem : x.r ∈ L := by obtain ⟨rest, e⟩ := hpx.ex; rw [<- e]; simp
   have SZ := Lib.hid (so_size hpx.lies (SC.out.mem _ hmem) (by rw [hn]; omega))
   gi_wp2_with (refine ⟨trivial, ?_⟩; gi_at_call 96; refine (CallsIn.inRound l2 (callsIn_wide.2 SZ.out)).mono ?_; rintro e w4 ⟨rfl, hb4⟩; have hv4 := hv.below hb4 hv.lt; have fz := hv4.frozen 0; have cz := hv4.cell 0)
   have hroom := (SC.out.mem _ hmem).room
   rw [hn] at hroom
   unfold SR.fin at hroom
   have hst := hv4.set_ 0 (.int .i64 (wrap64 ((x.r.j : Int) + ((x.r.s : Int) + (padn x.r.s 8 : Nat)))))
   have hsv := hv4.lt
   refine ⟨_, ⟨rfl, ?_, (hbW.trans (hb4.mono hbW.size)).setCell (Nat.le_refl _) _⟩, (GrowF.below hok hb4).trans (GrowF.set (GrowF.below hok hb4).ok rfl _)⟩
   rw [List.map_append, List.map_cons, List.map_nil, lastE_snoc]
   have e9 : wrap64 ((x.r.j : Int) + ((x.r.s : Int) + (padn x.r.s 8 : Nat))) = (x.r.fin : Int) := by unfold wrap64 SR.fin; omega
   rw [e9] at hst ⊢
   exact hst
 case done =>
   rintro D fq xs W hD hxs ⟨rfl, hv, hbW⟩ hK
   have cv := hv.cell 0
   gi_wp2
   refine ⟨by simp, .inl ⟨_, _, rfl, run_takeDeferred hK, ?_⟩⟩
   refine ⟨_, results_tmp rfl _ _ _, ?_, below_put1 hbW (by omega) _⟩
   have e9 : (lastE pl L == to) = wholeB n pl to L := by
     unfold wholeB
     by_cases h : lastE pl L = to
     · rw [h, beq_self_eq_true]; symm; exact decide_eq_true ⟨by omega, by omega, rfl⟩
     · rw [beq_false_of_ne h]; symm; exact decide_eq_false (fun h9 => h h9.2.2)
   show Ending.returned (.bool (lastE pl L == to)) = _
   rw [e9]
 case stop =>
   rintro D cc pre W hD hp hf hK
   exact hf.elim
end Go.Proofs.YtgcmbgniaffdlaaGreat
