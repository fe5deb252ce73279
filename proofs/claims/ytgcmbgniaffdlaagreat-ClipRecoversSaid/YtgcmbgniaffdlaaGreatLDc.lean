import Derived.Test.YtgcmbgniaffdlaaGreatLDb
set_option linter.unusedVariables false
set_option maxRecDepth 100000
set_option linter.unusedSimpArgs false
namespace Go.Proofs.YtgcmbgniaffdlaaGreat
open Go.RowKit Go.Shelf
attribute [local go_sem] Oper.semAt_some
theorem results_cq {P : Program} {fn : Func} {p : Tmp} {tp : TypeId} (h : fn.results = #[.cell p tp]) (tmps : Array Value) (w : World) (g1 : Nat) (v1 : Value)
 (hp : tmps.getD p undef = .pointer (some ⟨g1, 0, none⟩)) (h1 : (loadVar tp ⟨g1, 0, none⟩).run P w = .ok v1 w) :
 (results fn tmps).run P w = .ok v1 w := by
 have hp' : tmps[p]?.getD undef = .pointer (some ⟨g1, 0, none⟩) := by simpa using hp
 simp [results, h, hp', asAddr, h1]
theorem load_u64q {w : World} {g : Nat} {x : Int} (h : w.cell? ⟨g, 0, none⟩ = some (.int .u64 x)) : (loadVar 27 ⟨g, 0, none⟩).run Tryz.prog w = .ok (.int .u64 x) w := by simp [go_sem, h]
section
variable {fld : List Int -> List Int} {base p : Nat} {S : Nat -> Prop} {i k d f h : Int} {m : IM} {bv sv : Value} {l : List GO}
set_option maxHeartbeats 4000000 in
theorem bucketD_any (sum : Int) (w : World) (D : DB fld k d f 0 0 m.b l) (H : IX w base S p i k d f h m bv sv) (hbm : AreB m.b) (hs : IsU sum) :
 Calls Tryz.prog 175 #[.pointer (some ⟨p, 0, none⟩), .int .u64 sum] w fun e w' => e = .returned (.int .u64 (m.word (tb d 1 + 8 * bktN d f 1 sum : Nat))) /\ Below w.heap.size w w' := by
 obtain ⟨g1, g2⟩ := bktN_eq D.hD D.hF (kd := 1) hs
 have hc := D.bks 1 (.inl rfl) _ g2
 have h0 := newK_low d f D.hD D.hF
 have hch := hc.follow (newK_val D.hD D.hF).symm h0.2 D.gb (fun r _ hp => (pBk_iff.1 hp).1.1)
 have hU : IsU (m.word (tb d 1 + 8 * bktN d f 1 sum : Nat)) := hc.isU D.gb
 have hlk : Lk 1 (m.word (tb d 1 + 8 * bktN d f 1 sum : Nat)) (l.filter (pBk k d f 1 (bktN d f 1 sum) 0)) := hc
 have hmost := D.gb.most
 have hx0 := Blk.new w 27 #[.int .u64 0]
 have hbx := boxed w (.cells #[.int .u64 0] 27)
 have AL := Lib.hid (tall_any 1 (.inl rfl) sum (w.alloc (.cells #[.int .u64 0] 27)) (H.below hbx) hbm hs D.hD D.hF)
 obtain ⟨L, hL⟩ : ∃ L, l.filter (pBk k d f 1 (bktN d f 1 sum) 0) = L := ⟨_, rfl⟩
 obtain ⟨pl, hpl⟩ : ∃ pl, m.word (tb d 1 + 8 * bktN d f 1 sum : Nat) = pl := ⟨_, rfl⟩
 rw [hL] at hch hlk
 rw [hpl] at hch hlk hU AL ⊢
 have hLf : ∀ r ∈ L, r.at_ + 16 <= m.b.length := fun r hr => by
   have := D.gb.fine r (List.mem_filter.1 (hL ▸ hr)).1
   have := this.1.front; omega
 have HX := Lib.hid (And.intro hx0 hbx)
 clear hx0 hbx hL hpl
 refine (callsIn_wide (n := 9)).1 ?_
 refine callsIn_of_wp_marks Tryz.func175 rfl trivial ?_ rfl
 simp only [Tryz.ntmps175, List.size_toArray, List.length_cons, List.length_nil, Nat.reduceAdd, Nat.reduceSub, Array.replicate_succ, Array.replicate_zero, List.push_toArray, List.append_toArray, List.nil_append, List.cons_append]
 gi_wp2_with (refine ⟨trivial, ?_⟩; gi_at_call 124; refine (callsIn_wide.2 AL.out).mono ?_; rintro e w2 ⟨g, rfl, hb2, hg, hfl⟩)
 obtain ⟨x0, hbx⟩ := HX.out
 have hs2 := hb2.size
 have hlo := hfl.lo
 rw [World.size_alloc] at hg hs2
 obtain ⟨g0, hg0⟩ : ∃ g0, w.heap.size = g0 := ⟨_, rfl⟩
 have hbw2 : Below w.heap.size w w2 := hbx.trans (hb2.mono hbx.size)
 have H2 := H.below hbw2
 have y0 := x0.below hb2 (by simp)
 have hft := H.foot
 rw [hg0] at y0 hbw2 hft hg hs2 ⊢
 have hseq := follow_F 8 (by omega) (fun k => k = g0) (g + 3) (g + 2) (g + 1) g 1 1 pl (L.map GO.it) w2 H2 hbm hmost D.hD D.hF (fun j hj => ⟨(H2.foot j hj).2, fun e => by have := (hft j hj).2; omega⟩) ⟨by omega, by omega, by omega, by omega⟩ ⟨by omega, by omega, by omega, by omega⟩ hfl.cw hfl.ck hfl.cp hfl.cm (by decide) hU hch
 refine wp_range_F (F := Fence.wide) (n := 9) rfl (by omega) (gf := 195) (lb := #[.pointer (some ⟨g + 3, 0, none⟩), .pointer (some ⟨g + 2, 0, none⟩), .pointer (some ⟨g + 1, 0, none⟩), .pointer (some ⟨g, 0, none⟩)]) rfl trivial (enters_of Tryz.func195 (by kernel_rfl) rfl) hseq
   (fun k hk => by subst hk; omega)
   (fun fp pre x => tellsF_own (L.map GO.it) _ fp pre x) (fun _ => rfl)
   (fun fq pre W => fq = (fun k => k = g0) /\ pre = [] /\ Blk W g0 27 #[.int .u64 0] /\ Below g0 w W)
   (fun c pre W => c = .ret /\ Blk W g0 27 #[.int .u64 pl] /\ Below g0 w W)
   (fun fq s A C row hs hg hr => ⟨hs.1, hs.2.1, own_blkOf (β := Unit) (B := w2.heap.size) (by omega) (fun _ => #[.int .u64 0]) () A C row hs.2.2.1 hg hr, hs.2.2.2.grown hg (by have := hs.2.2.2.size; omega) (fun k e => by have := (hr k e).1; omega)⟩)
   (fun c s A C row hs hg hr => ⟨hs.1, own_blkOf (β := Unit) (B := w2.heap.size) (by omega) (fun _ => #[.int .u64 pl]) () A C row hs.2.1 hg hr, hs.2.2.grown hg (by have := hs.2.2.size; omega) (fun k e => by have := (hr k e).1; omega)⟩)
   ⟨rfl, rfl, y0, hbw2⟩
   (fun x a' W' => a' = { tmps := #[.pointer (some ⟨p, 0, none⟩), .int .u64 sum, undef, undef, .pointer (some ⟨g0, 0, none⟩), .int .i64 x.t.j, .pointer (some ⟨p, 0, none⟩), .int .u64 sum, flV g, .int .i64 x.t.j, x.v 1, undef, undef], defers := [] })
   (fun x a' _ A C row hs hg hr => hs)
   ?assign ?body ?done ?stop
 case assign =>
   intro l2 x W3 K hW hK
   dsimp only [Ob.encs]
   gi_wp2
   exact hK _ _ (Below.refl _ _) rfl
 case body =>
   rintro l2 fp fq pre x W3 ⟨rfl, rfl, z0, hbW⟩ hok hsub hlen ⟨⟨⟨rest, hrest⟩, -⟩, -⟩ - a' rfl
   have k0 := z0.cell 0
   have f0 := z0.frozen 0
   cases L with
   | nil => simp at hrest
   | cons r L =>
     have hxr : x.t = r.it := by
       rw [List.map_nil, List.nil_append, List.map_cons] at hrest
       injection hrest
     have hxj : x.t.j = r.at_ := by rw [hxr]; rfl
     have hpe : pl = (x.t.j : Nat) := by rw [hxj]; exact hlk.1
     have hfit := hLf r (by simp)
     rw [<- hxj] at hfit
     have tw := wrap_u64_of (x := (x.t.j : Nat)) (by omega) (by omega)
     clear hrest hxr hxj
     gi_wp2
     have e1 : Chg (fun k => k = g0) W3 (W3.setCell ⟨g0, 0, none⟩ (.int .u64 x.t.j)) := chg_set1 (T := fun k => k = g0) (Chg.refl _ _) rfl _
     exact ⟨e1, rfl, by first | exact z0.set_ 0 _ | (rw [hpe]; exact z0.set_ 0 _), hbW.setCell (p := ⟨g0, 0, none⟩) (Nat.le_refl _) _⟩
 case done =>
   rintro D2 fq xs W3 hD hxs ⟨rfl, rfl, z0, hbW⟩ hK
   have k0 := z0.cell 0
   have f0 := z0.frozen 0
   have hLn : L = [] := by
     have := hxs
     simpa using this.symm
   subst hLn
   have hp0 : pl = 0 := hlk
   gi_wp2
   have hK' := (KeepsOthers.setCell W3 ⟨g0, 0, none⟩ (.int .u64 0)).same D2 _ hK rfl
   refine ⟨by simp, .inl ⟨_, _, rfl, run_takeDeferred hK', ?_⟩⟩
   refine ⟨_, results_cq rfl _ _ g0 (.int .u64 0) rfl (load_u64q (((z0.set_ 0 (.int .u64 0)).put_other hK' rfl).cell 0)), by first | rfl | rw [hp0], ?_⟩
   exact below_put1 (hbW.setCell (p := ⟨g0, 0, none⟩) (Nat.le_refl _) _) (by omega) _
 case stop =>
   rintro D2 cc pre W3 hD hp ⟨rfl, z0, hbW⟩ hK
   gi_wp2
   refine ⟨by simp, .inl ⟨_, _, rfl, run_takeDeferred hK, ?_⟩⟩
   exact ⟨_, results_cq rfl _ _ g0 (.int .u64 pl) rfl (load_u64q ((z0.put_other hK rfl).cell 0)), rfl, below_put1 hbW (by omega) _⟩
theorem DB.plcsBk (D : DB fld k d f 0 0 m.b l) {sum : Int} (hs : IsU sum) : plcs m 1 0 (m.word (tb d 1 + 8 * bktN d f 1 sum : Nat)) ((l.filter (pBk k d f 1 (bktN d f 1 sum) 0)).map (·.at_)) /\ IsU (m.word (tb d 1 + 8 * bktN d f 1 sum : Nat)) := by
 obtain ⟨g1, g2⟩ := bktN_eq D.hD D.hF (kd := 1) hs
 have hc := D.bks 1 (.inl rfl) _ g2
 have h0 := newK_low d f D.hD D.hF
 exact ⟨hc.plcs D.gb h0.2 (D.bk_w (.inl rfl)), hc.isU D.gb⟩
theorem DB.riseBk (D : DB fld k d f 0 0 m.b l) (pred : GO -> Bool) : ((l.filter pred).map (·.at_)).Pairwise (· < ·) := by
 rw [List.pairwise_map]
 refine pairwise_imp_mem (fun r hr q _ h => ?_) (D.gb.rise.filter _)
 have := (D.gb.fine r (List.mem_filter.1 hr).1).1.front
 omega
set_option maxHeartbeats 4000000 in
theorem isD_yes (a : Nat) (w : World) (D : DB fld k d f 0 0 m.b l) (H : IX w base S p i k d f h m bv sv) (hbm : AreB m.b) (hk : IsU k) {o : GO} (ho : o ∈ l) (hok : o.k = 1) (hoa : o.at_ = a) :
 Calls Tryz.prog 126 #[.pointer (some ⟨p, 0, none⟩), .int .i64 a] w fun e w' => e = .returned (.bool true) /\ Below w.heap.size w w' := by
 have hmost := D.gb.most
 have hof := D.gb.fine o ho
 have hfr := hof.1.front
 have hU := hsh_isU k o.raw
 obtain ⟨sum, hsum⟩ : ∃ sum, hsh k o.raw = sum := ⟨_, rfl⟩
 have hw0 : o.ws.getD 0 0 = sum := by rw [<- hsum]; exact D.sum o ho (.inl hok)
 have hw5 := hof.1.kk.2.1 hok
 obtain ⟨hch, hpU⟩ := D.plcsBk (sum := sum) (by rw [<- hsum]; exact hU)
 have hrise := D.riseBk (pBk k d f 1 (bktN d f 1 sum) 0)
 have hmem : a ∈ (l.filter (pBk k d f 1 (bktN d f 1 sum) 0)).map (·.at_) := by
   refine List.mem_map.2 ⟨o, List.mem_filter.2 ⟨ho, pBk_iff.2 ⟨⟨hok, ?_⟩, by have := D.at_pos ho; omega⟩⟩, hoa⟩
   rw [hsum]
   exact (bktN_eq D.hD D.hF (kd := 1) (by rw [<- hsum]; exact hU)).1
 have hUs : IsU sum := by rw [<- hsum]; exact hU
 obtain ⟨js, hjs⟩ : ∃ js, (l.filter (pBk k d f 1 (bktN d f 1 sum) 0)).map (·.at_) = js := ⟨_, rfl⟩
 rw [hjs] at hch hrise hmem
 obtain ⟨s, hth, e1, e2, e3⟩ := D.obAt ho
 have hth' : m.there d f a o.k s := by rw [<- hoa]; exact hth
 obtain ⟨w0, hw0'⟩ : ∃ w0, (w.alloc (.cells #[.int .i64 a] 3)).alloc (.cells #[.bool false] 4) = w0 := ⟨_, rfl⟩
 have hb0 : Below w.heap.size w w0 := by rw [<- hw0']; exact (boxed _ _).alloc (boxed _ _).size _
 have hsz : w0.heap.size = w.heap.size + 1 + 1 := by rw [<- hw0']; simp
 have x0 : Blk w0 w.heap.size 3 #[.int .i64 a] := by rw [<- hw0']; exact (Blk.new w _ _).alloc _
 have x1 : Blk w0 (w.heap.size + 1) 4 #[.bool false] := by rw [<- hw0']; have := (Blk.new (w.alloc (.cells #[.int .i64 a] 3)) 4 #[.bool false]); rw [World.size_alloc] at this; exact this
 have c0 := x0.cell 0
 have AT := iat_yes a o.k s w0 (H.below hb0) hbm hmost D.hD D.hF hth'
 rw [hok] at AT e1
 have AT2 : Hid (Calls Tryz.prog 109 #[.pointer (some ⟨p, 0, none⟩), .int .u64 (a : Nat), .int .i64 1] w0 fun e w2 => ∃ A1 n1 c1 A2 n2 c2 A3 n3 c3, e = .returned (.tuple #[.agg #[.int .i64 1, .slice A1 n1 c1, .slice A2 n2 c2, .slice A3 n3 c3], .bool true]) /\ Below w0.heap.size w0 w2 /\ 0 < n1 /\ ∃ gb off, A1 = some ⟨gb, off, none⟩ /\ gb < w2.heap.size /\ w2.cell? ⟨gb, off, none⟩ = some (.int .u64 sum)) := Lib.hid (by
   refine AT.mono ?_
   rintro e w2 ⟨A1, n1, c1', A2, n2, c2', A3, n3, c3', rfl, hb2, hown⟩
   have hrd := hown.reads.wr
   have e1' : dW (objB m.b a s) ((1 : Nat) : Int) = o.ws := by rw [<- hoa]; exact e1
   rw [e1'] at hrd
   have hn1 : n1 = o.ws.length := hrd.len.symm
   obtain ⟨gb, off, rfl, hgb, hgc⟩ := hrd.at2 (by omega) (by omega)
   have h9 := hgc 0 _ (cellsOf_get (by omega))
   rw [hw0] at h9
   exact ⟨_, n1, c1', A2, n2, c2', A3, n3, c3', rfl, hb2, by omega, gb, off, rfl, hgb, h9⟩)
 have tw := wrap_u64_of (x := (a : Nat)) (by omega) (by omega)
 have BK := Lib.hid (fun wx (hx : Below w0.heap.size w0 wx) => bucketD_any sum wx D (H.below (hb0.trans (hx.mono hb0.size))) hbm hUs)
 obtain ⟨pl, hpl⟩ : ∃ pl, m.word (tb d 1 + 8 * bktN d f 1 sum : Nat) = pl := ⟨_, rfl⟩
 rw [hpl] at BK hch hpU
 have PP := Lib.hid (fun wx => places_any p pl 1 wx)
 have HX := Lib.hid (And.intro x0 (And.intro x1 (And.intro hb0 hsz)))
 have hft := H.foot
 clear x0 x1 hb0 hsz AT hpl hjs hsum
 refine (callsIn_wide (n := 9)).1 ?_
 refine callsIn_of_wp_marks Tryz.func126 rfl trivial ?_ rfl
 simp only [Tryz.ntmps126, List.size_toArray, List.length_cons, List.length_nil, Nat.reduceAdd, Nat.reduceSub, Array.replicate_succ, Array.replicate_zero, List.push_toArray, List.append_toArray, List.nil_append, List.cons_append]
 gi_wp2_with (first
   | (refine ⟨trivial, ?_⟩; gi_at_call 109; refine (callsIn_wide.2 AT2.out).mono ?_; rintro e w2 ⟨A1, n1, c1, A2, n2, c2, A3, n3, c3, rfl, hb2, hn1, gb, off, rfl, hgb, hgc⟩; have z1 := (Blk.new w2 128 #[.int .i64 1, .slice (some ⟨gb, off, none⟩) n1 c1, .slice A2 n2 c2, .slice A3 n3 c3]).cell 1; have hbz := boxed w2 (.cells #[.int .i64 1, .slice (some ⟨gb, off, none⟩) n1 c1, .slice A2 n2 c2, .slice A3 n3 c3] 128); have hgz := (hbz.cell (p := ⟨gb, off, none⟩) hgb).trans hgc; have hb3 := hb2.trans (hbz.mono hb2.size))
   | (refine ⟨trivial, ?_⟩; gi_at_call 175; refine (callsIn_wide.2 (BK.out _ hb3)).mono ?_; rintro e w4 ⟨rfl, hb4⟩; have hb5 := hb3.trans (hb4.mono hb3.size))
   | (refine ⟨trivial, ?_⟩; gi_at_call 174; refine (callsIn_wide.2 (PP.out _)).mono ?_; rintro e w6 ⟨rfl, hb6, hfl⟩))
 obtain ⟨x0, x1, hb0, hsz⟩ := HX.out
 have hs6 := hb6.size
 have hs5 := hb5.size
 have hs2 := hb2.size
 have hlo := hfl.lo
 have hb7 : Below w0.heap.size w0 w6 := hb5.trans (hb6.mono hb5.size)
 have hbw6 : Below w.heap.size w w6 := hb0.trans (hb7.mono hb0.size)
 have H6 := H.below hbw6
 obtain ⟨g0, hg0⟩ : ∃ g0, w.heap.size = g0 := ⟨_, rfl⟩
 have y0 := x0.below hb7 (by omega)
 have y1 := x1.below hb7 (by omega)
 rw [hg0] at y0 y1 hbw6 hft hsz ⊢
 obtain ⟨g2, hg2⟩ : ∃ g2, w2.heap.size = g2 := ⟨_, rfl⟩
 obtain ⟨g4, hg4⟩ : ∃ g4, w4.heap.size = g4 := ⟨_, rfl⟩
 have hs4 : w0.heap.size <= g4 := by omega
 rw [hg4] at hfl hlo hs6 ⊢
 rw [hg2]
 have hsz1 : g0 + 2 <= w0.heap.size := by omega
 have hseq := places_F 8 (by omega) (fun k => k = g0 + 1) g4 1 pl js w6 H6 hbm hmost (fun j hj => ⟨(H6.foot j hj).2, fun e => by have := (hft j hj).2; omega⟩) hfl ⟨fun e => by omega, fun e => by omega, fun e => by omega⟩ (by omega) hpU hch
 clear hsz HX x0 x1 BK PP AT2 c0 z1 hgz hgc hb3
 refine wp_range_F (F := Fence.wide) (n := 9) rfl (by omega) (gf := 199) (lb := plB g4) rfl trivial (enters_of Tryz.func199 (by kernel_rfl) rfl) hseq
   (fun k hk => by subst hk; omega)
   (fun fp pre x => tellsN_own js _ fp pre x) (fun _ => rfl)
   (fun fq pre W => fq = (fun k => k = g0 + 1) /\ (∀ y ∈ pre, y < a) /\ Blk W (g0 + 1) 4 #[.bool false] /\ Blk W g0 3 #[.int .i64 a] /\ Below g0 w W)
   (fun c pre W => c = .ret /\ Blk W (g0 + 1) 4 #[.bool true] /\ Below g0 w W)
   (fun fq s A C row hs hg hr => ⟨hs.1, hs.2.1, own_blkOf (β := Unit) (B := w6.heap.size) (by omega) (fun _ => #[.bool false]) () A C row hs.2.2.1 hg hr, own_blkOf (β := Unit) (B := w6.heap.size) (by omega) (fun _ => #[.int .i64 a]) () A C row hs.2.2.2.1 hg hr, hs.2.2.2.2.grown hg (by have := hs.2.2.2.2.size; omega) (fun k e => by have := (hr k e).1; omega)⟩)
   (fun c s A C row hs hg hr => ⟨hs.1, own_blkOf (β := Unit) (B := w6.heap.size) (by omega) (fun _ => #[.bool true]) () A C row hs.2.1 hg hr, hs.2.2.grown hg (by have := hs.2.2.size; omega) (fun k e => by have := (hr k e).1; omega)⟩)
   ⟨rfl, by simp, y1, y0, hbw6⟩
   (fun x a' W' => a' = { tmps := #[.pointer (some ⟨p, 0, none⟩), .int .i64 a, undef, .pointer (some ⟨g0, 0, none⟩), .pointer (some ⟨g0 + 1, 0, none⟩), .pointer (some ⟨g2, 0, none⟩), .bool true, .int .i64 x, .tuple #[.agg #[.int .i64 1, .slice (some ⟨gb, off, none⟩) n1 c1, .slice A2 n2 c2, .slice A3 n3 c3], .bool true], .pointer (some ⟨p, 0, none⟩), .int .i64 a, .int .u64 a, .tuple #[.agg #[.int .i64 1, .slice (some ⟨gb, off, none⟩) n1 c1, .slice A2 n2 c2, .slice A3 n3 c3], .bool true], .agg #[.int .i64 1, .slice (some ⟨gb, off, none⟩) n1 c1, .slice A2 n2 c2, .slice A3 n3 c3], .bool true, .bool true, .bool false, .pointer (some ⟨p, 0, none⟩), .pointer (some ⟨p, 0, none⟩), .pointer (some ⟨g2, 1, none⟩), .slice (some ⟨gb, off, none⟩) n1 c1, .pointer (some ⟨gb, off, none⟩), .int .u64 sum, .int .u64 pl, plV g4, .int .i64 x, undef, undef, undef, undef, undef, undef], defers := [] })
   (fun x a' _ A C row hs hg hr => hs)
   ?assign ?body ?done ?stop
 case assign =>
   intro l2 x W3 K hW hK
   dsimp only [natE]
   gi_wp2
   exact hK _ _ (Below.refl _ _) rfl
 case body =>
   rintro l2 fp fq pre x W3 ⟨rfl, hlt, z1, z0, hbW⟩ hok hsub hlen ⟨rest, hrest⟩ - a' rfl
   have k0 := z0.cell 0
   have k1 := z1.cell 0
   have f1 := z1.frozen 0
   by_cases hge : a <= x
   · have hxa : x = a := by
       rw [<- hrest] at hmem hrise
       rcases List.mem_append.1 hmem with h9 | h9
       · have := hlt a h9; omega
       · rcases List.mem_cons.1 h9 with h9 | h9
         · exact h9.symm
         · have := (List.pairwise_cons.1 (List.pairwise_append.1 hrise).2.1).1 a h9
           omega
     have HZ := Lib.hid z1
     clear hge hrest hlt hmem z1
     subst hxa
     gi_wp2
     have e1 : Chg (fun k => k = g0 + 1) W3 (W3.setCell ⟨g0 + 1, 0, none⟩ (.bool true)) := chg_set1 (T := fun k => k = g0 + 1) (Chg.refl _ _) rfl _
     exact ⟨e1, rfl, HZ.out.set_ 0 _, hbW.setCell (p := ⟨g0 + 1, 0, none⟩) (by show g0 <= g0 + 1; omega) _⟩
   · have hge0 : ¬ (a : Int) <= (x : Int) := by omega
     have HI := Lib.hid (show ∀ y ∈ pre ++ [x], y < a from fun y hy => by
       rcases List.mem_append.1 hy with h9 | h9
       · exact hlt y h9
       · rw [List.mem_singleton.1 h9]; omega)
     have HZ := Lib.hid (And.intro z1 z0)
     clear hge hrest hlt hmem z1 z0
     gi_wp2
     exact ⟨fun k => k = g0 + 1, ⟨rfl, HI.out, HZ.out.1, HZ.out.2, hbW⟩, GrowF.refl hok⟩
 case done =>
   rintro D2 fq xs W3 hD hxs ⟨rfl, hlt, -⟩ hK
   have hxe : xs = js := hxs
   exact absurd (hlt a (by rw [hxe]; exact hmem)) (by omega)
 case stop =>
   rintro D2 cc pre W3 hD hp ⟨rfl, z1, hbW⟩ hK
   gi_wp2
   refine ⟨by simp, .inl ⟨_, _, rfl, run_takeDeferred hK, ?_⟩⟩
   exact ⟨_, results_cq rfl _ _ (g0 + 1) (.bool true) rfl (load_bool ((z1.put_other hK rfl).cell 0)), rfl, by rw [hg0]; exact below_put1 hbW (by omega) _⟩
end
theorem rootD_any (q : Nat) (w : World) (hq : q <= 1099511627776) :
 Calls Tryz.prog 74 #[.int .i64 q] w fun e w' => e = .returned (.int .i64 (q + 48 : Nat)) /\ w = w' := by
 have OA := Lib.hid (fun wx => oat_any 4 wx (by omega) (by omega))
 obtain ⟨r, hr⟩ : ∃ r, q + 48 = r := ⟨_, rfl⟩
 have hw0 : (q : Int) + 48 = (r : Int) := by omega
 have hw1 : IntKind.i64.wrap (r : Int) = (r : Int) := by rw [IntKind.wrap_i64]; omega
 rw [hr]
 clear hr
 go_enter Tryz.func74, Tryz.ntmps74
 go_wp2_with (go_at_call 128; refine (OA.out _).mono ?_; rintro e w1 ⟨rfl, rfl⟩)
 go_ret
 exact ⟨rfl, rfl⟩
structure IsDat (p : Nat) (a : Nat) (x : Int) (w : World) : Prop where
 small : a <= 1099511627776
 is : ∀ wx, Below w.heap.size w wx -> Calls Tryz.prog 126 #[.pointer (some ⟨p, 0, none⟩), .int .i64 a] wx fun e w' => e = .returned (.bool true) /\ Below wx.heap.size wx w'
 word : ∀ wx, Below w.heap.size w wx -> Calls Tryz.prog 127 #[.pointer (some ⟨p, 0, none⟩), .int .i64 (a + 40 : Nat)] wx fun e w' => e = .returned (.int .u64 x) /\ wx = w'
theorem firstD_yes (p a : Nat) (x : Int) (w : World) (h : IsDat p a x w) :
 Calls Tryz.prog 72 #[.pointer (some ⟨p, 0, none⟩), .int .i64 a] w fun e w' => e = .returned (.int .u64 x) /\ Below w.heap.size w w' := by
 have hs := h.small
 have IS := Lib.hid (h.is w (Below.refl _ _))
 have WW := Lib.hid h.word
 have OA := Lib.hid (fun wx => oat_any 3 wx (by omega) (by omega))
 obtain ⟨r, hr⟩ : ∃ r, a + 40 = r := ⟨_, rfl⟩
 have hw0 : (a : Int) + 40 = (r : Int) := by omega
 have hw1 : IntKind.i64.wrap (r : Int) = (r : Int) := by rw [IntKind.wrap_i64]; omega
 rw [hr] at WW
 clear h hr
 go_enter Tryz.func72, Tryz.ntmps72
 go_wp2_with (first
   | (go_at_call 126; refine IS.out.mono ?_; rintro e w1 ⟨rfl, hb1⟩)
   | (go_at_call 128; refine (OA.out _).mono ?_; rintro e w2 ⟨rfl, rfl⟩)
   | (go_at_call 127; refine (WW.out _ hb1).mono ?_; rintro e w2 ⟨rfl, rfl⟩))
 go_ret
 exact ⟨rfl, hb1⟩
def entsL (x : Int) (Ld : List Int) : List Int := if x = 0 then [] else x :: Ld
section
variable {base p : Nat} {S : Nat -> Prop} {a : Nat} {x : Int} {its : List It} {Ld : List Int}
end
section
variable {base p : Nat} {S : Nat -> Prop} {a : Nat} {x : Int} {its : List It} {Ld : List Int}
theorem referD_first {Q : World -> World -> Prop} (x : Int) (w : World) (h : IsDat p a 0 w) (hx : ¬ x = 0)
 (hS : ∀ wx, Below w.heap.size w wx -> Calls Tryz.prog 141 #[.pointer (some ⟨p, 0, none⟩), .int .i64 (a + 40 : Nat), .int .u64 x] wx fun e w' => e = .returned (.int .i64 0) /\ Q wx w') :
 Calls Tryz.prog 93 #[.pointer (some ⟨p, 0, none⟩), .int .i64 a, .int .u64 x] w fun e w' => e = .returned (.int .i64 0) /\ ∃ wx, Below w.heap.size w wx /\ Q wx w' := by
 have hs := h.small
 have IS := Lib.hid (h.is w (Below.refl _ _))
 have WW := Lib.hid h.word
 have SE := Lib.hid hS
 have OA := Lib.hid (fun wx => oat_any 3 wx (by omega) (by omega))
 have hx0 : (x == 0) = false := by simpa using hx
 obtain ⟨r, hr⟩ : ∃ r, a + 40 = r := ⟨_, rfl⟩
 have hw0 : (a : Int) + 40 = (r : Int) := by omega
 have hw1 : IntKind.i64.wrap (r : Int) = (r : Int) := by rw [IntKind.wrap_i64]; omega
 rw [hr] at WW SE
 clear h hr hS
 go_enter Tryz.func93, Tryz.ntmps93
 go_wp2_with (first
   | (go_at_call 126; refine IS.out.mono ?_; rintro e w1 ⟨rfl, hb1⟩)
   | (go_at_call 128; refine (OA.out _).mono ?_; rintro e w2 ⟨rfl, rfl⟩)
   | (go_at_call 127; refine (WW.out _ hb1).mono ?_; rintro e w2 ⟨rfl, rfl⟩)
   | (go_at_call 141; refine (SE.out _ hb1).mono ?_; rintro e w3 ⟨rfl, hq⟩))
 go_ret
 exact ⟨rfl, _, hb1, hq⟩
end
attribute [local go_sem] Oper.semAt_some
structure EnAt (w : World) (g p : Nat) (at_ : Int) : Prop where
 lo : g + 2 <= w.heap.size
 cm : w.cell? ⟨g, 0, none⟩ = some (.pointer (some ⟨p, 0, none⟩))
 ca : w.cell? ⟨g + 1, 0, none⟩ = some (.int .i64 at_)
section
variable {base p : Nat} {S : Nat -> Prop} {i k d f h : Int} {m : IM} {bv sv : Value}
end
attribute [local go_sem] Oper.semAt_some
section
variable {base p : Nat} {S : Nat -> Prop} {a : Nat} {x : Int} {its : List It} {Ld : List Int}
end
section
variable {w : World} {base : Nat} {S : Nat -> Prop} {p lim : Nat} {hI hM k d f : Int} {R : List DR} {tl cnt : Nat}
theorem DS.dat (h : DS fldI hI hM k d f w base S p lim R tl cnt) {j : Nat} {r : DR} (hr : R[j]? = some r) (hln : r.L.length <= 1000000) :
 ∃ x its Ld, IsDat p r.at_ x w /\ ListAt w base p S ((r.at_ + 48 : Nat) : Int) its Ld /\ r.L = entsL x Ld := by
 obtain ⟨⟨m, bv, sv, l, H, D, hR, hbm, hlm, htl, hcnt, hwas⟩, hsm, hk⟩ := h
 obtain ⟨o, -, ho, hok, horaw, hoat, Ld, hLI, hE⟩ := hR.obj hr
 have hmost := D.gb.most
 have hof := D.gb.fine o ho
 have hfr := hof.1.front
 have hw5 := hof.1.kk.2.1 hok
 have hrt : ArRoot l (o.at_ + 48) := .inr ⟨o, ho, hok, rfl⟩
 have hLE : r.L = entsL (o.ws.getD 3 0) Ld := by
   unfold entsL
   rcases hE with ⟨e1, e2, e3⟩ | ⟨e1, e2⟩
   · rw [if_pos e1]; exact e3
   · rw [if_neg e1]; exact e2
 have hLl : Ld.length <= 1000000 := by
   rcases hE with ⟨e1, e2, e3⟩ | ⟨e1, e2⟩
   · rw [e2]; simp
   · rw [e2, List.length_cons] at hln; omega
 have hLA := D.listAt H hbm hrt hLI (by omega)
 rw [hoat] at hLA
 refine ⟨o.ws.getD 3 0, _, Ld, ⟨by omega, fun wx hx => isD_yes r.at_ wx D (H.below hx) hbm hk ho hok hoat, fun wx hx => ?_⟩, hLA, hLE⟩
 have h9 := iword_any ((r.at_ + 40 : Nat) : Int) wx (H.below hx) hbm (by omega) (by omega)
 have e9 : m.word ((r.at_ + 40 : Nat) : Int) = o.ws.getD 3 0 := by
   rw [<- hoat]
   exact D.gb.word (i := 3) ho (by omega)
 rw [e9] at h9
 exact h9
end
end Go.Proofs.YtgcmbgniaffdlaaGreat
