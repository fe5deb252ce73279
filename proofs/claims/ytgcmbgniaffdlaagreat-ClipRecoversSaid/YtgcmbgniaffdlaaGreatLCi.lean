import Derived.Test.YtgcmbgniaffdlaaGreatLCh
set_option linter.unusedVariables false
set_option maxRecDepth 100000
set_option linter.unusedSimpArgs false
namespace Go.Proofs.YtgcmbgniaffdlaaGreat
open Go.RowKit Go.Shelf
attribute [local go_sem] Oper.semAt_some
structure ListAt (w : World) (base p : Nat) (S : Nat -> Prop) (root : Int) (its : List It) (L : List Int) : Prop where
 ex : ∃ i k d f h m bv sv, IX w base S p i k d f h m bv sv /\ AreB m.b /\ m.b.length <= 1099511627776 /\ (1 <= d /\ d <= 256) /\ (1 <= f /\ f <= 256) /\ IsU (m.word root) /\ chainAt m d f 4 0 0 (m.word root) its
 lo : -9223372036854775808 <= root
 hi : root <= 9223372036854775807
 its_ : ∀ t ∈ its, t.is.length <= 140737488355328
 eq : L = placesA (its.map (·.is)).flatten
 most : L.length <= 1000000000 /\ its.length <= 1000000000
theorem ListAt.keep {w w' : World} {base p : Nat} {S T : Nat -> Prop} {root : Int} {its : List It} {L : List Int} (h : ListAt w base p S root its L) (hc : Chg T w w') (hT : ∀ j, S j -> ¬ T j) : ListAt w' base p S root its L := by
 obtain ⟨⟨i, k, d, f, h', m, bv, sv, H, r⟩, r2, r3, r4, r5, r6⟩ := h
 exact ⟨⟨i, k, d, f, h', m, bv, sv, H.keep hc hT, r⟩, r2, r3, r4, r5, r6⟩
theorem ListAt.below {w w' : World} {base p : Nat} {S : Nat -> Prop} {root : Int} {its : List It} {L : List Int} (h : ListAt w base p S root its L) (hb : Below w.heap.size w w') : ListAt w' base p S root its L := h.keep (Chg.of_below hb (Nat.le_refl _) (fun _ => False)) (fun _ _ e => e)
theorem ListAt.foot {w : World} {base p : Nat} {S : Nat -> Prop} {root : Int} {its : List It} {L : List Int} (h : ListAt w base p S root its L) : ∀ j, S j -> base <= j /\ j < w.heap.size := by
 obtain ⟨⟨i, k, d, f, h', m, bv, sv, H, r⟩, -⟩ := h
 exact H.foot
theorem ListAt.rows {w : World} {base p : Nat} {S : Nat -> Prop} {root : Int} {its : List It} {L : List Int} (h : ListAt w base p S root its L) (n : Nat) (hn : 2 <= n) (fp₀ : Nat -> Prop) (g : Nat) (hS : ∀ j, S j -> j < w.heap.size /\ ¬ fp₀ j) (hB : RwAt w g p root) (hT : ¬ fp₀ g /\ ¬ fp₀ (g + 1)) :
 ∃ rs : List (List Int), rs.flatten = L /\ rs.length <= its.length /\ SeqF Fence.wide n Tryz.prog 151 (rwB g) Rw.encs (TellsR rs) fp₀ (fun xs => xs.map (·.zs) = rs) (fun pre => ∃ rest, pre.map (·.zs) ++ rest = rs) rs.length w := by
 obtain ⟨⟨i, k, d, f, h', m, bv, sv, H, hb, hl, hd, hf, hU, hch⟩, r2, r3, r4, r5, r6⟩ := h
 refine ⟨rowsL (its.map (·.is)), by rw [rowsL_flatten, r5], by have := rowsL_length_le (its.map (·.is)); rwa [List.length_map] at this, ?_⟩
 exact rows_F n hn fp₀ g root its w H hb hl hd hf hS hB hT r2 r3 r4 hU hch
theorem flatR_le {pre : List Rw} {zs : List Int} {rest : List (List Int)} {rs : List (List Int)} (h : pre.map (·.zs) ++ zs :: rest = rs) : (flatR pre).length + zs.length <= rs.flatten.length /\ rs.flatten = flatR pre ++ (zs ++ rest.flatten) := by
 have e : rs.flatten = flatR pre ++ (zs ++ rest.flatten) := by rw [<- h]; simp [flatR]
 refine ⟨?_, e⟩
 rw [e, List.length_append, List.length_append]; omega
theorem flatR_all {xs : List Rw} {rs : List (List Int)} (h : xs.map (·.zs) = rs) : flatR xs = rs.flatten := by rw [<- h]; rfl
section
variable {base p : Nat} {S : Nat -> Prop} {root : Int} {its : List It} {L : List Int}
set_option maxHeartbeats 4000000 in
theorem clen_any (w : World) (h : ListAt w base p S root its L) :
 Calls Tryz.prog 73 #[.pointer (some ⟨p, 0, none⟩), .int .i64 root] w fun e w' => e = .returned (.int .i64 (L.length : Nat)) /\ Below w.heap.size w w' := by
 have RW := Lib.hid (fun w1 => crows_any p root w1)
 refine (callsIn_wide (n := 9)).1 ?_
 refine callsIn_of_wp_marks Tryz.func73 rfl trivial ?_ rfl
 simp only [Tryz.ntmps73, List.size_toArray, List.length_cons, List.length_nil, Nat.reduceAdd, Nat.reduceSub, Array.replicate_succ, Array.replicate_zero, List.push_toArray, List.append_toArray, List.nil_append, List.cons_append]
 gi_wp2_with (refine ⟨trivial, ?_⟩; gi_at_call 108; refine (callsIn_wide.2 (RW.out _)).mono ?_; rintro e w2 ⟨rfl, hb2, hfl⟩)
 have hb0 : Below w.heap.size w (w.alloc (.cells #[.int .i64 0] 3)) := boxed _ _
 have hsz : (w.alloc (.cells #[.int .i64 0] 3)).heap.size = w.heap.size + 1 := World.size_alloc _ _
 have x0 := Blk.new w 3 #[.int .i64 0]
 obtain ⟨gr, hgr⟩ : ∃ gr, w.heap.size + 1 = gr := ⟨_, rfl⟩
 rw [hsz, hgr] at hfl
 generalize w.alloc (.cells #[.int .i64 0] 3) = w0 at *
 have hs2 := hb2.size
 have hlo := hfl.lo
 have hbw2 : Below w.heap.size w w2 := hb0.trans (hb2.mono hb0.size)
 have h2 := h.below hbw2
 have y0 := x0.below hb2 (by omega)
 obtain ⟨rs, hfl2, hrl, hseq⟩ := h2.rows 8 (by omega) (fun k => k = w.heap.size) gr (fun j hj => ⟨(h2.foot j hj).2, fun e => by have := (h.foot j hj).2; omega⟩) hfl ⟨fun e => by omega, fun e => by omega⟩
 subst hgr
 refine wp_range_F (F := Fence.wide) (n := 9) rfl (by omega) (gf := 151) (lb := rwB (w.heap.size + 1)) rfl trivial (enters_of Tryz.func151 (by kernel_rfl) rfl) hseq
     (fun k hk => by subst hk; omega)
     (fun fp pre x => tellsR_own rs _ fp pre x) (fun _ => rfl)
     (fun fq pre W => fq = (fun k => k = w.heap.size) /\ Blk W w.heap.size 3 #[.int .i64 ((flatR pre).length : Nat)] /\ Below w.heap.size w W)
     (fun c pre W => False)
     (fun fq s A C row hs hg hr => ⟨hs.1, own_blkOf (β := Unit) (B := w2.heap.size) (by omega) (fun _ => #[.int .i64 ((flatR s).length : Nat)]) () A C row hs.2.1 hg hr, hs.2.2.grown hg (by have := hs.2.2.size; omega) (fun k e => by have := (hr k e).1; omega)⟩)
     (fun c => own_never)
     ⟨rfl, y0, hbw2⟩
     (fun x a' W' => a' = { tmps := #[.pointer (some ⟨p, 0, none⟩), .int .i64 root, undef, undef, .int .i64 0, .pointer (some ⟨w.heap.size, 0, none⟩), x.v, .pointer (some ⟨p, 0, none⟩), .int .i64 root, rwV (w.heap.size + 1), x.v, undef, undef, undef, undef, undef], defers := [] })
     (fun x a' _ A C row hs hg hr => hs)
     ?assign ?body ?done ?stop
 case assign =>
   intro l2 x W3 K hW hK
   dsimp only [Rw.encs]
   gi_wp2
   exact hK _ _ (Below.refl _ _) rfl
 case body =>
   rintro l2 fp fq pre x W3 ⟨rfl, yb3, hbW⟩ hok hsub hlen ⟨⟨rest, hrest⟩, hlies, hfree⟩ - a' rfl
   have y3 := yb3.cell 0
   have f3 := yb3.frozen 0
   have hxl := hlies.rd.len
   have hm := (flatR_le hrest).1
   have hmost := h.most
   rw [hfl2] at hm
   obtain ⟨q, hq⟩ : ∃ q, (flatR pre).length = q := ⟨_, rfl⟩
   rw [hq] at y3 hm
   have hqn : ((q : Int) + (x.n : Int)) = ((flatR (pre ++ [x])).length : Nat) := by rw [flatR_snoc, List.length_append, hq, hxl]; simp
   have HQ := Lib.hid hqn
   have hb1 : q + x.n <= 1000000000 := by omega
   have hw1 : IntKind.i64.wrap ((q : Int) + (x.n : Int)) = (q : Int) + (x.n : Int) := wrap_i64_of (by omega) (by omega)
   clear hqn hm hmost hq
   dsimp only [Rw.v]
   gi_wp2
   have hbk := yb3.set_ 0 (.int .i64 ((q : Int) + (x.n : Int)))
   refine ⟨fun k => k = w.heap.size, ⟨rfl, ?_, ?_⟩, ⟨?_, ?_⟩⟩
   · rw [<- HQ.out]; exact hbk
   · exact hbW.setCell (Nat.le_refl _) _
   · exact chg_set1 (T := fun k => k = w.heap.size) (Chg.refl _ _) rfl _
   · intro k hk; subst hk; exact ⟨.inl rfl, by have := yb3.lt; rw [size_set]; omega⟩
 case done =>
   rintro D fq xs W3 hD hxs ⟨rfl, yb3, hbW⟩ hK
   have y3 := yb3.cell 0
   rw [flatR_all hxs, hfl2] at y3
   gi_wp2
   refine ⟨by simp, .inl ⟨_, _, rfl, run_takeDeferred hK, ?_⟩⟩
   refine ⟨_, results_tmp rfl _ _ _, rfl, below_put1 hbW (by omega) _⟩
 case stop =>
   rintro D cc pre W3 hD hp hf hK
   exact hf.elim
def three (g : Nat) : Nat -> Prop := fun k => k = g ∨ k = g + 1 ∨ k = g + 1 + 1
end
attribute [local go_sem] Oper.semAt_some
section
variable {base p : Nat} {S : Nat -> Prop} {root : Int} {its : List It} {L : List Int}
end
attribute [local go_sem] Oper.semAt_some
theorem arrays_at {w : World} {base p : Nat} {S : Nat -> Prop} {root : Int} {its : List It} {L : List Int} (h : ListAt w base p S root its L) (n : Nat) (hn : 1 <= n) (fp₀ : Nat -> Prop) (hS : ∀ j, S j -> ¬ fp₀ j) (hfp : ∀ j, fp₀ j -> j < w.heap.size) :
 Calls Tryz.prog 142 #[.pointer (some ⟨p, 0, none⟩), .int .i64 root] w fun e w' => e = .returned (flV w.heap.size) /\ Below w.heap.size w w' /\
 SeqF Fence.wide n Tryz.prog 195 #[.pointer (some ⟨w.heap.size + 3, 0, none⟩), .pointer (some ⟨w.heap.size + 2, 0, none⟩), .pointer (some ⟨w.heap.size + 1, 0, none⟩), .pointer (some ⟨w.heap.size, 0, none⟩)] (Ob.encs 4) (TellsF its) fp₀ (fun xs => xs.map (·.t) = its) (fun pre => ∃ rest, pre.map (·.t) ++ rest = its) its.length w' := by
 obtain ⟨⟨i, k, d, f, h', m, bv, sv, H, hb, hl, hd, hf, hU, hch⟩, r2, r3, r4, r5, r6⟩ := h
 refine (carrays_any root w H hb r2 r3).mono ?_
 rintro e w' ⟨rfl, hbl, hfl⟩
 have hs := hbl.size
 have hlo := hfl.lo
 refine ⟨rfl, hbl, ?_⟩
 have hnf : ∀ j, w.heap.size <= j -> ¬ fp₀ j := fun j hj e => by have := hfp j e; omega
 exact follow_F n hn fp₀ (w.heap.size + 3) (w.heap.size + 2) (w.heap.size + 1) w.heap.size 4 0 (m.word root) its w' (H.below hbl) hb hl hd hf (fun j hj => ⟨by have := (H.foot j hj).2; omega, hS j hj⟩) (by omega) ⟨hnf _ (by omega), hnf _ (by omega), hnf _ (by omega), hnf _ (by omega)⟩ hfl.cw hfl.ck hfl.cp hfl.cm (by decide) hU hch
theorem all_at {w : World} {base p : Nat} {S : Nat -> Prop} {root : Int} {its : List It} {L : List Int} (h : ListAt w base p S root its L) (n : Nat) (hn : 3 <= n) (fp₀ : Nat -> Prop) (hS : ∀ j, S j -> ¬ fp₀ j) (hfp : ∀ j, fp₀ j -> j < w.heap.size) :
 Calls Tryz.prog 56 #[.pointer (some ⟨p, 0, none⟩), .int .i64 root] w fun e w' => e = .returned (alV w.heap.size) /\ Below w.heap.size w w' /\
 SeqF Fence.wide n Tryz.prog 107 (rwB w.heap.size) placeE (TellsP L) fp₀ (IsL L) (PreL L) L.length w' := by
 obtain ⟨⟨i, k, d, f, h', m, bv, sv, H, hb, hl, hd, hf, hU, hch⟩, r2, r3, r4, r5, r6⟩ := h
 refine (call_any p root w).mono ?_
 rintro e w' ⟨rfl, hbl, hfl⟩
 have hs := hbl.size
 have hlo := hfl.lo
 refine ⟨rfl, hbl, ?_⟩
 have hnf : ∀ j, w.heap.size <= j -> ¬ fp₀ j := fun j hj e => by have := hfp j e; omega
 exact all_F n hn fp₀ w.heap.size root its w' (H.below hbl) hb hl hd hf (fun j hj => ⟨by have := (H.foot j hj).2; omega, hS j hj⟩) hfl ⟨hnf _ (by omega), hnf _ (by omega)⟩ r2 r3 r4 hU hch L r5
section
variable {base p : Nat} {S : Nat -> Prop} {root : Int} {its : List It} {L : List Int}
end
section
variable {base p : Nat} {S : Nat -> Prop} {i k d f h : Int} {m : IM} {bv sv : Value}
set_option maxHeartbeats 2000000 in
theorem isfree_any (q : Nat) (w : World) (H : IX w base S p i k d f h m bv sv) (hb : AreB m.b) (hd : 1 <= d /\ d <= 256) (hf : 1 <= f /\ f <= 256) (hl : m.b.length <= 1099511627776) (hq : q + 8 <= m.b.length) (h8 : q % 8 = 0) (hz : m.word q = 0) :
 Calls Tryz.prog 186 #[.pointer (some ⟨p, 0, none⟩), .int .i64 q] w fun e w' => ∃ b, e = .returned (.bool b) /\ Below w.heap.size w w' := by
 have HH := Lib.hid (ihead_any w H)
 have HO := Lib.hid (fun w1 => hobjects_any i k d f h w1 (by omega) (by omega) (by omega) (by omega))
 have HT : Hid (∀ w1, Below w.heap.size w w1 -> Calls Tryz.prog 26 #[.pointer (some ⟨p, 0, none⟩)] w1 fun e w' => e = .returned (.int .i64 m.b.length) /\ w1 = w') := Lib.hid (fun w1 hb1 => by
   have H1 := H.below hb1
   obtain ⟨A, c, rfl, -, -, -⟩ := H1.reads
   exact itail_any p _ A c w1 (nine H1.blk).1.2.2.2.2.2.2.1)
 have HW := Lib.hid (fun w1 (hb1 : Below w.heap.size w w1) => iword_any q w1 (H.below hb1) hb (by omega) (by omega))
 rw [hz] at HW
 obtain ⟨n, hn⟩ : ∃ n, m.b.length = n := ⟨_, rfl⟩
 rw [hn] at hq hl HT
 have h8' : (q : Int) % 8 = 0 := by omega
 have hr : Int.tmod (q : Int) 8 = 0 := by rw [Int.tmod_eq_emod_of_nonneg (by omega)]; exact h8'
 clear H hz hn h8 h8'
 by_cases hlo : 256 + 8 * (d + f) <= (q : Int)
 · have hw1 : IntKind.i64.wrap ((n : Int) - 8) = (n : Int) - 8 := by rw [IntKind.wrap_i64]; omega
   have h5 : (q : Int) <= (n : Int) - 8 := by omega
   go_enter Tryz.func186, Tryz.ntmps186
   go_wp2_with (first
     | (go_at_call 110; refine HH.out.mono ?_; rintro e w1 ⟨rfl, hb1⟩)
     | (go_at_call 33; refine (HO.out _).mono ?_; rintro e w2 ⟨rfl, hb2⟩; have hb12 := hb1.trans (hb2.mono hb1.size))
     | (go_at_call 26; refine (HT.out _ hb12).mono ?_; rintro e w3 ⟨rfl, rfl⟩)
     | (go_at_call 127; refine (HW.out _ hb12).mono ?_; rintro e w3 ⟨rfl, rfl⟩))
   go_ret
   exact ⟨_, rfl, hb12⟩
 · go_enter Tryz.func186, Tryz.ntmps186
   go_wp2_with (first
     | (go_at_call 110; refine HH.out.mono ?_; rintro e w1 ⟨rfl, hb1⟩)
     | (go_at_call 33; refine (HO.out _).mono ?_; rintro e w2 ⟨rfl, hb2⟩; have hb12 := hb1.trans (hb2.mono hb1.size)))
   go_ret
   first | exact ⟨_, rfl, hb12⟩ | exact ⟨.inl rfl, hb12⟩
theorem put8_length {m : IM} {q : Nat} {n : Int} (hq : q + 8 <= m.b.length) : (m.put8 q n).b.length = m.b.length := by
 show (splice m.b q (bts n 8)).length = _
 rw [splice_len _ _ _ (by rw [bts8_length]; exact hq)]
set_option maxHeartbeats 4000000 in
theorem refusal_any {L : Nat} (q : Nat) (A1 : Option Addr) (n1 c1 : Nat) (ws : List Int) (A3 : Option Addr) (n3 c3 : Nat) (is : List Int) (w : World) (ho : ObR w L A1 n1 c1 ws none 0 0 [] A3 n3 c3 is) (hL : L <= w.heap.size) (hr : rightN 4 n1 0 n3 = true)
 (H : IX w base S p i k d f h m bv sv) (hb : AreB m.b) (hl : m.b.length <= 1099511627776) (hlim : m.lim <= 1048576) (hq : q + 8 <= m.b.length) (h8 : q % 8 = 0) (h0 : 192 <= q) (hz : m.word q = 0) (u : Int) (hu : u = if m.lim < m.b.length + (encO 4 ws [] is).length then 21 else 0) :
 Calls Tryz.prog 187 #[.pointer (some ⟨p, 0, none⟩), .int .i64 q, obV 4 A1 n1 c1 none 0 0 A3 n3 c3] w fun e w' => e = .returned (.int .i64 u) /\ Below w.heap.size w w' := by
 have CP := Lib.hid (fun w1 (hb1 : Below w.heap.size w w1) => icopy_any w1 (H.below hb1) hl)
 have TL : Hid (∀ (w2 : World) (S2 : Nat -> Prop) (p2 : Nat) (bv2 sv2 : Value), IX w2 base S2 p2 i k d f h ⟨m.b, m.b, [], m.lim⟩ bv2 sv2 -> Calls Tryz.prog 26 #[.pointer (some ⟨p2, 0, none⟩)] w2 fun e w' => e = .returned (.int .i64 m.b.length) /\ w2 = w') := Lib.hid (fun w2 S2 p2 bv2 sv2 H2 => by
   obtain ⟨A, c, rfl, -, -, -⟩ := H2.reads
   exact itail_any p2 _ A c w2 (nine H2.blk).1.2.2.2.2.2.2.1)
 have ST := Lib.hid (fun (w2 : World) (S2 : Nat -> Prop) (p2 : Nat) (bv2 sv2 : Value) (H2 : IX w2 base S2 p2 i k d f h ⟨m.b, m.b, [], m.lim⟩ bv2 sv2) => iset_yes q (m.b.length : Nat) w2 H2 hb hq h8 h0 hl (by simp) hl hz)
 have hlen : (IM.put8 ⟨m.b, m.b, [], m.lim⟩ q (m.b.length : Nat)).b.length = m.b.length := put8_length (m := ⟨m.b, m.b, [], m.lim⟩) hq
 have PT : Hid (∀ (w3 : World) (S2 : Nat -> Prop) (p2 : Nat) (bv2 sv2 : Value), IX w3 base S2 p2 i k d f h (IM.put8 ⟨m.b, m.b, [], m.lim⟩ q (m.b.length : Nat)) bv2 sv2 -> Below w.heap.size w w3 ->
     Calls Tryz.prog 92 #[.pointer (some ⟨p2, 0, none⟩), obV 4 A1 n1 c1 none 0 0 A3 n3 c3] w3 fun e w' => ∃ x, e = .returned (.tuple #[.int .i64 x, .int .i64 u]) /\ Chg S2 w3 w') := Lib.hid (fun w3 S2 p2 bv2 sv2 H3 hb3 => by
   by_cases hx : m.lim < m.b.length + (encO 4 ws [] is).length
   · rw [if_pos hx] at hu
     subst hu
     refine (iput_full 4 A1 n1 c1 ws none 0 0 [] A3 n3 c3 is w3 (ho.below hb3 hL) hr H3 (by rw [hlen]; exact hl) hlim (by rw [hlen]; exact hx)).mono ?_
     rintro e w' ⟨rfl, hb⟩
     exact ⟨_, rfl, Chg.of_below hb (Nat.le_refl _) _⟩
   · rw [if_neg hx] at hu
     subst hu
     refine (iput_yes 4 A1 n1 c1 ws none 0 0 [] A3 n3 c3 is w3 (ho.below hb3 hL) (Nat.le_trans hL hb3.size) hr H3 (by rw [hlen]; exact hl) hlim (by rw [hlen]; show m.b.length + _ <= m.lim; omega)).mono ?_
     rintro e w' ⟨rfl, hc, -⟩
     exact ⟨_, rfl, hc⟩)
 have hu2 : u = 0 ∨ u = 21 := by rw [hu]; split <;> simp
 have hbx : Below w.heap.size w (w.alloc (.cells #[.int .i64 4, .slice A1 n1 c1, .slice none 0 0, .slice A3 n3 c3] 128)) := boxed _ _
 have zb : Blk (w.alloc (.cells #[.int .i64 4, .slice A1 n1 c1, .slice none 0 0, .slice A3 n3 c3] 128)) w.heap.size 128 #[.int .i64 4, .slice A1 n1 c1, .slice none 0 0, .slice A3 n3 c3] := Blk.new _ _ _
 have HB := Lib.hid (And.intro hbx zb)
 have HN := Lib.hid (show ∀ (w1 w2 w3 : World) (S2 : Nat -> Prop), Below w.heap.size w w1 -> (∀ j, S2 j -> w1.heap.size <= j) -> Below w1.heap.size w1 w2 -> Chg S2 w2 w3 -> Below w1.heap.size w1 w3 from fun w1 w2 w3 S2 h1 hS h2 hc => h2.trans (hc.below h2.size (fun j _ hj => hS j hj)))
 obtain ⟨n, hn⟩ : ∃ n, m.b.length = n := ⟨_, rfl⟩
 rw [hn] at TL ST PT hl
 have hwu : IntKind.u64.wrap (n : Int) = (n : Int) := wrap_u64_of (by omega) (by omega)
 clear H hb hl hu hbx zb hlen hz hn ho hr hq h8 h0 hlim
 go_enter Tryz.func187, Tryz.ntmps187
 dsimp only [obV]
 go_wp2_with (first
   | (go_at_call 211; refine (CP.out _ HB.out.1).mono ?_; rintro e w2 ⟨p2, bv2, sv2, rfl, hb2, H2⟩)
   | (go_at_call 26; refine (TL.out _ _ _ _ _ H2).mono ?_; rintro e w3 ⟨rfl, rfl⟩)
   | (go_at_call 141; refine (ST.out _ _ _ _ _ H2).mono ?_; rintro e w3 ⟨rfl, hc3, bv3, sv3, H3⟩; have hb3 := HN.out _ _ _ _ HB.out.1 (fun j hj => hj.1) hb2 hc3; have hw3 := HB.out.1.trans (hb3.mono HB.out.1.size); have zz := HB.out.2.below hb3 HB.out.2.lt; have z0 := zz.cell 0; have z1 := zz.cell 1; have z2 := zz.cell 2; have z3 := zz.cell 3)
   | (go_at_call 92; refine (PT.out _ _ _ _ _ H3 hw3).mono ?_; rintro e w4 ⟨x4, rfl, hc4⟩))
 all_goals
   have hE : Below w.heap.size w w4 := hw3.trans (hc4.below hw3.size (fun j _ hj => by
     rcases hj with hj | hj
     · have := hj.1; have := HB.out.1.size; omega
     · have := hb2.size; have := HB.out.1.size; omega))
   rcases hu2 with rfl | rfl
   all_goals first
     | (refine bodyPost_ret (results_tmp rfl _ _ _) rfl ?_; exact ⟨rfl, hE⟩)
     | (exfalso; simp_all; done)
     | (exfalso; omega)
set_option maxHeartbeats 4000000 in
theorem cput_any {L : Nat} (q : Nat) (A1 : Option Addr) (n1 c1 : Nat) (ws : List Int) (A3 : Option Addr) (n3 c3 : Nat) (is : List Int) (w : World) (ho : ObR w L A1 n1 c1 ws none 0 0 [] A3 n3 c3 is) (hL : L <= w.heap.size) (hr : rightN 4 n1 0 n3 = true)
 (H : IX w base S p i k d f h m bv sv) (hb : AreB m.b) (hd : 1 <= d /\ d <= 256) (hf : 1 <= f /\ f <= 256) (hl : m.b.length <= 1099511627776) (hlim : m.lim <= 1048576) (hN : m.words.length <= 1000000000) (hwl : m.was.length <= 1099511627776) (hq : q + 8 <= m.b.length) (h8 : q % 8 = 0) (h0 : 192 <= q) (hz : m.word q = 0) :
 Calls Tryz.prog 146 #[.pointer (some ⟨p, 0, none⟩), .int .i64 q, obV 4 A1 n1 c1 none 0 0 A3 n3 c3] w fun e w' =>
 (m.lim < m.b.length + (encO 4 ws [] is).length /\ e = .returned (.int .i64 21) /\ Below w.heap.size w w') ∨
 (m.b.length + (encO 4 ws [] is).length <= m.lim /\ e = .returned (.int .i64 0) /\ IXT base S p i k d f h ((m.add (encO 4 ws [] is)).put8 q (m.b.length : Nat)) w w') := by
 have FR := Lib.hid (fun w1 (hb1 : Below w.heap.size w w1) => isfree_any q w1 (H.below hb1) hb hd hf hl hq h8 hz)
 have RF := Lib.hid (fun w1 (hb1 : Below w.heap.size w w1) => refusal_any (L := L) q A1 n1 c1 ws A3 n3 c3 is w1 (ho.below hb1 hL) (Nat.le_trans hL hb1.size) hr (H.below hb1) hb hl hlim hq h8 h0 hz)
 have hbx : Below w.heap.size w (w.alloc (.cells #[.int .i64 4, .slice A1 n1 c1, .slice none 0 0, .slice A3 n3 c3] 128)) := boxed _ _
 have zb : Blk (w.alloc (.cells #[.int .i64 4, .slice A1 n1 c1, .slice none 0 0, .slice A3 n3 c3] 128)) w.heap.size 128 #[.int .i64 4, .slice A1 n1 c1, .slice none 0 0, .slice A3 n3 c3] := Blk.new _ _ _
 have HB := Lib.hid (And.intro hbx zb)
 by_cases hx : m.lim < m.b.length + (encO 4 ws [] is).length
 · have PT := Lib.hid (fun w3 (hb3 : Below w.heap.size w w3) => iput_full 4 A1 n1 c1 ws none 0 0 [] A3 n3 c3 is w3 (ho.below hb3 hL) hr (H.below hb3) hl hlim hx)
   have HX := Lib.hid hx
   have RF2 := Lib.hid (fun w1 hb1 => RF.out w1 hb1 21 (by rw [if_pos hx]))
   clear H hb hl hbx zb hz ho hr hq h8 h0 hlim RF hN hwl hx
   go_enter Tryz.func146, Tryz.ntmps146
   dsimp only [obV]
   go_wp2_with (first
     | (go_at_call 186; refine (FR.out _ HB.out.1).mono ?_; rintro e w2 ⟨bb, rfl, hb2⟩; have hw2 := HB.out.1.trans (hb2.mono HB.out.1.size); have zz := HB.out.2.below hb2 HB.out.2.lt; have z0 := zz.cell 0; have z1 := zz.cell 1; have z2 := zz.cell 2; have z3 := zz.cell 3; cases bb)
     | (go_at_call 187; refine (RF2.out _ hw2).mono ?_; rintro e w3 ⟨rfl, hb3⟩)
     | (go_at_call 92; refine (PT.out _ hw2).mono ?_; rintro e w3 ⟨rfl, hb3⟩))
   all_goals
     refine bodyPost_ret (results_tmp rfl _ _ _) rfl ?_
     exact .inl ⟨HX.out, rfl, hw2.trans (hb3.mono hw2.size)⟩
 · have hx' : m.b.length + (encO 4 ws [] is).length <= m.lim := by omega
   have PT := Lib.hid (fun w3 (hb3 : Below w.heap.size w w3) => iput_yes 4 A1 n1 c1 ws none 0 0 [] A3 n3 c3 is w3 (ho.below hb3 hL) (Nat.le_trans hL hb3.size) hr (H.below hb3) hl hlim hx')
   have HX := Lib.hid hx'
   have RF2 := Lib.hid (fun w1 hb1 => RF.out w1 hb1 0 (by rw [if_neg hx]))
   have hq2 : q + 8 <= (m.add (encO 4 ws [] is)).b.length := by show _ <= (m.b ++ _).length; rw [List.length_append]; omega
   have hz2 : (m.add (encO 4 ws [] is)).word q = 0 := by
     show gnum (m.b ++ _) (q : Nat) 8 = 0
     rw [gnum_add hq]; exact hz
   have hl2 : (m.add (encO 4 ws [] is)).b.length <= 1099511627776 := by show (m.b ++ _).length <= _; rw [List.length_append]; omega
   have hbe : AreB (m.add (encO 4 ws [] is)).b := hb.append (encO_bytes AreB.nil)
   have ST := Lib.hid (fun (w3 : World) (S3 : Nat -> Prop) (bv3 sv3 : Value) (H3 : IX w3 base S3 p i k d f h (m.add (encO 4 ws [] is)) bv3 sv3) => iset_yes q (m.b.length : Nat) w3 H3 hbe hq2 h8 h0 hl2 hN hwl hz2)
   have HF := Lib.hid (And.intro H.foot H.bas)
   obtain ⟨n, hn⟩ : ∃ n, m.b.length = n := ⟨_, rfl⟩
   rw [hn] at PT ST hl HX ⊢
   have hwu : IntKind.u64.wrap (n : Int) = (n : Int) := wrap_u64_of (by omega) (by omega)
   clear H hb hl hbx zb hz ho hr hq h8 h0 hlim RF hN hwl hx hx' hq2 hz2 hl2 hbe
   go_enter Tryz.func146, Tryz.ntmps146
   dsimp only [obV]
   go_wp2_with (first
     | (go_at_call 186; refine (FR.out _ HB.out.1).mono ?_; rintro e w2 ⟨bb, rfl, hb2⟩; have hw2 := HB.out.1.trans (hb2.mono HB.out.1.size); have zz := HB.out.2.below hb2 HB.out.2.lt; have z0 := zz.cell 0; have z1 := zz.cell 1; have z2 := zz.cell 2; have z3 := zz.cell 3; cases bb)
     | (go_at_call 187; refine (RF2.out _ hw2).mono ?_; rintro e w3 ⟨rfl, hb3⟩; have hw2 := hw2.trans (hb3.mono hw2.size); have zz := zz.below hb3 zz.lt; have z0 := zz.cell 0; have z1 := zz.cell 1; have z2 := zz.cell 2; have z3 := zz.cell 3)
     | (go_at_call 92; refine (PT.out _ hw2).mono ?_; rintro e w5 ⟨rfl, hc5, bv5, sv5, H5⟩)
     | (go_at_call 141; refine (ST.out _ _ _ _ H5).mono ?_; rintro e w6 ⟨rfl, hc6, bv6, sv6, H6⟩))
   all_goals
     refine bodyPost_ret (results_tmp rfl _ _ _) rfl ?_
     have hsz := hw2.size
     have t2 := (Chg.of_below hw2 (Nat.le_refl _) S).trans hc5 (fun _ _ h => h)
     have hsz5 := hc5.size
     have t3 := t2.trans hc6 (fun j hj e => e.elim id (fun e => by omega))
     refine .inr ⟨HX.out, rfl, IXT.of (w0 := w) t3 H6 (fun j hj => ?_) HF.out.1 HF.out.2⟩
     rcases hj with (hj | hj) | hj
     · exact .inl hj
     · right; omega
     · right; omega
end
end Go.Proofs.YtgcmbgniaffdlaaGreat
