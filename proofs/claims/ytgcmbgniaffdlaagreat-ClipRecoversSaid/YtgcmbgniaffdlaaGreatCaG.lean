import Derived.Test.YtgcmbgniaffdlaaGreatCaF
set_option linter.unusedVariables false
set_option maxRecDepth 100000
set_option linter.unusedSimpArgs false
namespace Go.Proofs.YtgcmbgniaffdlaaGreat
open Go.RowKit Go.Shelf
structure ClMid (hI hM hK hD hF : Int) (w w6 : World) (p t0 : Nat) (b0 : List Int) (v : Value) (m k : Nat) : Prop where
 ex : ∃ T bs R O Lr l L, EX hI hM hK hD hF w6 w.heap.size T p 1048576 bs R O Lr (t0 + 700000 * (k + 1)) 300 /\ EL R O Lr (l.map fun r => r.its.map nums) /\
   (∀ (i : Nat) (o : GO) (r : RC), O[i]? = some o -> l[i]? = some r -> o.ws = [r.seq, r.real, r.mono, r.boot, xorL hK r.its]) /\ Later (newK hD hF) b0 bs L /\ WantAt w w6 T v l /\ l.length = m + 1 /\ m <= k
section
variable {hI hM hK hD hF : Int} {w wr wx w3 w6 : World} {p t0 m k : Nat} {b0 : List Int} {v : Value} {r : RC}
theorem ClTwo.next {A : Option Addr} {c g : Nat} {L : List ByteArray} (hL : chkL r.its = L) (H : ClTwo hI hM hK hD hF w wr wx w3 p t0 b0 v m k r) (hT : Txt wx wx.heap.size A L.length c L) (hA : ∀ ad, A = some ad -> wr.heap.size <= ad.block) (hB : Blk wx g 39 #[.int .u64 r.seq, .int .u64 r.real, .int .u64 r.mono, .int .u64 r.boot, .slice A L.length c]) (hg : wr.heap.size <= g) :
 Blk w3 g 39 #[.int .u64 r.seq, .int .u64 r.real, .int .u64 r.mono, .int .u64 r.boot, .slice A L.length c] /\ ∃ cs : List Value, w3.ownsRow w.heap.size 39 5 v m cs /\ w.heap.size <= w3.heap.size /\
 (∀ (w6 : World) (v' : Value) (tmp : Obj), w6.ownsRow w.heap.size 39 5 v' (m + 1) (cs ++ [.int .u64 r.seq, .int .u64 r.real, .int .u64 r.mono, .int .u64 r.boot, .slice A L.length c]) -> (w3.alloc tmp).grownBy w6 v.ownBlock -> (v'.ownBlock = v.ownBlock ∨ v'.ownBlock = some (w3.alloc tmp).heap.size) ->
 ClMid hI hM hK hD hF w w6 p t0 b0 v' m k) := by
 subst hL
 obtain ⟨S, bs, R, O, Lr, l, R', o, Lr', HF, HW, h1, h2, hb, hc3, hx3, hE3, hw, e1⟩ := H
 subst h1
 have hF := ((Fp.refl S wr).below hb).next hc3
 have hSf := HF.ed.foot
 have hs3 := hc3.size
 have hsb := hb.size
 have hnew : ∀ q, wr.heap.size <= q -> q < wx.heap.size -> ¬ S q /\ ¬ grow S wx w3 q := fun q e1 e2 => by
   have hS : ¬ S q := fun e => by have := (hSf q e).2; omega
   exact ⟨hS, fun e => e.elim hS (fun e => by omega)⟩
 have hG := good_of_chk e1
 have hAl : ∀ ad, A = some ad -> ad.block < wx.heap.size := fun ad ha => by
   obtain ⟨ad2, ea, hb2, -⟩ := hT.reads.2 hG.pos
   rw [ha] at ea; injection ea with ea; subst ea; exact hb2
 have hT3 := hT.chg hc3 (Nat.le_refl _) (fun ad ha => (hnew _ (hA ad ha) (hAl ad ha)).1)
 have hB3 := hB.chg hc3 (hnew _ hg hB.lt).1
 have hrow3 := own_chg HW.own hF.chg HW.vS
 refine ⟨hB3, cellsR5 l, hrow3, hx3.bas, fun w6 v' tmp hown hg hat => ?_⟩
 obtain ⟨L0, hL0⟩ := HF.late
 have hc6 := grownC hg
 have hvT : ∀ q, v.ownBlock = some q -> ¬ grow S wx w3 q := fun q hq ht => (hF.sub q ht).elim (HW.vS q hq) (fun e => by have := (HW.own.lt q hq).2; omega)
 have hlen := HF.el.len
 rw [List.length_map] at hlen
 have hft : ∀ q, grow S wx w3 q -> w.heap.size <= q /\ q < w3.heap.size := hx3.foot
 exact ⟨_, bs, R', O ++ [o], Lr', l ++ [⟨r.seq, r.real, r.mono, r.boot, A, (chkL r.its).length, c, chkL r.its⟩], L0, hx3.keep hc6 (fun q hq e => hvT q e hq), by rw [List.map_append]; exact hE3, EL.ob_snoc hlen HF.ob hw, hL0, HW.next (rc := ⟨r.seq, r.real, r.mono, r.boot, A, (chkL r.its).length, c, chkL r.its⟩) hF hft (hT3.more (by omega)) (fun ad ha => ⟨hA ad ha, (hnew _ (hA ad ha) (hAl ad ha)).2⟩) hG hown hg hat, by simp, h2⟩
theorem ClMid.done (H : ClMid hI hM hK hD hF w w6 p t0 b0 v m k) (ht0 : t0 <= 100000) (hk : k < 40) (hlo : 200 <= newK hD hF) :
 Calls Tryz.prog 14 #[.pointer (some ⟨p, 0, none⟩)] w6 fun e w4 => e = .returned (.tuple #[]) /\ ClAt hI hM hK hD hF w w4 p t0 b0 v (m + 1) (k + 1) := by
 obtain ⟨T, bs, R, O, Lr, l, L, hx, hE, hob, hLt, HW, h1, h2⟩ := H
 refine (done_later hx (by omega)).mono ?_
 rintro e w4 ⟨rfl, hc4, bs', L', hD, hL2⟩
 exact ⟨rfl, _, bs', R, O, Lr, l, ⟨hD, hE, hob, L, hLt.trans hlo hL2⟩, HW.turn ((Fp.refl T w6).next hc4) hD.foot, h1, by omega⟩
end
structure BesAt (w wr : World) (S : Nat -> Prop) (v : Value) (zs : List Int) : Prop where
 own : wr.ownsRow w.heap.size 5 1 v zs.length (cellsOf .u8 zs)
 vS : ∀ g, v.ownBlock = some g -> ¬ S g
theorem BesAt.turn {w wr w' : World} {S T : Nat -> Prop} {v : Value} {zs : List Int} (H : BesAt w wr S v zs) (hF : Fp S wr T w') : BesAt w w' T v zs :=
 ⟨own_chg H.own hF.chg H.vS, fun g hg ht => (hF.sub g ht).elim (H.vS g hg) (fun e => by have := (H.own.lt g hg).2; omega)⟩
structure MwAt (hI hM hK hD hF : Int) (w wr : World) (p t0 : Nat) (was : List Int) (u v : Value) (l : List RC) (k : Nat) : Prop where
 ex : ∃ S now R O Lr E L, ED hI hM hK hD hF wr w.heap.size S p 1048576 now R O Lr (t0 + 700000 * k) /\ EL R O Lr E /\ O.length <= k /\ WantAt w wr S v l /\ Later (newK hD hF) was now L /\ BesAt w wr S u was
structure MwTwo (hI hM hK hD hF : Int) (w wr wx w3 : World) (p t0 : Nat) (was : List Int) (u v : Value) (l : List RC) (k : Nat) : Prop where
 ex : ∃ S now R' O' Lr' E' L, WantAt w wr S v l /\ Later (newK hD hF) was now L /\ Below wr.heap.size wr wx /\ Chg S wx w3 /\ EX hI hM hK hD hF w3 w.heap.size (grow S wx w3) p 1048576 now R' O' Lr' (t0 + 700000 * (k + 1)) 300 /\ EL R' O' Lr' E' /\ O'.length <= k + 1 /\ BesAt w wr S u was
section
variable {hI hM hK hD hF : Int} {w wr wx w3 w4 : World} {p t0 m k : Nat} {b0 was : List Int} {u v : Value} {l : List RC} {r : RC}
theorem MwAt.below (H : MwAt hI hM hK hD hF w wr p t0 was u v l k) : Below w.heap.size w wr := by
 obtain ⟨S, now, R, O, Lr, E, L, h1, h2, h3, h4, h5, h6⟩ := H
 exact h4.below
theorem MwAt.add (H : MwAt hI hM hK hD hF w wr p t0 was u v l k) (ht0 : t0 <= 100000) (hk : k < 80) (hb : Below wr.heap.size wr wx) (hr : RCOk wx wx.heap.size r) (hn : r.n <= 9223372036854775807) : Calls Tryz.prog 13 #[.pointer (some ⟨p, 0, none⟩), r.v] wx fun e w3 =>
   (∃ a : Nat, e = .returned (.tuple #[.int .i64 a, .int .i64 0]) /\ MwTwo hI hM hK hD hF w wr wx w3 p t0 was u v l k) ∨ (∃ E : Int, e = .returned (.tuple #[.int .i64 0, .int .i64 E]) /\ ¬ E = 0 /\ MwAt hI hM hK hD hF w w3 p t0 was u v l (k + 1)) := by
 obtain ⟨S, now, R, O, Lr, E, L, h1, h2, h3, h4, h5, h6⟩ := H
 refine (eadd_any (B := wx.heap.size) r hr (Nat.le_refl _) hn (h1.below hb) h2 (by omega) (by omega)).mono ?_
 rintro e w3 (⟨e1, rfl, hb3⟩ | ⟨e1, a, R', ps, rfl, ha1, ha2, hc3, hx3, hE3, hsm⟩ | ⟨e1, hlm, rfl, hc3, hD3⟩)
 · right
   have hbb := hb.trans (hb3.mono hb.size)
   exact ⟨_, rfl, e1, S, now, R, O, Lr, E, L, (h1.below hbb).more (by omega), h2, by omega, h4.belowW hbb, h5, h6.turn ((Fp.refl S wr).below hbb)⟩
 · left
   have hG := good_of_chk e1
   have hbu := budE_le R O (zs := (chkL r.its).map nums) (by rw [List.length_map]; exact hG.most)
   exact ⟨a, rfl, S, now, R', _, _, _, L, h4, h5, hb, hc3, hx3.more (by omega) (Nat.le_refl _) (by omega), hE3, by rw [List.length_append]; simp; omega, h6⟩
 · right
   exact ⟨_, rfl, by decide, _, now, R, O, Lr, E, L, hD3.more (by omega), h2, by omega, h4.turn (((Fp.refl S wr).below hb).next hc3) hD3.foot, h5, h6.turn (((Fp.refl S wr).below hb).next hc3)⟩
theorem MwTwo.done (H : MwTwo hI hM hK hD hF w wr wx w3 p t0 was u v l k) (ht0 : t0 <= 100000) (hk : k < 80) (hlo : 200 <= newK hD hF) : Calls Tryz.prog 14 #[.pointer (some ⟨p, 0, none⟩)] w3 fun e w4 => e = .returned (.tuple #[]) /\ MwAt hI hM hK hD hF w w4 p t0 was u v l (k + 1) := by
 obtain ⟨S, now, R', O', Lr', E', L, h4, h5, hb, hc3, hx3, hE3, hO, h6⟩ := H
 refine (done_later hx3 (by omega)).mono ?_
 rintro e w4 ⟨rfl, hc4, bs', L', hD, hLt⟩
 exact ⟨rfl, _, bs', R', O', Lr', E', L, hD, hE3, hO, h4.turn ((((Fp.refl S wr).below hb).next hc3).next hc4) hD.foot, h5.trans hlo hLt, h6.turn ((((Fp.refl S wr).below hb).next hc3).next hc4)⟩
theorem ClAt.moreW (H : ClAt hI hM hK hD hF w wr p t0 b0 v m k) : ∃ S was R O Lr l L, ClFile hI hM hK hD hF w wr p t0 b0 S was R O Lr k l /\ WantAt w wr S v l /\ l.length = m /\ Stands hK hD hF was R O Lr L /\
 ∀ (w5 : World) (u : Value), Below wr.heap.size wr w5 -> w5.ownsRow wr.heap.size 5 1 u was.length (cellsOf .u8 was) -> MwAt hI hM hK hD hF w w5 p t0 was u v l k := by
 obtain ⟨S, bs, R, O, Lr, l, HF, HW, h1, h2⟩ := H
 obtain ⟨L, hL⟩ := HF.ed.old.stands
 have hlen := HF.el.len
 rw [List.length_map] at hlen
 exact ⟨S, bs, R, O, Lr, l, L, HF, HW, h1, hL, fun w5 u hb ho => ⟨S, bs, R, O, Lr, _, L, HF.ed.below hb, HF.el, by omega, HW.belowW hb, hL.same, own_base ho HF.ed.bas, fun g hg hs => by
   have e1 := (ho.lt g hg).1
   have e2 := (HF.ed.foot g hs).2
   omega⟩⟩
theorem MwAt.bytes (H : MwAt hI hM hK hD hF w wr p t0 was u v l k) : ∃ now L, AreB now /\ Later (newK hD hF) was now L /\ wr.ownsRow w.heap.size 5 1 u was.length (cellsOf .u8 was) /\ (∃ A c, v = .slice A l.length c /\ RecsR wr wr.heap.size A l.length c l) /\ ∀ wx, Below wr.heap.size wr wx -> Calls Tryz.prog 15 #[.pointer (some ⟨p, 0, none⟩)] wx (Told now wx) := by
 obtain ⟨S, now, R, O, Lr, E, L, h1, h2, h3, h4, h5, h6⟩ := H
 exact ⟨now, L, h1.bytes, h5, h6.own, h4.recs, fun wx hb => bytes_ed (h1.below hb)⟩
end
structure MixR (w7 wr : World) (g c7 n : Nat) (was now : List Int) (keep : Nat -> Bool) (i : Nat) (cur : List Value) (c : List Int) : Prop where
 out : Blk wr g 5 cur.toArray
 len : cur.length = c7
 tk : cur.take n = cellsOf .u8 c
 mix : MixAt was now keep i c
 chg : Chg (fun k => k = g) w7 wr
section
variable {w7 wr w' : World} {g c7 n i : Nat} {was now c : List Int} {keep : Nat -> Bool} {cur : List Value}
theorem MixR.no (H : MixR w7 wr g c7 n was now keep i cur c) (hk : keep i = false) : MixR w7 wr g c7 n was now keep (i + 1) cur c := ⟨H.out, H.len, H.tk, H.mix.no hk, H.chg⟩
theorem MixR.yes (H : MixR w7 wr g c7 n was now keep i cur c) (hn : was.length = n) (hnb : AreB now) (hle : was.length <= now.length) (hi : 8 * i + 8 <= was.length) (hk : keep i = true) (hnc : n <= c7)
 (hB : Blk w' g 5 (splice cur (8 * i) (cellsOf .u8 ((now.drop (8 * i)).take 8))).toArray) (hc : Chg (fun k => k = g) wr w') :
 MixR w7 w' g c7 n was now keep (i + 1) (splice cur (8 * i) (cellsOf .u8 ((now.drop (8 * i)).take 8))) (splice c (8 * i) ((now.drop (8 * i)).take 8)) := by
 have hl : (cellsOf .u8 ((now.drop (8 * i)).take 8)).length = 8 := by rw [cellsOf_length, List.length_take, List.length_drop]; omega
 have hlen := H.len
 refine ⟨hB, by rw [splice_lenV _ _ _ (by omega)]; exact hlen, by rw [take_splice H.tk (by omega) (by omega), splice_cells], H.mix.yes hnb hle hi hk, H.chg.trans hc (fun k _ e => e)⟩
end
section
variable {b b' : List Int}
theorem Above.drop (h : Above b b') {j : Nat} (hj : 192 <= j) : b'.drop j = b.drop j := by
 have hl := h.len
 refine ext_nz (by rw [List.length_drop, List.length_drop, hl]) fun i _ => ?_
 rw [nz_drop, nz_drop]
 exact h.nz_ _ (by omega)
theorem DecAt.abv {j k s : Nat} (H : DecAt b j k s) (h : Above b b') (hj : 192 <= j) : DecAt b' j k s :=
 ⟨H.al, by rw [h.len]; exact H.room, by rw [h.drop hj]; exact H.kd, by rw [h.drop (by omega)]; exact H.sd, H.kk, by rw [h.len]; exact H.fit⟩
theorem decB_abv (h : Above b b') {j k s : Nat} (hj : 192 <= j) : decB b' j k s = decB b j k s := by
 unfold decB
 rw [h.len, h.drop (by omega)]
theorem SR.Is.abv {r : SR} (H : r.Is b) (h : Above b b') (hj : 192 <= r.j) : r.Is b' := ⟨H.at_.abv h hj, by rw [decB_abv h hj]; exact H.dec⟩
theorem scan_abv (h : Above b b') : ∀ (L : List SR) (pl : Int), 192 <= pl -> scanAt b pl L -> scanAt b' pl L
 | [], pl, hp, H => fun j k s e hd => by
   have hd' := hd.abv h.symm (by omega)
   rw [decB_abv h (by omega)]
   exact H j k s e hd'
 | r :: L, pl, hp, ⟨e, hr, hl⟩ => ⟨e, hr.abv h (by omega), scan_abv h L r.fin (by unfold SR.fin; omega) hl⟩
theorem Above.splice (h : Above b b') {w : Nat} (z : List Int) (hw : w + z.length <= b.length) : Above (splice b w z) (splice b' w z) := by
 have hl := h.len
 refine ⟨by rw [splice_len _ _ _ (by omega), splice_len _ _ _ (by omega), hl], fun j hj => ?_⟩
 rw [nz_splice _ _ _ _ (by omega), nz_splice _ _ _ _ (by omega), h.nz_ j hj]
theorem cutF_abv (t : Int) : ∀ (ws : List Nat) (a a' : List Int) (l l' : List Nat), Above a a' -> (∀ w ∈ ws, 192 <= w /\ w + 8 <= a.length) -> Above (cutF t ws (a, l)).1 (cutF t ws (a', l')).1
 | [], a, a', l, l', h, _ => h
 | w :: ws, a, a', l, l', h, hw => by
   have h1 := hw w (by simp)
   have e := h.gnumA h1.1 h1.2
   have l8 : (List.replicate 8 (0 : Int)).length = 8 := rfl
   show Above (cutF t ws (if t <= gnum a (w : Nat) 8 then _ else _)).1 (cutF t ws (if t <= gnum a' (w : Nat) 8 then _ else _)).1
   by_cases hc : t <= gnum a (w : Nat) 8
   · rw [if_pos hc, if_pos (by rw [e]; exact hc)]
     refine cutF_abv t ws _ _ _ _ (h.splice _ (by rw [l8]; omega)) (fun q hq => ?_)
     have h2 := hw q (by simp [hq])
     show 192 <= q /\ q + 8 <= (Go.splice a w (List.replicate 8 0)).length
     rw [splice_len _ _ _ (by rw [l8]; omega)]
     exact h2
   · rw [if_neg hc, if_neg (by rw [e]; exact hc)]
     exact cutF_abv t ws _ _ _ _ h (fun q hq => hw q (by simp [hq]))
end
section
variable {d f : Int} {bs b' c ys enc : List Int} {R : List DR} {O : List GO} {Lr : List Int} {L : List SR}
theorem take_slot (he : enc.length = 64) (hc : 192 <= c.length) : (splice (c ++ ys) 64 enc).take c.length = splice c 64 enc := by
 have h1 : (splice (c ++ ys) 64 enc).length = (c ++ ys).length := splice_len _ _ _ (by rw [List.length_append]; omega)
 have h2 : (splice c 64 enc).length = c.length := splice_len _ _ _ (by omega)
 refine ext_nz (by rw [List.length_take, h1, h2, List.length_append]; omega) fun j hj => ?_
 rw [List.length_take, h1, List.length_append] at hj
 rw [nz_take, if_pos (by omega), nz_splice _ _ _ _ (by rw [List.length_append]; omega), nz_splice _ _ _ _ (by omega)]
 by_cases h : 64 <= j /\ j < 64 + enc.length
 · rw [if_pos h, if_pos h]
 · rw [if_neg h, if_neg h]
   unfold nz
   rw [List.getD_eq_getElem?_getD, List.getD_eq_getElem?_getD, List.getElem?_append_left (by omega)]
theorem Stands.slot {k : Int} (h : Stands k d f bs R O Lr L) (H : Later (newK d f) bs b' L) (M : Mixed bs b' c) (he : enc.length = 64) (hb : AreB enc) :
 scanAt ((splice (c ++ ys) 64 enc).take bs.length) (newK d f : Nat) L /\ Stands k d f (cutW d f L (splice (c ++ ys) 64 enc) bs.length).1 R O Lr L /\ (cutW d f L (splice (c ++ ys) 64 enc) bs.length).1.length = bs.length := by
 obtain ⟨⟨h1, h2⟩, h3⟩ := h.mixed H M
 obtain ⟨l, V, e⟩ := h.ex
 have h0 := newK_low d f V.db.hD V.db.hF
 have h8 := V.db.gb.loal
 have hlow := V.db.gb.low
 have hml := M.len
 have hA : Above c (splice c 64 enc) := above_splice (by omega) (by omega)
 have e1 : (splice (c ++ ys) 64 enc).take bs.length = splice c 64 enc := by rw [<- hml]; exact take_slot he (by omega)
 have hws : ∀ q ∈ wordsS (newK d f) L, 192 <= q /\ q + 8 <= c.length := fun q hq => by
   have := wordsS_fit h0.1 h8 (by omega) h1 q hq
   omega
 have hC := cutF_abv bs.length (wordsS (newK d f) L) c (splice c 64 enc) [] [] hA hws
 rw [h3] at hC
 have hl2 : (splice c 64 enc).length = c.length := splice_len _ _ _ (by omega)
 obtain ⟨k1, k2, -, -⟩ := cutF_ok bs.length (wordsS (newK d f) L) (splice c 64 enc, []) (splice_bytes M.by_ hb _) (fun q hq => by have := hws q hq; show q + 8 <= (splice c 64 enc).length; omega)
 unfold cutW
 rw [e1]
 refine ⟨scan_abv hA L _ (by omega) h1, h.above hC k2, ?_⟩
 have k3 : (cutF bs.length (wordsS (newK d f) L) (splice c 64 enc, [])).1.length = (splice c 64 enc).length := k1
 omega
theorem Stands.mix {k : Int} (h : Stands k d f bs R O Lr L) (H : Later (newK d f) bs b' L) (M : Mixed bs b' c) :
 scanAt ((c ++ ys).take bs.length) (newK d f : Nat) L /\ (cutW d f L (c ++ ys) bs.length).1 = bs := by
 obtain ⟨⟨h1, h2⟩, h3⟩ := h.mixed H M
 have hml := M.len
 have e1 : (c ++ ys).take bs.length = c := by rw [<- hml]; exact List.take_left' rfl
 unfold cutW
 rw [e1]
 exact ⟨h1, h3⟩
end
section
variable {D F : Int} {c ys b0 : List Int} {t : Int}
theorem nz_app_left {j : Nat} (h : j < c.length) : nz (c ++ ys) j = nz c j := by
 unfold nz
 rw [List.getD_eq_getElem?_getD, List.getD_eq_getElem?_getD, List.getElem?_append_left (by omega)]
theorem nz_app_right {j : Nat} (h : c.length <= j) : nz (c ++ ys) j = nz ys (j - c.length) := by
 unfold nz
 rw [List.getD_eq_getElem?_getD, List.getD_eq_getElem?_getD, List.getElem?_append_right (by omega)]
theorem nz_of_take {a b : List Int} {n : Nat} (h : a.take n = b.take n) {j : Nat} (hj : j < n) : nz a j = nz b j := by
 have h1 : nz (a.take n) j = nz (b.take n) j := by rw [h]
 rw [nz_take, nz_take, if_pos hj, if_pos hj] at h1
 exact h1
theorem mixed_head (hR : rightH D F = true) (h8 : t % 8 = 0) (t0 : 0 <= t) (t1 : t < 18446744073709551616) (hc : 256 <= c.length) (h0 : c.take 192 = (newB 1 2 D F 0).take 192) :
 OpHd (splice (c ++ ys) 64 (encS 2 t 0 0 0 1)) 1 2 D F 0 2 t 0 0 0 1 /\ isH (splice (c ++ ys) 64 (encS 2 t 0 0 0 1)) = true /\ chB (splice (c ++ ys) 64 (encS 2 t 0 0 0 1)) = true := by
 have hrs : rightS 2 t 1 = true := by
   unfold rightS
   rw [decide_eq_true (by decide), decide_eq_true (by decide), decide_eq_true h8]; rfl
 have hes : encS 2 t 0 0 0 1 = encW [2, t, 0, 0, 0, 1] := by unfold encS; rw [if_pos hrs]
 have hel : (encW [2, t, 0, 0, 0, 1]).length = 64 := encW_length rfl
 have hhl : (encH 1 2 D F 0).length = 64 := encH_length _ _ _ _ _
 have hbd := rightH_bd hR
 have hnk := newK_eq hR
 rw [hes]
 obtain ⟨Z, hZ⟩ : ∃ Z, splice (c ++ ys) 64 (encW [2, t, 0, 0, 0, 1]) = Z := ⟨_, rfl⟩
 have hZl : Z.length = (c ++ ys).length := by rw [<- hZ]; exact splice_len _ _ _ (by rw [List.length_append]; omega)
 have hZ2 : 256 <= Z.length := by rw [hZl, List.length_append]; omega
 have hz : ∀ j, nz Z j = if 64 <= j /\ j < 128 then nz (encW [2, t, 0, 0, 0, 1]) (j - 64) else nz (c ++ ys) j := fun j => by
   rw [<- hZ, nz_splice _ _ _ _ (by rw [List.length_append]; omega), hel]
 rw [hZ]
 have e1 : Z = encH 1 2 D F 0 ++ Z.drop 64 := by
   refine ext_nz (by rw [List.length_append, List.length_drop]; omega) fun j hj => ?_
   by_cases h : j < 64
   · rw [nz_app_left (by omega), hz, if_neg (by omega), nz_app_left (by omega), nz_of_take h0 (by omega)]
     unfold newB
     rw [nz_app_left (by omega)]
   · rw [nz_app_right (by omega), nz_drop]
     congr 1
     omega
 have e2 : Z.drop 64 = encW [2, t, 0, 0, 0, 1] ++ Z.drop 128 := by
   refine ext_nz (by rw [List.length_append, List.length_drop, List.length_drop]; omega) fun j hj => ?_
   by_cases h : j < 64
   · rw [nz_app_left (by omega), nz_drop, hz, if_pos (by omega)]
     congr 1
     omega
   · rw [nz_app_right (by omega), nz_drop, nz_drop]
     congr 1
     omega
 have e3 : Z.drop 128 = List.replicate 64 0 ++ Z.drop 192 := by
   refine ext_nz (by rw [List.length_append, List.length_drop, List.length_drop, List.length_replicate]; omega) fun j hj => ?_
   by_cases h : j < 64
   · rw [nz_app_left (by rw [List.length_replicate]; omega), nz_drop, hz, if_neg (by omega), nz_app_left (by omega), nz_of_take h0 (by omega)]
     unfold newB
     rw [nz_app_right (by omega)]
     unfold nz
     rw [List.getD_eq_getElem?_getD, List.getD_eq_getElem?_getD, List.getElem?_replicate, List.getElem?_replicate, if_pos (by omega), if_pos (by omega)]
   · rw [nz_app_right (by rw [List.length_replicate]; omega), nz_drop, nz_drop, List.length_replicate]
     congr 1
     omega
 have hw6 : ∀ z ∈ ([2, t, 0, 0, 0, 1] : List Int), 0 <= z /\ z < 18446744073709551616 := fun z hz => by
   simp at hz
   rcases hz with rfl | rfl | rfl | rfl <;> omega
 have i1 : isS (Z.drop 64) = true := by rw [e2]; exact isS_enc rfl hw6 hrs _
 have i2 : isS (Z.drop 128) = false := by rw [e3]; exact isS_zeros _
 have hwr := wrds_enc (l := [2, t, 0, 0, 0, 1]) rfl hw6 (Z.drop 128)
 rw [<- e2, wrds_six] at hwr
 injection hwr with w0 hwr
 injection hwr with w1 hwr
 injection hwr with w2 hwr
 injection hwr with w3 hwr
 injection hwr with w4 hwr
 injection hwr with w5 hwr
 have hd1 : decS (Z.drop 64) = sV 2 t 0 0 0 1 := by unfold decS; rw [if_pos i1, w0, w1, w2, w3, w4, w5]
 have S1 : SlotIs (Z.drop 64) 2 t 0 0 0 1 true := ⟨hd1, i1, by omega, fun _ => ⟨w0.symm, by omega⟩, fun h => absurd h (by decide)⟩
 have S2 : SlotIs (Z.drop 128) 0 0 0 0 0 0 false := ⟨by unfold decS; rw [if_neg (by rw [i2]; decide)], i2, by omega, fun h => absurd h (by decide), fun _ => rfl⟩
 obtain ⟨c1, c2⟩ := (choose_code S1 S2).2 (by omega)
 obtain ⟨q0, q1, q2, q3, q4, q5⟩ := isH_enc (i := 1) (k := 2) (d := D) (f := F) (m := 0) (by omega) (by omega) (by omega) hR (Z.drop 64)
 rw [<- e1] at q0 q1 q2 q3 q4 q5
 exact ⟨⟨by unfold decH; rw [if_pos q0, q1, q2, q3, q4, q5], fun _ => hR, c1, t0, t1⟩, q0, c2⟩
end
theorem crcMake_box (w : World) : Calls Tryz.prog 11 #[] w fun e w' => ∃ G, w.heap.size <= G /\ e = .returned (.pointer (some ⟨G, 0, none⟩)) /\ IsTable w' G /\ Below w.heap.size w w' :=
 (crcMake_any w).mono fun _ _ h => ⟨_, Nat.le_refl _, h⟩
theorem MixR.own {w7 wr : World} {g c7 n i base : Nat} {was now c : List Int} {keep : Nat -> Bool} {cur : List Value} (H : MixR w7 wr g c7 n was now keep i cur c) (hb : base <= g) (hn : n <= c7) (hm : c7 <= maxLen) (hcl : c.length = n) :
 wr.ownsRow base 5 1 (.slice (some ⟨g, 0, none⟩) n c7) n (cellsOf .u8 c) :=
 ⟨by rw [cellsOf_length]; omega, .inr ⟨g, c7, _, rfl, hb, H.out, hn, hm, by have := H.len; rw [List.size_toArray]; omega, by have h := H.tk; rw [Nat.mul_one]; exact h⟩⟩
theorem encS_two {t : Int} (h8 : t % 8 = 0) : (encS 2 t 0 0 0 1).length = 64 := by
 have hrs : rightS 2 t 1 = true := by
   unfold rightS
   rw [decide_eq_true (by decide), decide_eq_true (by decide), decide_eq_true h8]; rfl
 unfold encS
 rw [if_pos hrs]
 exact encW_length rfl
section
variable {hI hM hK k d f : Int} {wx wr : World} {base : Nat} {S : Nat -> Prop} {p lim tl B n c : Nat} {bs : List Int} {R : List DR} {O : List GO} {Lr : List Int} {l : List RC} {A : Option Addr}
theorem all_told (h : ED hI hM k d f wx base S p lim bs R O Lr tl) (hE : EL R O Lr (l.map fun r => r.its.map nums)) (hob : ∀ (i : Nat) (o : GO) (r : RC), O[i]? = some o -> l[i]? = some r -> o.ws = [r.seq, r.real, r.mono, r.boot, xorL hK r.its])
 (hR : RecsR wr B A n c l) (hn : n <= 1000) :
 Calls Tryz.prog 21 #[.pointer (some ⟨p, 0, none⟩)] wx fun e w' => ∃ A' c' l', e = .returned (.slice A' n c') /\ RecsR w' w'.heap.size A' n c' l' /\ (∀ (i : Nat) (a b : RC), l'[i]? = some a -> l[i]? = some b -> a.same b = true) /\ Below wx.heap.size wx w' := by
 have hlen := hE.len
 rw [List.length_map, hR.len] at hlen
 refine (eall_any (Z := l.map (·.its)) h.toEX hE (by rw [List.map_map]; rfl) (fun zs hz s hs => by
     obtain ⟨r, hr, rfl⟩ := List.mem_map.1 hz
     exact (hR.each r hr).sz s hs) (by omega)).mono ?_
 rintro e w' ⟨v', l', rfl, ho, hl', he, hb'⟩
 obtain ⟨A', c', rfl, hR'⟩ := recs_of ho he
 have hl2 : l'.length = n := by omega
 rw [hl2] at hR' ⊢
 refine ⟨A', c', l', rfl, hR', fun i a b ha hb2 => ?_, hb'⟩
 obtain ⟨o, zs, e1, e2, e3, -⟩ := (he i a ha).ex
 have hw := hob i o b e1 hb2
 rw [List.getElem?_map, hb2] at e2
 have e2 : b.its = zs := by simpa using e2
 rw [e3]
 exact same_refl (by show o.ws.getD 0 0 = _; rw [hw]; rfl) (by show o.ws.getD 1 0 = _; rw [hw]; rfl) (by show o.ws.getD 2 0 = _; rw [hw]; rfl) (by show o.ws.getD 3 0 = _; rw [hw]; rfl) e2.symm
end
open Go.RowKit
theorem run_append_both {P : Program} (w : World) (base : Nat) (t ty e : TypeId) (i : TypeInfo) (z : Value) (bytes : Nat) (ht : P.underlying t = some (.slice e)) (hi : P.info? e = some i) (hz : i.zero = some z)
 (hsize : i.size = 1) (hby : i.bytes = bytes) (hzs : z.cells.size = 1)
 (g n cap : Nat) (xs : List Value) (hown : w.ownsRow base e 1 (.slice (some ⟨g, 0, none⟩) n cap) n xs)
 (B : Nat) (A : Option Addr) (m c : Nat) (news : List Value) (hr : Reads w B 1 A m news) (h1 : ∀ u ∈ news, u.oneCell' = true)
 (h63 : n + m <= maxLen) (hbytes : (n + m) * bytes <= 140737488355328) (hbase : base <= w.heap.size) :
 ∃ v' w', (Builtin.append_ #[t, t] ty #[.slice (some ⟨g, 0, none⟩) n cap, .slice A m c]).run P w = .ok v' w' /\ w'.ownsRow base e 1 v' (n + m) (xs ++ news) /\ w.grownBy w' (some g) /\
 (v'.ownBlock = some g ∨ v'.ownBlock = some w.heap.size) /\ w'.ownsRow base e 1 (.slice (some ⟨g, 0, none⟩) n cap) n xs := by
 obtain ⟨v', w', hrun, h2, h3, h5⟩ := run_append_any (P := P) w base t ty e i z 1 bytes ht hi hz hsize hby hzs (by omega) _ n xs hown B A m c news hr h1 h63 hbytes hbase
 refine ⟨v', w', hrun, h2, h3, h5, ?_⟩
 have hxl : xs.length = n := by have := hown.1; omega
 rcases A with _ | ad
 · have hm : m = 0 := row_nil hr
   subst hm
   have h9 := run_append_of_nil (P := P) w base t ty e i 1 ht hi _ n xs hown c
   rw [hrun] at h9
   injection h9 with _ h9
   rw [h9]; exact hown
 · have hcells : ∀ j u, news[j]? = some u -> w.cell? (ad.add j) = some u := by
     intro j u hu
     rcases Nat.eq_zero_or_pos m with h0 | h0
     · subst h0
       have hn : news = [] := List.eq_nil_of_length_eq_zero (by simpa using hr.1)
       subst hn
       simp at hu
     · obtain ⟨ad', h, _, hc⟩ := hr.2 h0
       injection h with h
       subst h
       exact hc j u hu
   by_cases hroom : n + m <= cap
   · obtain ⟨w2, hr2, ho2, -⟩ := run_append_fits (P := P) w base t ty e i 1 ht hi hsize g n cap xs hown ad m c news hr.1 hcells h1 hroom
     rw [hrun] at hr2
     injection hr2 with _ hr2
     rw [hr2]
     have := row_cut ho2 (Nat.le_add_right n m)
     rw [List.take_left' hxl] at this
     exact this
   · have holds : ∀ j u, xs[j]? = some u -> w.cell? ((⟨g, 0, none⟩ : Addr).add j) = some u := hown.cells (g := g) rfl
     have hr2 := run_append_grow (P := P) w t ty e i z ht hi hz ⟨g, 0, none⟩ n cap xs (by rw [hsize]; exact hown.1) holds ad m c news (by rw [hsize]; exact hr.1) hcells (by omega) (by simp only [maxLen] at h63; omega) (by rw [hby]; exact growslice_fits (by omega) hbytes)
     rw [hrun] at hr2
     injection hr2 with _ hr2
     rw [hr2]
     exact own_below hown ((below_drewn (Below.refl _ w) 1).alloc (Nat.le_refl _) _)
theorem step_append_both {P : Program} {w : World} {ops : Array Oper} {o : Oper} {a : Act} {K : Act -> World -> Prop} {Q : Exit -> Act -> World -> Prop} {E : Prop} (hgd : o.guard = none) (s x : Operand) (t : TypeId)
 (ho : o.op = .call { callee := .builtin .append, args := #[s, x], argTypes := #[t, t] })
   (base : Nat) (e : TypeId) (i : TypeInfo) (z : Value) (bytes : Nat) (ht : P.underlying t = some (.slice e)) (hi : P.info? e = some i) (hz : i.zero = some z)
   (hsize : i.size = 1) (hby : i.bytes = bytes) (hzs : z.cells.size = 1)
   (g n cap : Nat) (xs : List Value) (hs : a.eval s = .slice (some ⟨g, 0, none⟩) n cap) (hown : w.ownsRow base e 1 (.slice (some ⟨g, 0, none⟩) n cap) n xs)
   (B : Nat) (A : Option Addr) (m c : Nat) (news : List Value) (hx : a.eval x = .slice A m c) (hr : Reads w B 1 A m news) (h1 : ∀ u ∈ news, u.oneCell' = true)
   (h63 : n + m <= maxLen) (hbytes : (n + m) * bytes <= 140737488355328) (hbase : base <= w.heap.size)
   (h : ∀ v' w', w'.ownsRow base e 1 v' (n + m) (xs ++ news) -> w.grownBy w' (some g) -> (v'.ownBlock = some g ∨ v'.ownBlock = some w.heap.size) -> w'.ownsRow base e 1 (.slice (some ⟨g, 0, none⟩) n cap) n xs -> K (a.put o.dst v') w') :
   if Region.wanted o (yielded ops a.tmps) = true then Oper.wp P o a w K Q else E := by
 have hw : Region.wanted o (yielded ops a.tmps) = true := by simp [Region.wanted, hgd]
 rw [if_pos hw]
 obtain ⟨v', w', hrun, h2, h3, h4, h5⟩ := run_append_both (P := P) w base t o.type e i z bytes ht hi hz hsize hby hzs g n cap xs hown B A m c news hr h1 h63 hbytes hbase
 unfold Oper.wp execOp
 simp only [ho, resolve, invoke, builtin, Sem.run_bind, Sem.run_pure, Result.andThen_ok, List.map_toArray, List.map_cons, List.map_nil, hs, hx, hrun]
 exact h v' w' h2 h3 h4 h5
end Go.Proofs.YtgcmbgniaffdlaaGreat
