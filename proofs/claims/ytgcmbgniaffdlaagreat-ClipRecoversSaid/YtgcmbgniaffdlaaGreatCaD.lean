import Derived.Test.YtgcmbgniaffdlaaGreatCaC
import Derived.Test.YtgcmbgniaffdlaaGreatEaB
set_option linter.unusedVariables false
set_option maxRecDepth 100000
set_option linter.unusedSimpArgs false
namespace Go.Proofs.YtgcmbgniaffdlaaGreat
open Go.RowKit Go.Shelf
attribute [local go_sem] Oper.semAt_some
theorem splice_none (cur : List Value) (q : Nat) (h : q <= cur.length) : splice cur q [] = cur := by simp [splice]
section
variable {w0 wr w1 : World} {g9 c9 T b10 : Nat} {v10 v11 v' : Value} {ws ct : List Nat} {cur : List Value}
end
attribute [local go_sem] Oper.semAt_some
theorem grownC {W w1 : World} {tmp : Obj} {row : Option Nat} (hg : (W.alloc tmp).grownBy w1 row) : Chg (fun k => row = some k) W w1 :=
 ⟨hg.os, hg.tape, hg.output, by have := hg.size; simp at this; omega, fun k hk hn => (hg.block k (by simp; omega) (fun e => hn e.symm)).trans (Below.heap_alloc _ _ _ hk)⟩
structure WantAt (w wr : World) (S : Nat -> Prop) (v : Value) (l : List RC) : Prop where
 own : wr.ownsRow w.heap.size 39 5 v l.length (cellsR5 l)
 vS : ∀ g, v.ownBlock = some g -> ¬ S g
 each : ∀ r ∈ l, Txt wr wr.heap.size r.A r.n r.c r.its /\ (0 < r.n -> ∀ ad, r.A = some ad -> ¬ S ad.block /\ v.ownBlock ≠ some ad.block)
 good : ∀ r ∈ l, Good64 r.its
 below : Below w.heap.size w wr
 foot : ∀ q, S q -> w.heap.size <= q /\ q < wr.heap.size
section
variable {w wr w5 w6 w' : World} {S T : Nat -> Prop} {v v' : Value} {l : List RC}
theorem WantAt.start (hb : Below w.heap.size w wr) (hS : ∀ q, S q -> w.heap.size <= q /\ q < wr.heap.size) : WantAt w wr S (.slice none 0 0) [] :=
 ⟨World.ownsRow_nil _ _ _ _, (fun g hg => by cases hg), (fun r hr => by cases hr), (fun r hr => by cases hr), hb, hS⟩
theorem WantAt.turn (H : WantAt w wr S v l) (hF : Fp S wr T w') (hT : ∀ q, T q -> w.heap.size <= q /\ q < w'.heap.size) : WantAt w w' T v l := by
 have hTS : ∀ q, q < wr.heap.size -> ¬ S q -> ¬ T q := fun q hq hn ht => (hF.sub q ht).elim hn (fun e => by omega)
 refine ⟨own_chg H.own hF.chg H.vS, fun g hg => hTS g (H.own.lt g hg).2 (H.vS g hg), fun r hr => ?_, H.good, H.below.trans (hF.chg.below H.below.size (fun q _ hq => (H.foot q hq).1)), hT⟩
 obtain ⟨h1, h2⟩ := H.each r hr
 refine ⟨⟨(h1.reads.chg hF.chg (Nat.le_refl _) (fun hn ad ha => (h2 hn ad ha).1)).more hF.size, h1.le, h1.cap, h1.sz⟩, fun hn ad ha => ⟨?_, (h2 hn ad ha).2⟩⟩
 obtain ⟨ad2, ea, hb, -⟩ := h1.reads.2 hn
 rw [ha] at ea; injection ea with ea; subst ea
 exact hTS _ hb (h2 hn ad ha).1
theorem WantAt.belowW (H : WantAt w wr S v l) (hb : Below wr.heap.size wr w') : WantAt w w' S v l := H.turn ((Fp.refl S wr).below hb) (fun q hq => ⟨(H.foot q hq).1, Nat.lt_of_lt_of_le (H.foot q hq).2 hb.size⟩)
theorem WantAt.next {rc : RC} {tmp : Obj} (H : WantAt w wr S v l) (hF : Fp S wr T w5) (hTw : ∀ q, T q -> w.heap.size <= q /\ q < w5.heap.size) (hT : Txt w5 w5.heap.size rc.A rc.n rc.c rc.its) (hTf : ∀ ad, rc.A = some ad -> wr.heap.size <= ad.block /\ ¬ T ad.block) (hG : Good64 rc.its)
 (hown : w6.ownsRow w.heap.size 39 5 v' (l.length + 1) (cellsR5 l ++ rc.cs)) (hg : (w5.alloc tmp).grownBy w6 v.ownBlock) (hat : v'.ownBlock = v.ownBlock ∨ v'.ownBlock = some (w5.alloc tmp).heap.size) : WantAt w w6 T v' (l ++ [rc]) := by
 have hTS : ∀ q, q < wr.heap.size -> ¬ S q -> ¬ T q := fun q hq hn ht => (hF.sub q ht).elim hn (fun e => by omega)
 have hvT : ∀ g, v.ownBlock = some g -> ¬ T g := fun g hg => hTS g (H.own.lt g hg).2 (H.vS g hg)
 have hc := grownC hg
 have hs5 := hF.size
 have hsc := hc.size
 have hsa : (w5.alloc tmp).heap.size = w5.heap.size + 1 := World.size_alloc _ _
 have hb5 := H.below.trans (hF.chg.below H.below.size (fun q _ hq => (H.foot q hq).1))
 have hv' : ∀ g, v'.ownBlock = some g -> v.ownBlock = some g ∨ w5.heap.size <= g := fun g hg => by
   rcases hat with e | e
   · exact .inl (by rw [<- e]; exact hg)
   · rw [e] at hg; injection hg with hg; right; omega
 refine ⟨?_, fun g hg ht => ?_, fun r hr => ?_, fun r hr => ?_, ?_, fun q hq => ⟨(hTw q hq).1, Nat.lt_of_lt_of_le (hTw q hq).2 hsc⟩⟩
 · rw [List.length_append, cellsR5_snoc]; exact hown
 · rcases hv' g hg with e | e
   · exact hvT g e ht
   · have := (hTw g ht).2; omega
 · rcases List.mem_append.1 hr with hr | hr
   · obtain ⟨h1, h2⟩ := H.each r hr
     have t1 := h1.reads.chg hF.chg (Nat.le_refl _) (fun hn ad ha => (h2 hn ad ha).1)
     have t2 := t1.chg hc (by omega) (fun hn ad ha e => (h2 hn ad ha).2 e)
     refine ⟨⟨t2.more (by omega), h1.le, h1.cap, h1.sz⟩, fun hn ad ha => ?_⟩
     obtain ⟨ad2, ea, hb, -⟩ := h1.reads.2 hn
     rw [ha] at ea; injection ea with ea; subst ea
     refine ⟨hTS _ hb (h2 hn ad ha).1, fun e => ?_⟩
     rcases hv' _ e with e | e
     · exact (h2 hn ad ha).2 e
     · omega
   · rw [List.mem_singleton.1 hr]
     have hnv : ∀ ad, rc.A = some ad -> v.ownBlock ≠ some ad.block := fun ad ha e => by
       have h1 := (H.own.lt _ e).2
       have h2 := (hTf ad ha).1
       omega
     refine ⟨⟨(hT.reads.chg hc (Nat.le_refl _) (fun _ ad ha e => hnv ad ha e)).more hc.size, hT.le, hT.cap, hT.sz⟩, fun hn ad ha => ⟨(hTf ad ha).2, fun e => ?_⟩⟩
     obtain ⟨ad2, ea, hb, -⟩ := hT.reads.2 hn
     rw [ha] at ea; injection ea with ea; subst ea
     rcases hv' _ e with e | e
     · exact hnv ad ha e
     · omega
 · rcases List.mem_append.1 hr with hr | hr
   · exact H.good r hr
   · rw [List.mem_singleton.1 hr]; exact hG
 · exact hb5.trans (hc.below hb5.size (fun q _ e => (H.own.lt q e).1))
theorem WantAt.recs (H : WantAt w wr S v l) : ∃ A c, v = .slice A l.length c /\ RecsR wr wr.heap.size A l.length c l := RecsR.of_own H.own (fun r hr => (H.each r hr).1)
end
structure ClFile (hI hM hK hD hF : Int) (w wr : World) (p t0 : Nat) (b0 : List Int) (S : Nat -> Prop) (bs : List Int) (R : List DR) (O : List GO) (Lr : List Int) (k : Nat) (l : List RC) : Prop where
 ed : ED hI hM hK hD hF wr w.heap.size S p 1048576 bs R O Lr (t0 + 700000 * k)
 el : EL R O Lr (l.map fun r => r.its.map nums)
 ob : ∀ (i : Nat) (o : GO) (r : RC), O[i]? = some o -> l[i]? = some r -> o.ws = [r.seq, r.real, r.mono, r.boot, xorL hK r.its]
 late : ∃ L, Later (newK hD hF) b0 bs L
theorem EL.ob_snoc {hK : Int} {O : List GO} {l : List RC} {o : GO} {rc : RC} (hlen : O.length = l.length) (h : ∀ (i : Nat) (o : GO) (r : RC), O[i]? = some o -> l[i]? = some r -> o.ws = [r.seq, r.real, r.mono, r.boot, xorL hK r.its]) (ho : o.ws = [rc.seq, rc.real, rc.mono, rc.boot, xorL hK rc.its]) :
 ∀ (i : Nat) (o' : GO) (r' : RC), (O ++ [o])[i]? = some o' -> (l ++ [rc])[i]? = some r' -> o'.ws = [r'.seq, r'.real, r'.mono, r'.boot, xorL hK r'.its] := fun i o' r' ho' hr' => by
 rcases Nat.lt_or_ge i O.length with hi | hi
 · rw [List.getElem?_append_left hi] at ho'
   rw [List.getElem?_append_left (by omega)] at hr'
   exact h i o' r' ho' hr'
 · rw [List.getElem?_append_right hi] at ho'
   rw [List.getElem?_append_right (by omega)] at hr'
   have h0 : i - O.length = 0 := by
     have := (List.getElem?_eq_some_iff.1 ho').1
     simp at this; omega
   have h1 : i - l.length = 0 := by omega
   rw [h0] at ho'; rw [h1] at hr'
   have e1 : o = o' := by simpa using ho'
   have e2 : rc = r' := by simpa using hr'
   subst e1; subst e2
   exact ho
structure ClAt (hI hM hK hD hF : Int) (w wr : World) (p t0 : Nat) (b0 : List Int) (v : Value) (m k : Nat) : Prop where
 ex : ∃ S bs R O Lr l, ClFile hI hM hK hD hF w wr p t0 b0 S bs R O Lr k l /\ WantAt w wr S v l /\ l.length = m /\ m <= k
structure ClTwo (hI hM hK hD hF : Int) (w wr wx w3 : World) (p t0 : Nat) (b0 : List Int) (v : Value) (m k : Nat) (r : RC) : Prop where
 ex : ∃ S bs R O Lr l R' o Lr', ClFile hI hM hK hD hF w wr p t0 b0 S bs R O Lr k l /\ WantAt w wr S v l /\ l.length = m /\ m <= k /\ Below wr.heap.size wr wx /\ Chg S wx w3 /\ EX hI hM hK hD hF w3 w.heap.size (grow S wx w3) p 1048576 bs R' (O ++ [o]) Lr' (t0 + 700000 * (k + 1)) 300 /\
   EL R' (O ++ [o]) Lr' ((l.map fun r => r.its.map nums) ++ [(chkL r.its).map nums]) /\ o.ws = [r.seq, r.real, r.mono, r.boot, xorL hK (chkL r.its)] /\ chkE r.its = 0
section
variable {hI hM hK hD hF : Int} {w wr wx w3 w4 : World} {p t0 m k : Nat} {b0 : List Int} {v : Value} {r : RC}
theorem ClAt.start {bs : List Int} {S : Nat -> Prop} {L : List SR} (hb : Below w.heap.size w wr) (h : ED hI hM hK hD hF wr w.heap.size S p 1048576 bs [] [] [] t0) (hL : Later (newK hD hF) b0 bs L) : ClAt hI hM hK hD hF w wr p t0 b0 (.slice none 0 0) 0 0 :=
 ⟨S, bs, [], [], [], [], ⟨h.more (by omega), EL.nothing, (fun i o r ho => by simp at ho), L, hL⟩, WantAt.start hb h.foot, rfl, Nat.le_refl _⟩
theorem ClAt.below (H : ClAt hI hM hK hD hF w wr p t0 b0 v m k) : Below w.heap.size w wr := by
 obtain ⟨S, bs, R, O, Lr, l, -, HW, -⟩ := H
 exact HW.below
theorem ClAt.le (H : ClAt hI hM hK hD hF w wr p t0 b0 v m k) : m <= k := by
 obtain ⟨S, bs, R, O, Lr, l, -, -, -, h⟩ := H
 exact h
theorem ClAt.add {ec : Int} (hec : chkE r.its = ec) (H : ClAt hI hM hK hD hF w wr p t0 b0 v m k) (ht0 : t0 <= 100000) (hk : k < 40) (hb : Below wr.heap.size wr wx) (hr : RCOk wx wx.heap.size r) (hn : r.n <= 9223372036854775807) : Calls Tryz.prog 13 #[.pointer (some ⟨p, 0, none⟩), r.v] wx fun e w3 =>
   (∃ a : Nat, e = .returned (.tuple #[.int .i64 a, .int .i64 0]) /\ ec = 0 /\ ClTwo hI hM hK hD hF w wr wx w3 p t0 b0 v m k r) ∨ (∃ E : Int, e = .returned (.tuple #[.int .i64 0, .int .i64 E]) /\ ¬ E = 0 /\ ClAt hI hM hK hD hF w w3 p t0 b0 v m (k + 1)) := by
 subst hec
 obtain ⟨S, bs, R, O, Lr, l, HF, HW, h1, h2⟩ := H
 have hlen := HF.el.len
 rw [List.length_map] at hlen
 refine (eadd_any (B := wx.heap.size) r hr (Nat.le_refl _) hn (HF.ed.below hb) HF.el (by omega) (by omega)).mono ?_
 rintro e w3 (⟨e1, rfl, hb3⟩ | ⟨e1, a, R', ps, rfl, ha1, ha2, hc3, hx3, hE3, hsm⟩ | ⟨e1, hlm, rfl, hc3, hD3⟩)
 · right
   have hbb := hb.trans (hb3.mono hb.size)
   exact ⟨_, rfl, e1, S, bs, R, O, Lr, l, ⟨(HF.ed.below hbb).more (by omega), HF.el, HF.ob, HF.late⟩, HW.belowW hbb, h1, by omega⟩
 · left
   have hG := good_of_chk e1
   have hbu := budE_le R O (zs := (chkL r.its).map nums) (by rw [List.length_map]; exact hG.most)
   exact ⟨a, rfl, e1, S, bs, R, O, Lr, l, R', _, _, HF, HW, h1, h2, hb, hc3, hx3.more (by omega) (Nat.le_refl _) (by omega), hE3, rfl, e1⟩
 · right
   refine ⟨_, rfl, by decide, _, bs, R, O, Lr, l, ⟨hD3.more (by omega), HF.el, HF.ob, HF.late⟩, HW.turn (((Fp.refl S wr).below hb).next hc3) hD3.foot, h1, by omega⟩
end
section
variable {hI hM hK hD hF : Int} {w wr wx w3 w4 : World} {p t0 m k : Nat} {b0 was : List Int} {v : Value} {l : List RC} {r : RC}
end
theorem cutF_same (t : Int) : ∀ (ws : List Nat) (s : List Int × List Nat), s.2.length <= (cutF t ws s).2.length /\ ((cutF t ws s).2.length = s.2.length -> (cutF t ws s).1 = s.1)
 | [], s => ⟨Nat.le_refl _, fun _ => rfl⟩
 | w :: ws, s => by
   show s.2.length <= (cutF t ws (if t <= gnum s.1 (w : Nat) 8 then (splice s.1 w (List.replicate 8 0), s.2 ++ [w]) else s)).2.length /\ ((cutF t ws (if t <= gnum s.1 (w : Nat) 8 then (splice s.1 w (List.replicate 8 0), s.2 ++ [w]) else s)).2.length = s.2.length -> (cutF t ws (if t <= gnum s.1 (w : Nat) 8 then (splice s.1 w (List.replicate 8 0), s.2 ++ [w]) else s)).1 = s.1)
   by_cases h : t <= gnum s.1 (w : Nat) 8
   · rw [if_pos h]
     have h1 := (cutF_same t ws (splice s.1 w (List.replicate 8 0), s.2 ++ [w])).1
     have h2 : (s.2 ++ [w]).length <= (cutF t ws (splice s.1 w (List.replicate 8 0), s.2 ++ [w])).2.length := h1
     rw [List.length_append, List.length_singleton] at h2
     exact ⟨by omega, fun h3 => by omega⟩
   · rw [if_neg h]; exact cutF_same t ws s
section
variable {k d f : Int} {b0 b1 : List Int} {l0 l1 : List GO} {R0 R1 : List DR} {O0 O1 : List GO} {Lr0 Lr1 : List Int}
theorem EV.one_array {b : List Int} {l : List GO} {R : List DR} {O : List GO} {Lr : List Int} (V : EV k d f b l R O Lr) (h1 : 1 <= Lr.length) (h4 : Lr.length <= 4) : ∃ r, r ∈ l /\ r.its = Lr ++ List.replicate (4 - Lr.length) 0 /\ gnum b (192 : Nat) 8 = r.at_ := by
 have hR := V.root
 have hC : Ch b l 192 0 (pArr 192 0) := V.db.arrs 192 (.inl rfl)
 unfold Ch at hC
 have e : arrsG l 192 = l.filter (pArr 192 0) := rfl
 rw [<- e] at hC
 match hc : arrsG l 192 with
 | [] =>
   rw [hc] at hR
   have h9 : Lr.length <= 0 := hR.most
   omega
 | [r] =>
   rw [hc] at hR hC
   have hm : r ∈ arrsG l 192 := by rw [hc]; simp
   refine ⟨r, (List.mem_filter.1 hm).1, ?_, hC.1⟩
   have h9 := hR.cat
   have e1 : catA ([r].map GO.arow) = r.its := by simp [catA, GO.arow]
   rw [e1] at h9
   have e2 : roomC ([r].map GO.arow).length = 4 := rfl
   rw [e2] at h9
   exact h9
 | r :: q :: c =>
   rw [hc] at hR
   have h9 := hR.last (by simp)
   rw [List.length_map, List.length_cons, List.length_cons, Nat.add_sub_cancel] at h9
   have hz := (sizeC_bd c.length).1
   unfold roomC at h9
   omega
theorem few_differ (V0 : EV k d f b0 l0 R0 O0 Lr0) (V1 : EV k d f b1 l1 R1 O1 Lr1) (h0 : Lr0.length = 1) (h1 : Lr1.length = 2) (hl : b0.length <= b1.length) (hb : b0 = b1.take b0.length) : False := by
 obtain ⟨r0, m0, i0, g0⟩ := V0.one_array (by omega) (by omega)
 obtain ⟨r1, m1, i1, g1⟩ := V1.one_array (by omega) (by omega)
 have hlow := V0.db.gb.low
 have hk := newK_low d f V0.db.hD V0.db.hF
 have e : gnum b1 (192 : Nat) 8 = gnum b0 (192 : Nat) 8 := gnum_nz (by omega) (by omega) (fun j j1 j2 => by
   have : nz b0 j = nz (b1.take b0.length) j := by rw [<- hb]
   rw [this, nz_take, if_pos (by omega)])
 have s0 := V0.db.gb.srG m0
 have s1 := V1.db.gb.srG m1
 have hi := s0.is_
 have hroom := hi.room
 have hi2 : (srG b0 r0).Is (b1.take b0.length) := by rw [<- hb]; exact hi
 obtain ⟨hi3, -⟩ := (SR.is_take hl).1 hi2
 have heq : srG b0 r0 = srG b1 r1 := hi3.same s1.is_ (by show r0.at_ = r1.at_; omega)
 have hits : r0.its = r1.its := by
   rw [<- s0.its, <- s1.its, <- heq]
   have h9 : (srG b0 r0).its (b1.take b0.length) = (srG b0 r0).its b1 := its_take (by omega)
   rw [<- hb] at h9
   exact h9
 rw [i0, i1] at hits
 match Lr0, h0, Lr1, h1 with
 | [x], _, [y, z], _ =>
   have hz := V1.root.nz z (by simp)
   simp at hits
   exact hz hits.2.symm
end
end Go.Proofs.YtgcmbgniaffdlaaGreat
