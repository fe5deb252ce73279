/-
  LAYER 17: what ScanReads holds: the file, and the list of the records that were put into it; each step of a round.
-/
import Derived.Test.YtjpfbkhjhainpaaGreatScFile
set_option linter.unusedVariables false
set_option maxRecDepth 100000
set_option linter.unusedSimpArgs false
namespace Go.Proofs.YtjpfbkhjhainpaaGreat
open Go.RowKit Go.Shelf

theorem grownC {W w1 : World} {tmp : Obj} {row : Option Nat} (hg : (W.alloc tmp).grownBy w1 row) : Chg (fun k => row = some k) W w1 :=
  ⟨hg.os, hg.tape, hg.output, by have := hg.size; simp at this; omega, fun k hk hn => (hg.block k (by simp; omega) (fun e => hn e.symm)).trans (Below.heap_alloc _ _ _ hk)⟩

/-- The file and the list of its records. -/
structure RcdSt (w wr : World) (S : Nat → Prop) (p lim : Nat) (bs : List Int) (R : List DR) (O : List GO) (Lr : List Int) (tl : Nat) (v : Value) (l : List RC) : Prop where
  ed : ED 4 3 2 wr w.heap.size S p lim bs R O Lr tl
  el : EL R O Lr (l.map fun r => r.its.map nums)
  ob : ∀ (i : Nat) (o : GO) (r : RC), O[i]? = some o → l[i]? = some r → o.ws = [r.seq, r.real, r.mono, r.boot, xorL 4 r.its]
  own : wr.ownsRow w.heap.size 26 5 v l.length (cellsR5 l)
  vS : ∀ g, v.ownBlock = some g → ¬ S g
  each : ∀ r ∈ l, Txt wr wr.heap.size r.A r.n r.c r.its ∧ (0 < r.n → ∀ ad, r.A = some ad → ¬ S ad.block ∧ v.ownBlock ≠ some ad.block)
  good : ∀ r ∈ l, Good64 r.its
  below : Below w.heap.size w wr
section
variable {w wr w5 w6 w' : World} {S T : Nat → Prop} {p lim : Nat} {bs bs' : List Int} {R R' : List DR} {O : List GO} {Lr Lr' : List Int} {tl tl' : Nat} {v v' : Value} {l : List RC}
theorem RcdSt.len (H : RcdSt w wr S p lim bs R O Lr tl v l) : O.length = l.length := by rw [H.el.len, List.length_map]
theorem RcdSt.vlt (H : RcdSt w wr S p lim bs R O Lr tl v l) : ∀ g, v.ownBlock = some g → w.heap.size ≤ g ∧ g < wr.heap.size := H.own.lt
/-- Made anew. -/
theorem RcdSt.start (hb : Below w.heap.size w wr) (h : ED 4 3 2 wr w.heap.size S p lim bs [] [] [] tl) : RcdSt w wr S p lim bs [] [] [] tl (.slice none 0 0) [] :=
  ⟨h, EL.nothing, fun i o r ho => by simp at ho, World.ownsRow_nil _ _ _ _, (fun g hg => by cases hg), (fun r hr => by cases hr), (fun r hr => by cases hr), hb⟩
/-- The file has turned, and is what it was. -/
theorem RcdSt.turn (H : RcdSt w wr S p lim bs R O Lr tl v l) (hF : Fp S wr T w') (h : ED 4 3 2 w' w.heap.size T p lim bs' R O Lr tl') : RcdSt w w' T p lim bs' R O Lr tl' v l := by
  have hTS : ∀ q, q < wr.heap.size → ¬ S q → ¬ T q := fun q hq hn ht => (hF.sub q ht).elim hn (fun e => by omega)
  refine ⟨h, H.el, H.ob, own_chg H.own hF.chg H.vS, fun g hg => hTS g (H.vlt g hg).2 (H.vS g hg), fun r hr => ?_, H.good, H.below.trans (hF.chg.below H.below.size (fun q _ hq => (H.ed.foot q hq).1))⟩
  obtain ⟨h1, h2⟩ := H.each r hr
  refine ⟨⟨(h1.reads.chg hF.chg (Nat.le_refl _) (fun hn ad ha => (h2 hn ad ha).1)).more hF.size, h1.le, h1.cap, h1.sz⟩, fun hn ad ha => ⟨?_, (h2 hn ad ha).2⟩⟩
  obtain ⟨ad2, ea, hb, -⟩ := h1.reads.2 hn
  rw [ha] at ea; injection ea with ea; subst ea
  exact hTS _ hb (h2 hn ad ha).1
theorem RcdSt.belowW (H : RcdSt w wr S p lim bs R O Lr tl v l) (hb : Below wr.heap.size wr w') : RcdSt w w' S p lim bs R O Lr tl v l := H.turn ((Fp.refl S wr).below hb) (H.ed.below hb)
theorem RcdSt.more (H : RcdSt w wr S p lim bs R O Lr tl v l) (ht : tl ≤ tl') : RcdSt w wr S p lim bs R O Lr tl' v l := ⟨H.ed.more ht, H.el, H.ob, H.own, H.vS, H.each, H.good, H.below⟩
/-- An entry more. -/
theorem RcdSt.next {o : GO} {rc : RC} {tmp : Obj} (H : RcdSt w wr S p lim bs R O Lr tl v l) (hF : Fp S wr T w5) (hED : ED 4 3 2 w5 w.heap.size T p lim bs' R' (O ++ [o]) Lr' tl') (hE : EL R' (O ++ [o]) Lr' ((l.map fun r => r.its.map nums) ++ [rc.its.map nums]))
    (ho : o.ws = [rc.seq, rc.real, rc.mono, rc.boot, xorL 4 rc.its]) (hT : Txt w5 w5.heap.size rc.A rc.n rc.c rc.its) (hTf : ∀ ad, rc.A = some ad → wr.heap.size ≤ ad.block ∧ ¬ T ad.block) (hG : Good64 rc.its)
    (hown : w6.ownsRow w.heap.size 26 5 v' (l.length + 1) (cellsR5 l ++ rc.cs)) (hg : (w5.alloc tmp).grownBy w6 v.ownBlock) (hat : v'.ownBlock = v.ownBlock ∨ v'.ownBlock = some (w5.alloc tmp).heap.size) :
    RcdSt w w6 T p lim bs' R' (O ++ [o]) Lr' tl' v' (l ++ [rc]) := by
  have hTS : ∀ q, q < wr.heap.size → ¬ S q → ¬ T q := fun q hq hn ht => (hF.sub q ht).elim hn (fun e => by omega)
  have hvT : ∀ g, v.ownBlock = some g → ¬ T g := fun g hg => hTS g (H.vlt g hg).2 (H.vS g hg)
  have hc := grownC hg
  have hs5 := hF.size
  have hsa : (w5.alloc tmp).heap.size = w5.heap.size + 1 := World.size_alloc _ _
  have hb5 := H.below.trans (hF.chg.below H.below.size (fun q _ hq => (H.ed.foot q hq).1))
  have hv' : ∀ g, v'.ownBlock = some g → v.ownBlock = some g ∨ w5.heap.size ≤ g := fun g hg => by
    rcases hat with e | e
    · exact .inl (by rw [← e]; exact hg)
    · rw [e] at hg; injection hg with hg; right; omega
  have hlen := H.len
  refine ⟨hED.keep hc (fun q hq e => hvT q e hq), ?_, fun i o' r' ho' hr' => ?_, ?_, fun g hg ht => ?_, fun r hr => ?_, fun r hr => ?_, ?_⟩
  · rw [List.map_append]; exact hE
  · rcases Nat.lt_or_ge i O.length with hi | hi
    · rw [List.getElem?_append_left hi] at ho'
      rw [List.getElem?_append_left (by omega)] at hr'
      exact H.ob i o' r' ho' hr'
    · rw [List.getElem?_append_right hi] at ho'
      rw [List.getElem?_append_right (by omega)] at hr'
      have h0 : i - O.length = 0 := by
        have := (List.getElem?_eq_some_iff.1 ho').1
        simp at this; omega
      have h1 : i - l.length = 0 := by omega
      rw [h0] at ho'; rw [h1] at hr'
      have e1 : o = o' := by simpa using ho'
      have e2 : rc = r' := by simpa using hr'
      subst e1; subst e2
      exact ho
  · rw [List.length_append, cellsR5_snoc]; exact hown
  · rcases hv' g hg with e | e
    · exact hvT g e ht
    · have := (hED.foot g ht).2; omega
  · rcases List.mem_append.1 hr with hr | hr
    · obtain ⟨h1, h2⟩ := H.each r hr
      have t1 := h1.reads.chg hF.chg (Nat.le_refl _) (fun hn ad ha => (h2 hn ad ha).1)
      have t2 := t1.chg hc (by omega) (fun hn ad ha e => (h2 hn ad ha).2 e)
      refine ⟨⟨t2.more (by have := hc.size; omega), h1.le, h1.cap, h1.sz⟩, fun hn ad ha => ?_⟩
      obtain ⟨ad2, ea, hb, -⟩ := h1.reads.2 hn
      rw [ha] at ea; injection ea with ea; subst ea
      refine ⟨hTS _ hb (h2 hn ad ha).1, fun e => ?_⟩
      rcases hv' _ e with e | e
      · exact (h2 hn ad ha).2 e
      · omega
    · rw [List.mem_singleton.1 hr]
      have hnv : ∀ ad, rc.A = some ad → v.ownBlock ≠ some ad.block := fun ad ha e => by
        have h1 := (H.vlt _ e).2
        have h2 := (hTf ad ha).1
        omega
      refine ⟨⟨(hT.reads.chg hc (Nat.le_refl _) (fun _ ad ha e => hnv ad ha e)).more hc.size, hT.le, hT.cap, hT.sz⟩, fun hn ad ha => ⟨(hTf ad ha).2, fun e => ?_⟩⟩
      obtain ⟨ad2, ea, hb, -⟩ := hT.reads.2 hn
      rw [ha] at ea; injection ea with ea; subst ea
      rcases hv' _ e with e | e
      · exact hnv ad ha e
      · omega
  · rcases List.mem_append.1 hr with hr | hr
    · exact H.good r hr
    · rw [List.mem_singleton.1 hr]; exact hG
  · exact hb5.trans (hc.below hb5.size (fun q _ e => (H.vlt q e).1))
/-- The list, as the document's calls read it. -/
theorem RcdSt.recs (H : RcdSt w wr S p lim bs R O Lr tl v l) : ∃ A c, v = .slice A l.length c ∧ RecsR wr wr.heap.size A l.length c l := RecsR.of_own H.own (fun r hr => (H.each r hr).1)
end

/-! ### a round's steps -/
/-- At the head of each round. -/
structure RcdAt (w wr : World) (p : Nat) (v : Value) (m k : Nat) : Prop where
  ex : ∃ S bs R O Lr l, RcdSt w wr S p 1048576 bs R O Lr (296 + 700000 * k) v l ∧ l.length = m ∧ m ≤ k
/-- Behind Add. -/
structure RcdTwo (w wr wx w3 : World) (p : Nat) (v : Value) (m k : Nat) (r : RC) : Prop where
  ex : ∃ S bs R O Lr l R' o Lr', RcdSt w wr S p 1048576 bs R O Lr (296 + 700000 * k) v l ∧ l.length = m ∧ m ≤ k ∧ Below wr.heap.size wr wx ∧ Chg S wx w3 ∧ EX 4 3 2 w3 w.heap.size (grow S wx w3) p 1048576 bs R' (O ++ [o]) Lr' (296 + 700000 * (k + 1)) 300 ∧
    EL R' (O ++ [o]) Lr' ((l.map fun r => r.its.map nums) ++ [(chkL r.its).map nums]) ∧ o.ws = [r.seq, r.real, r.mono, r.boot, xorL 4 (chkL r.its)] ∧ chkE r.its = 0
/-- Behind Done: A is where the checked items lie, g the record's box. -/
structure RcdThree (w wr w4 : World) (p : Nat) (v : Value) (m k : Nat) (r : RC) (A : Option Addr) (c g : Nat) : Prop where
  ex : ∃ S bs R O Lr l T bs' R' o Lr', RcdSt w wr S p 1048576 bs R O Lr (296 + 700000 * k) v l ∧ l.length = m ∧ m ≤ k ∧ Fp S wr T w4 ∧ ED 4 3 2 w4 w.heap.size T p 1048576 bs' R' (O ++ [o]) Lr' (296 + 700000 * (k + 1)) ∧
    EL R' (O ++ [o]) Lr' ((l.map fun r => r.its.map nums) ++ [(chkL r.its).map nums]) ∧ o.ws = [r.seq, r.real, r.mono, r.boot, xorL 4 (chkL r.its)] ∧ chkE r.its = 0 ∧ (∀ ad, A = some ad → wr.heap.size ≤ ad.block ∧ ¬ T ad.block)
  txt : Txt w4 w4.heap.size A (chkL r.its).length c (chkL r.its)
  box : Blk w4 g 26 #[.int .u64 r.seq, .int .u64 r.real, .int .u64 r.mono, .int .u64 r.boot, .slice A (chkL r.its).length c]
  lo : wr.heap.size ≤ g

section
variable {w wr wx w3 w4 : World} {p m k : Nat} {v : Value} {r : RC}
theorem RcdAt.start {bs : List Int} {S : Nat → Prop} (hb : Below w.heap.size w wr) (h : ED 4 3 2 wr w.heap.size S p 1048576 bs [] [] [] 296) : RcdAt w wr p (.slice none 0 0) 0 0 :=
  ⟨S, bs, [], [], [], [], (RcdSt.start hb h).more (by omega), rfl, Nat.le_refl _⟩
theorem RcdAt.below (H : RcdAt w wr p v m k) : Below w.heap.size w wr := by
  obtain ⟨S, bs, R, O, Lr, l, HS, -⟩ := H
  exact HS.below
theorem RcdAt.le (H : RcdAt w wr p v m k) : m ≤ k := by
  obtain ⟨S, bs, R, O, Lr, l, HS, h1, h2⟩ := H
  exact h2
theorem RcdAt.belowW (H : RcdAt w wr p v m k) (hb : Below wr.heap.size wr wx) : RcdAt w wx p v m (k + 1) := by
  obtain ⟨S, bs, R, O, Lr, l, HS, h1, h2⟩ := H
  exact ⟨S, bs, R, O, Lr, l, (HS.belowW hb).more (by omega), h1, by omega⟩
theorem RcdAt.add {ec : Int} (hec : chkE r.its = ec) (H : RcdAt w wr p v m k) (hk : k < 40) (hb : Below wr.heap.size wr wx) (hr : RCOk wx wx.heap.size r) (hn : r.n ≤ 9223372036854775807) : Calls Tryz.prog 8 #[.pointer (some ⟨p, 0, none⟩), r.v] wx fun e w3 =>
    (∃ a : Nat, e = .returned (.tuple #[.int .i64 a, .int .i64 0]) ∧ ec = 0 ∧ RcdTwo w wr wx w3 p v m k r) ∨ (∃ E : Int, e = .returned (.tuple #[.int .i64 0, .int .i64 E]) ∧ ¬ E = 0 ∧ RcdAt w w3 p v m (k + 1)) := by
  subst hec
  obtain ⟨S, bs, R, O, Lr, l, HS, h1, h2⟩ := H
  have hlen := HS.len
  refine (eadd_any (B := wx.heap.size) r hr (Nat.le_refl _) hn (HS.ed.below hb) HS.el (by omega) (by omega)).mono ?_
  rintro e w3 (⟨e1, rfl, hb3⟩ | ⟨e1, a, R', ps, rfl, ha1, ha2, hc3, hx3, hE3, hsm⟩ | ⟨e1, hlm, rfl, hc3, hD3⟩)
  · right
    exact ⟨_, rfl, e1, S, bs, R, O, Lr, l, (HS.belowW (hb.trans (hb3.mono hb.size))).more (by omega), h1, by omega⟩
  · left
    have hG := good_of_chk e1
    have hbu := budE_le R O (zs := (chkL r.its).map nums) (by rw [List.length_map]; exact hG.most)
    exact ⟨a, rfl, e1, S, bs, R, O, Lr, l, R', _, _, HS, h1, h2, hb, hc3, hx3.more (by omega) (Nat.le_refl _) (by omega), hE3, rfl, e1⟩
  · right
    refine ⟨_, rfl, by decide, _, bs, R, O, Lr, l, (HS.turn (((Fp.refl S wr).below hb).next hc3) hD3).more (by omega), h1, by omega⟩
theorem RcdTwo.done {A : Option Addr} {c g : Nat} {L : List ByteArray} (hL : chkL r.its = L) (H : RcdTwo w wr wx w3 p v m k r) (hk : k < 40) (hT : Txt wx wx.heap.size A L.length c L) (hA : ∀ ad, A = some ad → wr.heap.size ≤ ad.block) (hB : Blk wx g 26 #[.int .u64 r.seq, .int .u64 r.real, .int .u64 r.mono, .int .u64 r.boot, .slice A L.length c]) (hg : wr.heap.size ≤ g) :
    Calls Tryz.prog 9 #[.pointer (some ⟨p, 0, none⟩)] w3 fun e w4 => e = .returned (.tuple #[]) ∧ RcdThree w wr w4 p v m k r A c g := by
  subst hL
  obtain ⟨S, bs, R, O, Lr, l, R', o, Lr', HS, h1, h2, hb, hc3, hx3, hE3, hw, e1⟩ := H
  refine (done_ed hx3 (by omega)).mono ?_
  rintro e w4 ⟨rfl, hc4, bs', hD⟩
  have hF := (((Fp.refl S wr).below hb).next hc3).next hc4
  have hSf := HS.ed.foot
  have hs3 := hc3.size
  have hs4 := hc4.size
  have hnew : ∀ q, wr.heap.size ≤ q → q < wx.heap.size → ¬ S q ∧ ¬ grow S wx w3 q ∧ ¬ grow (grow S wx w3) w3 w4 q := fun q e1 e2 => by
    have hS : ¬ S q := fun e => by have := (hSf q e).2; omega
    have hG : ¬ grow S wx w3 q := fun e => e.elim hS (fun e => by omega)
    exact ⟨hS, hG, fun e => e.elim hG (fun e => by omega)⟩
  have hG := good_of_chk e1
  have hAl : ∀ ad, A = some ad → ad.block < wx.heap.size := fun ad ha => by
    obtain ⟨ad2, ea, hb2, -⟩ := hT.reads.2 hG.pos
    rw [ha] at ea; injection ea with ea; subst ea; exact hb2
  have hT3 := hT.chg hc3 (Nat.le_refl _) (fun ad ha => (hnew _ (hA ad ha) (hAl ad ha)).1)
  have hT4 := hT3.chg hc4 hs3 (fun ad ha => (hnew _ (hA ad ha) (hAl ad ha)).2.1)
  have hB4 := (hB.chg hc3 (hnew _ hg hB.lt).1).chg hc4 (hnew _ hg hB.lt).2.1
  exact ⟨rfl, ⟨⟨S, bs, R, O, Lr, l, _, bs', R', o, Lr', HS, h1, h2, hF, hD, hE3, hw, e1, fun ad ha => ⟨hA ad ha, (hnew _ (hA ad ha) (hAl ad ha)).2.2⟩⟩, hT4.more (by omega), hB4, hg⟩⟩
theorem RcdThree.next {A : Option Addr} {c g : Nat} {L : List ByteArray} (hL : chkL r.its = L) (H : RcdThree w wr w4 p v m k r A c g) : Blk w4 g 26 #[.int .u64 r.seq, .int .u64 r.real, .int .u64 r.mono, .int .u64 r.boot, .slice A L.length c] ∧ ∃ cs : List Value, w4.ownsRow w.heap.size 26 5 v m cs ∧ w.heap.size ≤ w4.heap.size ∧
    ∀ (w6 : World) (v' : Value) (tmp : Obj), w6.ownsRow w.heap.size 26 5 v' (m + 1) (cs ++ [.int .u64 r.seq, .int .u64 r.real, .int .u64 r.mono, .int .u64 r.boot, .slice A L.length c]) → (w4.alloc tmp).grownBy w6 v.ownBlock → (v'.ownBlock = v.ownBlock ∨ v'.ownBlock = some (w4.alloc tmp).heap.size) →
      RcdAt w w6 p v' (m + 1) (k + 1) := by
  subst hL
  obtain ⟨⟨S, bs, R, O, Lr, l, T, bs', R', o, Lr', HS, h1, h2, hF, hD, hE, hw, e1, hA⟩, hT, hB, hlo⟩ := H
  subst h1
  have hrow4 := own_chg HS.own hF.chg HS.vS
  refine ⟨hB, cellsR5 l, hrow4, hD.bas, fun w6 v' tmp hown hg hat => ?_⟩
  exact ⟨T, bs', R', O ++ [o], Lr', l ++ [⟨r.seq, r.real, r.mono, r.boot, A, (chkL r.its).length, c, chkL r.its⟩], HS.next (rc := ⟨r.seq, r.real, r.mono, r.boot, A, (chkL r.its).length, c, chkL r.its⟩) hF hD hE hw hT hA (good_of_chk e1) hown hg hat, by simp, by omega⟩

/-- At the end: the file, as scan reads it. -/
structure RcdEnd (wr : World) (p m : Nat) (A : Option Addr) (c : Nat) (bs : List Int) (L : List SR) (l : List RC) : Prop where
  by_ : AreB bs
  most : bs.length ≤ 1099511627776
  bytes : ∀ wx, Below wr.heap.size wr wx → Calls Tryz.prog 11 #[.pointer (some ⟨p, 0, none⟩)] wx (Told bs wx)
  tail : ∀ wx, Below wr.heap.size wr wx → Calls Tryz.prog 13 #[.pointer (some ⟨p, 0, none⟩)] wx fun e w' => e = .returned (.int .i64 bs.length) ∧ wx = w'
  recs : RecsR wr wr.heap.size A m c l
  scan : scanAt bs 296 L
  last : lastE 296 L = bs.length
  ok : ∀ r ∈ entsS L, OkE bs 296 r
  ens : EnsR bs (entsS L) l
  len : l.length = m
theorem RcdAt.fin (H : RcdAt w wr p v m k) (hk : k ≤ 40) : ∃ A c bs L l, v = .slice A m c ∧ RcdEnd wr p m A c bs L l := by
  obtain ⟨S, bs, R, O, Lr, l, HS, h1, h2⟩ := H
  subst h1
  obtain ⟨A, c, e, hR⟩ := HS.recs
  have hE := HS.el
  have hob := HS.ob
  have hD := HS.ed
  obtain ⟨⟨im, bv, sv, lg, hX, V, hg, hl, hw, hb, hn⟩, hs, hk2⟩ := id hD
  subst hb
  obtain ⟨L, hL1, hL2, hL3⟩ := V.scan
  have e0 : ((newK 3 2 : Nat) : Int) = 296 := by decide
  rw [e0] at hL1 hL2
  refine ⟨A, c, im.b, L, l, e, ⟨hD.bytes, hs.2.1, fun wx hb => bytes_ed (hD.below hb), fun wx hb => ?_, hR, hL1, hL2, fun r hr => ?_, ?_, rfl⟩⟩
  · have hX2 := hX.below hb
    obtain ⟨A2, c2, e2, -, -, -⟩ := hX2.reads
    obtain ⟨⟨-, -, -, -, -, -, c6, -, -⟩, -⟩ := nine hX2.blk
    rw [e2] at c6
    exact itail_any p _ A2 c2 wx c6
  · rw [hL3] at hr
    obtain ⟨o, ho, rfl⟩ := List.mem_map.1 hr
    have h9 := V.okE hE ho
    rw [e0] at h9
    exact h9
  · rw [hL3]
    exact V.ensR hE hob
end

/-! ### a file made anew -/
def freshR : IM := ⟨newB 0 4 3 2 0, newB 0 4 3 2 0, [], 1048576⟩
theorem freshR_len : freshR.b.length = 296 := newB_length (k := 4) (d := 3) (f := 2) (by decide)
theorem freshR_good : freshR.Good := IM.good_new (newB_bytes _ _ _ _ _) 1048576
theorem freshR_db : DB fldI 4 3 2 0 0 freshR.b [] := DB.nothing (by decide) (by decide) freshR_len (fun j hj => nz_newB1 (by omega))
theorem freshR_ed {base p : Nat} {w w' : World} {bv sv : Value} (hb : Below w.heap.size w w') (h : IX w' base (fun j => w.heap.size ≤ j ∧ j < w'.heap.size) p 0 4 3 2 0 freshR bv sv) : ED 4 3 2 w' base (fun j => w.heap.size ≤ j ∧ j < w'.heap.size) p 1048576 freshR.b [] [] [] 296 := by
  have hlen := freshR_len
  exact ⟨⟨freshR, bv, sv, [], h, EV.nothing (by decide) (by decide) freshR_db, freshR_good, rfl, rfl, rfl, rfl⟩, ⟨Nat.le_refl _, by omega, by omega⟩, ⟨by omega, by omega⟩⟩

theorem InRC.below {w wx : World} {A : Option Addr} {n c : Nat} {l : List RC} (h : InRC w A n c l) (hb : Below w.heap.size w wx) : InRC wx A n c l :=
  ⟨h.length, h.le, h.cap, fun x hx => ((h.ok x hx).below hb).more hb.size, fun hn => by
    obtain ⟨b, off, e, hbl, hc⟩ := h.cells hn
    refine ⟨b, off, e, Nat.lt_of_lt_of_le hbl hb.size, fun i x hi => ?_⟩
    obtain ⟨h0, h1, h2, h3, h4⟩ := hc i x hi
    have g : ∀ o, wx.cell? ⟨b, o, none⟩ = w.cell? ⟨b, o, none⟩ := fun o => hb.cell (p := ⟨b, o, none⟩) hbl
    exact ⟨(g _).trans h0, (g _).trans h1, (g _).trans h2, (g _).trans h3, (g _).trans h4⟩⟩
/-- Behind Checked: the record's box is made. -/
structure ChkBox (wr w1 wx : World) (r : RC) (L : List ByteArray) (B : Option Addr) (d : Nat) : Prop where
  below : Below wr.heap.size wr wx
  txt : Txt wx wx.heap.size B L.length d L
  fr : ∀ ad, B = some ad → wr.heap.size ≤ ad.block
  lo : wr.heap.size ≤ w1.heap.size
  box : Blk wx w1.heap.size 26 #[.int .u64 r.seq, .int .u64 r.real, .int .u64 r.mono, .int .u64 r.boot, .slice B L.length d]
theorem ChkBox.make {wr w1 : World} {r : RC} {L : List ByteArray} {B : Option Addr} {d : Nat} (ht : Txt w1 w1.heap.size B L.length d L) (hb : Below wr.heap.size wr w1) (hf : ∀ ad, B = some ad → wr.heap.size ≤ ad.block) :
    ChkBox wr w1 (w1.alloc (.cells #[.int .u64 r.seq, .int .u64 r.real, .int .u64 r.mono, .int .u64 r.boot, .slice B L.length d] 26)) r L B d :=
  ⟨hb.alloc hb.size _, (ht.below (boxed w1 _)).more (boxed w1 _).size, hf, hb.size, Blk.new w1 _ _⟩

end Go.Proofs.YtjpfbkhjhainpaaGreat
