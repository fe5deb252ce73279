/-
  LAYER 16: what EntryItems holds in its first loop: the file, the records, all their items.
-/
import Derived.Test.YtobbkhncnokpiaaGreatEnSt
set_option linter.unusedVariables false
set_option maxRecDepth 100000
set_option linter.unusedSimpArgs false
namespace Go.Proofs.YtobbkhncnokpiaaGreat
open Go.RowKit Go.Shelf

theorem grownC0 {W w1 : World} {row : Option Nat} (hg : W.grownBy w1 row) : Chg (fun k => row = some k) W w1 :=
  ⟨hg.os, hg.tape, hg.output, hg.size, fun k hk hn => hg.block k hk (fun e => hn e.symm)⟩
section
variable {w wr w' : World} {S T : Nat → Prop} {p lim : Nat} {bs : List Int} {R : List DR} {O : List GO} {Lr : List Int} {tl : Nat} {v vi : Value} {l : List RC}
theorem EnSt.chgT {T' : Nat → Prop} (H : EnSt w wr S p lim bs R O Lr tl v l) (hc : Chg T' wr w') (hS : ∀ q, S q → ¬ T' q) (hv : ∀ g, v.ownBlock = some g → ¬ T' g) (he : ∀ r ∈ l, 0 < r.n → ∀ ad, r.A = some ad → ¬ T' ad.block)
    (hb : ∀ q, q < wr.heap.size → T' q → w.heap.size ≤ q) : EnSt w w' S p lim bs R O Lr tl v l := by
  refine ⟨H.ed.keep hc hS, H.el, H.ob, own_chg H.own hc hv, H.vS, fun r hr => ?_, H.good, H.below.trans (hc.below H.below.size hb)⟩
  obtain ⟨h1, h2⟩ := H.each r hr
  exact ⟨⟨(h1.reads.chg hc (Nat.le_refl _) (fun hn ad ha => he r hr hn ad ha)).more hc.size, h1.le, h1.cap, h1.sz⟩, h2⟩

/-- All items of records. -/
def itsOf (l : List RC) : List ByteArray := (l.map (·.its)).flatten
theorem itsOf_snoc (l : List RC) (r : RC) : itsOf (l ++ [r]) = itsOf l ++ r.its := by simp [itsOf]
theorem itsOf_len {l : List RC} (h : ∀ r ∈ l, r.its.length ≤ 64) : (itsOf l).length ≤ 64 * l.length := by
  induction l with
  | nil => simp [itsOf]
  | cons r l ih =>
    have h1 := ih (fun q hq => h q (List.mem_cons_of_mem _ hq))
    have h2 := h r (List.mem_cons_self ..)
    unfold itsOf at h1 ⊢
    rw [List.map_cons, List.flatten_cons, List.length_append, List.length_cons]
    omega
theorem itsOf_mem {l : List RC} {s : ByteArray} : s ∈ itsOf l ↔ ∃ r ∈ l, s ∈ r.its := by
  unfold itsOf
  rw [List.mem_flatten]
  constructor
  · rintro ⟨z, hz, hs⟩
    obtain ⟨r, hr, rfl⟩ := List.mem_map.1 hz
    exact ⟨r, hr, hs⟩
  · rintro ⟨r, hr, hs⟩
    exact ⟨_, List.mem_map.2 ⟨r, hr, rfl⟩, hs⟩

structure ItSt (w wr : World) (S : Nat → Prop) (p : Nat) (bs : List Int) (R : List DR) (O : List GO) (Lr : List Int) (tl : Nat) (v vi : Value) (l : List RC) : Prop where
  st : EnSt w wr S p 1048576 bs R O Lr tl v l
  own : wr.ownsRow w.heap.size 9 1 vi (itsOf l).length (cellsT (itsOf l))
  viS : ∀ g, vi.ownBlock = some g → ¬ S g ∧ v.ownBlock ≠ some g
  sep : ∀ r ∈ l, 0 < r.n → ∀ ad, r.A = some ad → vi.ownBlock ≠ some ad.block
  all : ∀ y, (findD R y).isSome = true → ∃ q ∈ l, y ∈ q.its.map nums
theorem ItSt.turn {bs' : List Int} {tl' : Nat} (H : ItSt w wr S p bs R O Lr tl v vi l) (hF : Fp S wr T w') (h : ED 3 4 2 w' w.heap.size T p 1048576 bs' R O Lr tl') : ItSt w w' T p bs' R O Lr tl' v vi l :=
  ⟨H.st.turn hF h, own_chg H.own hF.chg (fun g hg => (H.viS g hg).1), fun g hg => ⟨fun ht => (hF.sub g ht).elim (H.viS g hg).1 (fun e => by have := (H.own.lt g hg).2; omega), (H.viS g hg).2⟩, H.sep, H.all⟩
theorem ItSt.belowW (H : ItSt w wr S p bs R O Lr tl v vi l) (hb : Below wr.heap.size wr w') : ItSt w w' S p bs R O Lr tl v vi l :=
  ⟨H.st.belowW hb, own_below H.own hb, H.viS, H.sep, H.all⟩
theorem ItSt.more {tl' : Nat} (H : ItSt w wr S p bs R O Lr tl v vi l) (ht : tl ≤ tl') : ItSt w wr S p bs R O Lr tl' v vi l := ⟨H.st.more ht, H.own, H.viS, H.sep, H.all⟩
end

/-- At the head of each round. -/
structure ItAt (w wr : World) (p : Nat) (v vi : Value) (m N k : Nat) : Prop where
  ex : ∃ S bs R O Lr l, ItSt w wr S p bs R O Lr (304 + 700000 * k) v vi l ∧ l.length = m ∧ m ≤ k ∧ (itsOf l).length = N ∧ N ≤ 64 * m
/-- Behind Add. -/
structure ItTwo (w wr wx w3 : World) (p : Nat) (v vi : Value) (m N k : Nat) (r : RC) : Prop where
  ex : ∃ S bs R O Lr l R' o Lr', ItSt w wr S p bs R O Lr (304 + 700000 * k) v vi l ∧ l.length = m ∧ m ≤ k ∧ (itsOf l).length = N ∧ N ≤ 64 * m ∧ Below wr.heap.size wr wx ∧ Chg S wx w3 ∧ EX 3 4 2 w3 w.heap.size (grow S wx w3) p 1048576 bs R' (O ++ [o]) Lr' (304 + 700000 * (k + 1)) 300 ∧
    EL R' (O ++ [o]) Lr' ((l.map fun r => r.its.map nums) ++ [(chkL r.its).map nums]) ∧ o.ws = [r.seq, r.real, r.mono, r.boot, xorL 3 (chkL r.its)] ∧ (∀ y, y ∉ (chkL r.its).map nums → findD R' y = findD R y) ∧ chkE r.its = 0
/-- Behind Done: A is where the checked items lie, g the record's box. -/
structure ItThree (w wr w4 : World) (p : Nat) (v vi : Value) (m N k : Nat) (r : RC) (A : Option Addr) (c g : Nat) : Prop where
  ex : ∃ S bs R O Lr l T bs' R' o Lr', ItSt w wr S p bs R O Lr (304 + 700000 * k) v vi l ∧ l.length = m ∧ m ≤ k ∧ (itsOf l).length = N ∧ N ≤ 64 * m ∧ Fp S wr T w4 ∧ ED 3 4 2 w4 w.heap.size T p 1048576 bs' R' (O ++ [o]) Lr' (304 + 700000 * (k + 1)) ∧
    EL R' (O ++ [o]) Lr' ((l.map fun r => r.its.map nums) ++ [(chkL r.its).map nums]) ∧ o.ws = [r.seq, r.real, r.mono, r.boot, xorL 3 (chkL r.its)] ∧ (∀ y, y ∉ (chkL r.its).map nums → findD R' y = findD R y) ∧ chkE r.its = 0 ∧ (∀ ad, A = some ad → wr.heap.size ≤ ad.block ∧ ¬ T ad.block)
  txt : Txt w4 w4.heap.size A (chkL r.its).length c (chkL r.its)
  box : Blk w4 g 36 #[.int .u64 r.seq, .int .u64 r.real, .int .u64 r.mono, .int .u64 r.boot, .slice A (chkL r.its).length c]
  lo : wr.heap.size ≤ g

section
variable {w wr wx w3 w4 : World} {p m N k : Nat} {v vi : Value} {r : RC}
theorem ItAt.belowW (H : ItAt w wr p v vi m N k) (hb : Below wr.heap.size wr wx) : ItAt w wx p v vi m N (k + 1) := by
  obtain ⟨S, bs, R, O, Lr, l, HS, h1, h2, h3, h4⟩ := H
  exact ⟨S, bs, R, O, Lr, l, (HS.belowW hb).more (by omega), h1, by omega, h3, h4⟩
/-- Add: what it tells, and what it leaves. -/
def AddIt (w wr wx : World) (p : Nat) (v vi : Value) (m N k : Nat) (r : RC) (e : Ending) (w3 : World) : Prop :=
  (∃ a : Nat, e = .returned (.tuple #[.int .i64 a, .int .i64 0]) ∧ ItTwo w wr wx w3 p v vi m N k r) ∨ (∃ E : Int, e = .returned (.tuple #[.int .i64 0, .int .i64 E]) ∧ ¬ E = 0 ∧ ItAt w w3 p v vi m N (k + 1))
theorem ItAt.add (H : ItAt w wr p v vi m N k) (hk : k < 40) (hb : Below wr.heap.size wr wx) (hr : RCOk wx wx.heap.size r) (hn : r.n ≤ 70) : Calls Tryz.prog 11 #[.pointer (some ⟨p, 0, none⟩), r.v] wx (AddIt w wr wx p v vi m N k r) := by
  obtain ⟨S, bs, R, O, Lr, l, HS, h1, h2, h3, h4⟩ := H
  have hlen := HS.st.len
  refine (eadd_any (B := wx.heap.size) r hr (Nat.le_refl _) (by omega) (HS.st.ed.below hb) HS.st.el (by omega) (by omega)).mono ?_
  rintro e w3 (⟨e1, rfl, hb3⟩ | ⟨e1, a, R', ps, rfl, ha1, ha2, hc3, hx3, hE3, hsm⟩ | ⟨e1, hlm, rfl, hc3, hD3⟩)
  · right
    exact ⟨_, rfl, e1, S, bs, R, O, Lr, l, (HS.belowW (hb.trans (hb3.mono hb.size))).more (by omega), h1, by omega, h3, h4⟩
  · left
    have hG := good_of_chk e1
    have hbu := budE_le R O (zs := (chkL r.its).map nums) (by rw [List.length_map]; exact hG.most)
    exact ⟨a, rfl, S, bs, R, O, Lr, l, R', _, _, HS, h1, h2, h3, h4, hb, hc3, hx3.more (by omega) (Nat.le_refl _) (by omega), hE3, rfl, hsm, e1⟩
  · right
    refine ⟨_, rfl, by decide, _, bs, R, O, Lr, l, (HS.turn (((Fp.refl S wr).below hb).next hc3) hD3).more (by omega), h1, by omega, h3, h4⟩
theorem ItTwo.done {A : Option Addr} {c g : Nat} (H : ItTwo w wr wx w3 p v vi m N k r) (hk : k < 40) (hT : Txt wx wx.heap.size A (chkL r.its).length c (chkL r.its)) (hA : ∀ ad, A = some ad → wr.heap.size ≤ ad.block) (hB : Blk wx g 36 #[.int .u64 r.seq, .int .u64 r.real, .int .u64 r.mono, .int .u64 r.boot, .slice A (chkL r.its).length c]) (hg : wr.heap.size ≤ g) :
    Calls Tryz.prog 14 #[.pointer (some ⟨p, 0, none⟩)] w3 fun e w4 => e = .returned (.tuple #[]) ∧ ItThree w wr w4 p v vi m N k r A c g := by
  obtain ⟨S, bs, R, O, Lr, l, R', o, Lr', HS, h1, h2, h3, h4, hb, hc3, hx3, hE3, hw, hsm, e1⟩ := H
  refine (done_ed hx3 (by omega)).mono ?_
  rintro e w4 ⟨rfl, hc4, bs', hD⟩
  have hF := (((Fp.refl S wr).below hb).next hc3).next hc4
  have hSf := HS.st.ed.foot
  have hs3 := hc3.size
  have hs4 := hc4.size
  have hnew : ∀ q, wr.heap.size ≤ q → q < wx.heap.size → ¬ S q ∧ ¬ grow S wx w3 q ∧ ¬ grow (grow S wx w3) w3 w4 q := fun q e1 e2 => by
    have hS : ¬ S q := fun e => by have := (hSf q e).2; omega
    have hG : ¬ grow S wx w3 q := fun e => e.elim hS (fun e => by omega)
    exact ⟨hS, hG, fun e => e.elim hG (fun e => by omega)⟩
  have hG := good_of_chk e1
  have hAl : ∀ ad, A = some ad → ad.block < wx.heap.size := fun ad ha => by
    obtain ⟨ad2, ea, hb2, -⟩ := hT.reads.2 hG.pos
    rw [ha] at ea; injection ea with ea; subst ea; exact hb2
  have hT3 := hT.chg hc3 (Nat.le_refl _) (fun ad ha => (hnew _ (hA ad ha) (hAl ad ha)).1)
  have hT4 := hT3.chg hc4 hs3 (fun ad ha => (hnew _ (hA ad ha) (hAl ad ha)).2.1)
  have hB4 := (hB.chg hc3 (hnew _ hg hB.lt).1).chg hc4 (hnew _ hg hB.lt).2.1
  exact ⟨rfl, ⟨⟨S, bs, R, O, Lr, l, _, bs', R', o, Lr', HS, h1, h2, h3, h4, hF, hD, hE3, hw, hsm, e1, fun ad ha => ⟨hA ad ha, (hnew _ (hA ad ha) (hAl ad ha)).2.2⟩⟩, hT4.more (by omega), hB4, hg⟩⟩
theorem ItThree.next {A : Option Addr} {c g : Nat} (H : ItThree w wr w4 p v vi m N k r A c g) : ∃ cs csi : List Value, w4.ownsRow w.heap.size 36 5 v m cs ∧ w.heap.size ≤ w4.heap.size ∧ N ≤ 64 * m ∧ (chkL r.its).length ≤ 64 ∧
    ∀ (w6 : World) (v' : Value) (tmp : Obj), w6.ownsRow w.heap.size 36 5 v' (m + 1) (cs ++ [.int .u64 r.seq, .int .u64 r.real, .int .u64 r.mono, .int .u64 r.boot, .slice A (chkL r.its).length c]) → (w4.alloc tmp).grownBy w6 v.ownBlock → (v'.ownBlock = v.ownBlock ∨ v'.ownBlock = some (w4.alloc tmp).heap.size) →
      w6.ownsRow w.heap.size 9 1 vi N csi ∧ Txt w6 w6.heap.size A (chkL r.its).length c (chkL r.its) ∧ Blk w6 g 36 #[.int .u64 r.seq, .int .u64 r.real, .int .u64 r.mono, .int .u64 r.boot, .slice A (chkL r.its).length c] ∧ w.heap.size ≤ w6.heap.size ∧
      ∀ (w7 : World) (vi' : Value), w7.ownsRow w.heap.size 9 1 vi' (N + (chkL r.its).length) (csi ++ cellsT (chkL r.its)) → w6.grownBy w7 vi.ownBlock → (vi'.ownBlock = vi.ownBlock ∨ vi'.ownBlock = some w6.heap.size) → ItAt w w7 p v' vi' (m + 1) (N + (chkL r.its).length) (k + 1) := by
  obtain ⟨⟨S, bs, R, O, Lr, l, T, bs', R', o, Lr', HS, h1, h2, h3, h4, hF, hD, hE, hw, hsm, e1, hA⟩, hT, hB, hlo⟩ := H
  subst h1; subst h3
  have hG := good_of_chk e1
  have hTS : ∀ q, q < wr.heap.size → ¬ S q → ¬ T q := fun q hq hn ht => (hF.sub q ht).elim hn (fun e => by omega)
  have hsF := hF.size
  have hrow4 := own_chg HS.st.own hF.chg HS.st.vS
  have hrowi4 := own_chg HS.own hF.chg (fun g hg => (HS.viS g hg).1)
  have hvlt := HS.st.vlt
  have hvilt := HS.own.lt
  refine ⟨cellsR5 l, cellsT (itsOf l), hrow4, hD.bas, h4, hG.most, fun w6 v' tmp hown hg hat => ?_⟩
  have hc6 := grownC hg
  have hs6 := hc6.size
  have hsa : (w4.alloc tmp).heap.size = w4.heap.size + 1 := World.size_alloc _ _
  obtain ⟨rc, hrc⟩ : ∃ rc : RC, rc = ⟨r.seq, r.real, r.mono, r.boot, A, (chkL r.its).length, c, chkL r.its⟩ := ⟨_, rfl⟩
  have hst6 : EnSt w w6 T p 1048576 bs' R' (O ++ [o]) Lr' (304 + 700000 * (k + 1)) v' (l ++ [rc]) := by
    subst hrc
    exact HS.st.next (rc := ⟨r.seq, r.real, r.mono, r.boot, A, (chkL r.its).length, c, chkL r.its⟩) hF hD hE hw hT hA hG hown hg hat
  have hv' : ∀ g, v'.ownBlock = some g → v.ownBlock = some g ∨ w4.heap.size ≤ g := fun g hg => by
    rcases hat with e | e
    · exact .inl (by rw [← e]; exact hg)
    · rw [e] at hg; injection hg with hg; right; omega
  have hrowi6 := own_chg hrowi4 hc6 (fun q hq e => (HS.viS q hq).2 e)
  have hT6 : Txt w6 w6.heap.size A (chkL r.its).length c (chkL r.its) := ⟨(hT.reads.chg hc6 (Nat.le_refl _) (fun _ ad ha e => by have h8 := (hvlt _ e).2; have h9 := (hA ad ha).1; omega)).more hs6, hT.le, hT.cap, hT.sz⟩
  have hB6 := hB.chg hc6 (fun e => by have h8 := (hvlt _ e).2; omega)
  refine ⟨hrowi6, hT6, hB6, by have := hD.bas; omega, fun w7 vi' hown7 hg7 hat7 => ?_⟩
  have hc7 := grownC0 hg7
  have hvi' : ∀ g, vi'.ownBlock = some g → vi.ownBlock = some g ∨ w6.heap.size ≤ g := fun g hg => by
    rcases hat7 with e | e
    · exact .inl (by rw [← e]; exact hg)
    · rw [e] at hg; injection hg with hg; right; omega
  have hviT : ∀ g, vi.ownBlock = some g → ¬ T g := fun g hg => hTS g (hvilt g hg).2 (HS.viS g hg).1
  have hrcA : ∀ q ∈ l ++ [rc], 0 < q.n → ∀ ad, q.A = some ad → ad.block < w6.heap.size ∧ vi.ownBlock ≠ some ad.block := fun q hq hn ad ha => by
    rcases List.mem_append.1 hq with hq | hq
    · obtain ⟨h8, h9⟩ := HS.st.each q hq
      obtain ⟨ad2, ea, hb2, -⟩ := h8.reads.2 hn
      rw [ha] at ea; injection ea with ea; subst ea
      exact ⟨by omega, HS.sep q hq hn ad ha⟩
    · rw [List.mem_singleton.1 hq, hrc] at ha
      have ha : A = some ad := ha
      obtain ⟨ad2, ea, hb2, -⟩ := hT6.reads.2 hG.pos
      rw [ha] at ea; injection ea with ea; subst ea
      exact ⟨hb2, fun e => by have h8 := (hvilt _ e).2; have h9 := (hA ad ha).1; omega⟩
  have hst7 := hst6.chgT hc7 (fun q hq e => hviT q e hq) (fun g hg e => by
    rcases hv' g hg with e2 | e2
    · exact (HS.viS g e).2 e2
    · have := (hvilt g e).2; omega) (fun q hq hn ad ha e => (hrcA q hq hn ad ha).2 e) (fun q _ e => (hvilt q e).1)
  have hits : itsOf (l ++ [rc]) = itsOf l ++ chkL r.its := by rw [itsOf_snoc, hrc]
  refine ⟨T, bs', R', O ++ [o], Lr', l ++ [rc], ⟨hst7, ?_, fun g hg => ⟨fun ht => ?_, fun e => ?_⟩, fun q hq hn ad ha e => ?_, fun y hy => ?_⟩, by simp, by omega, by rw [hits, List.length_append], by rw [Nat.mul_add]; have := hG.most; omega⟩
  · rw [hits, List.length_append, cellsT_append]; exact hown7
  · rcases hvi' g hg with e | e
    · exact hviT g e ht
    · have := (hst6.ed.foot g ht).2; omega
  · rcases hvi' g hg with e2 | e2
    · rcases hv' g e with e3 | e3
      · exact (HS.viS g e2).2 e3
      · have := (hvilt g e2).2; omega
    · have := (hst6.vlt g e).2; omega
  · rcases hvi' _ e with e2 | e2
    · exact (hrcA q hq hn ad ha).2 e2
    · have := (hrcA q hq hn ad ha).1; omega
  · by_cases hm : y ∈ (chkL r.its).map nums
    · exact ⟨rc, by simp, by rw [hrc]; exact hm⟩
    · rw [hsm y hm] at hy
      obtain ⟨q, hq, hq2⟩ := HS.all y hy
      exact ⟨q, List.mem_append.2 (.inl hq), hq2⟩
end

end Go.Proofs.YtobbkhncnokpiaaGreat
