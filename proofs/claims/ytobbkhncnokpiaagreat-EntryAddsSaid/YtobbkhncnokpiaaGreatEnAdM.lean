/-
  LAYER 16: what EntryAdds holds: each step of a round.
-/
import Derived.Test.YtobbkhncnokpiaaGreatEnBox
set_option linter.unusedVariables false
set_option maxRecDepth 100000
set_option linter.unusedSimpArgs false
namespace Go.Proofs.YtobbkhncnokpiaaGreat
open Go.RowKit Go.Shelf

/-- At the head of each round. -/
structure AdAt (w wr : World) (p lim : Nat) (v : Value) (m k : Nat) (bs : List Int) : Prop where
  ex : ∃ S R O Lr l, EnSt w wr S p lim bs R O Lr (304 + 700000 * k) v l ∧ l.length = m ∧ m ≤ k
/-- Behind Add. -/
structure AdTwo (w wr wx w3 : World) (p lim : Nat) (v : Value) (m k : Nat) (r : RC) (a : Nat) : Prop where
  ex : ∃ S bs R O Lr l R' o Lr', EnSt w wr S p lim bs R O Lr (304 + 700000 * k) v l ∧ l.length = m ∧ m ≤ k ∧ Below wr.heap.size wr wx ∧ Chg S wx w3 ∧ EX 3 4 2 w3 w.heap.size (grow S wx w3) p lim bs R' (O ++ [o]) Lr' (304 + 700000 * (k + 1)) 300 ∧
    EL R' (O ++ [o]) Lr' ((l.map fun r => r.its.map nums) ++ [(chkL r.its).map nums]) ∧ o.ws = [r.seq, r.real, r.mono, r.boot, xorL 3 (chkL r.its)] ∧ o.at_ = a ∧ chkE r.its = 0
/-- Behind Done: A is where the checked items lie, g the record's box. -/
structure AdThree (w wr w4 : World) (p lim : Nat) (v : Value) (m k : Nat) (r : RC) (a : Nat) (A : Option Addr) (c g : Nat) : Prop where
  ex : ∃ S bs R O Lr l T bs' R' o Lr', EnSt w wr S p lim bs R O Lr (304 + 700000 * k) v l ∧ l.length = m ∧ m ≤ k ∧ Fp S wr T w4 ∧ ED 3 4 2 w4 w.heap.size T p lim bs' R' (O ++ [o]) Lr' (304 + 700000 * (k + 1)) ∧
    EL R' (O ++ [o]) Lr' ((l.map fun r => r.its.map nums) ++ [(chkL r.its).map nums]) ∧ o.ws = [r.seq, r.real, r.mono, r.boot, xorL 3 (chkL r.its)] ∧ o.at_ = a ∧ chkE r.its = 0 ∧ (∀ ad, A = some ad → wr.heap.size ≤ ad.block ∧ ¬ T ad.block)
  txt : Txt w4 w4.heap.size A (chkL r.its).length c (chkL r.its)
  box : Blk w4 g 36 #[.int .u64 r.seq, .int .u64 r.real, .int .u64 r.mono, .int .u64 r.boot, .slice A (chkL r.its).length c]
  lo : wr.heap.size ≤ g
/-- Behind append: what is asked of the entry. -/
structure AdFour (w w7 : World) (p lim : Nat) (v : Value) (m k : Nat) (r : RC) (a : Nat) (A : Option Addr) (c g : Nat) (L : List ByteArray) : Prop where
  at_ : ∃ bs, AdAt w w7 p lim v (m + 1) (k + 1) bs
  txt : Txt w7 w7.heap.size A L.length c L
  box : Blk w7 g 36 #[.int .u64 r.seq, .int .u64 r.real, .int .u64 r.mono, .int .u64 r.boot, .slice A L.length c]
  sz : ∀ s ∈ L, s.size ≤ 1024
  get : ∀ wx, Below w7.heap.size w7 wx → Calls Tryz.prog 15 #[.pointer (some ⟨p, 0, none⟩), .int .u64 (a : Nat)] wx fun e w' => ∃ A', e = .returned (.tuple #[.agg #[.int .u64 r.seq, .int .u64 r.real, .int .u64 r.mono, .int .u64 r.boot, .slice A' L.length L.length], .bool true]) ∧ Txt w' w'.heap.size A' L.length L.length L ∧ Below wx.heap.size wx w'
  at3 : ∀ wx, Below w7.heap.size w7 wx → Calls Tryz.prog 16 #[.pointer (some ⟨p, 0, none⟩), .int .u64 (a : Nat), .int .i64 3] wx fun e w' => ∃ b off n1 c1 A2 n2 c2 A3 n3 c3, e = .returned (.tuple #[.agg #[.int .i64 3, .slice (some ⟨b, off, none⟩) n1 c1, .slice A2 n2 c2, .slice A3 n3 c3], .bool true]) ∧ Below wx.heap.size wx w' ∧ n1 = 5 ∧ b < w'.heap.size ∧ w'.cell? ⟨b, off + 4, none⟩ = some (.int .u64 (xorL 3 L))
  xor : ∀ wx, Below w7.heap.size w7 wx → Calls Tryz.prog 19 #[.pointer (some ⟨p, 0, none⟩), .slice A L.length c] wx fun e w' => e = .returned (.int .u64 (xorL 3 L)) ∧ Below wx.heap.size wx w'

section
variable {w wr wx w3 w4 : World} {p lim m k a : Nat} {v : Value} {r : RC} {bs : List Int}
theorem AdAt.belowW (H : AdAt w wr p lim v m k bs) (hb : Below wr.heap.size wr wx) : AdAt w wx p lim v m k bs := by
  obtain ⟨S, R, O, Lr, l, HS, h1, h2⟩ := H
  exact ⟨S, R, O, Lr, l, HS.belowW hb, h1, h2⟩
theorem AdAt.below (H : AdAt w wr p lim v m k bs) : Below w.heap.size w wr := by
  obtain ⟨S, R, O, Lr, l, HS, -⟩ := H
  exact HS.below
theorem AdAt.le (H : AdAt w wr p lim v m k bs) : m ≤ k := by
  obtain ⟨S, R, O, Lr, l, HS, h1, h2⟩ := H
  exact h2
theorem AdAt.bytes (H : AdAt w wr p lim v m k bs) : AreB bs ∧ ∀ wx, Below wr.heap.size wr wx → Calls Tryz.prog 10 #[.pointer (some ⟨p, 0, none⟩)] wx (Told bs wx) := by
  obtain ⟨S, R, O, Lr, l, HS, -⟩ := H
  exact ⟨HS.ed.bytes, fun wx hb => bytes_ed (HS.ed.below hb)⟩
theorem AdAt.start {S : Nat → Prop} (hb : Below w.heap.size w wr) (h : ED 3 4 2 wr w.heap.size S p lim bs [] [] [] 304) : AdAt w wr p lim (.slice none 0 0) 0 0 bs :=
  ⟨S, [], [], [], [], (EnSt.start hb h).more (by omega), rfl, Nat.le_refl _⟩
theorem AdAt.add {ec : Int} {vw : Value} {nw : Nat} {xs : List Value} (hec : chkE r.its = ec) (H : AdAt w wr p lim v m k bs) (hk : k < 40) (hb : Below wr.heap.size wr wx) (hr : RCOk wx wx.heap.size r) (hn : r.n ≤ 70) (hW : wx.ownsRow wr.heap.size 5 1 vw nw xs) :
    Calls Tryz.prog 11 #[.pointer (some ⟨p, 0, none⟩), r.v] wx fun e w3 =>
      (∃ a : Nat, e = .returned (.tuple #[.int .i64 a, .int .i64 0]) ∧ ec = 0 ∧ a ≤ 1099511627776 ∧ AdTwo w wr wx w3 p lim v m k r a) ∨
      (e = .returned (.tuple #[.int .i64 0, .int .i64 ec]) ∧ ¬ ec = 0 ∧ AdAt w w3 p lim v m (k + 1) bs ∧ w3.ownsRow wr.heap.size 5 1 vw nw xs) ∨
      (e = .returned (.tuple #[.int .i64 0, .int .i64 21]) ∧ ec = 0 ∧ AdAt w w3 p lim v m (k + 1) bs ∧ w3.ownsRow wr.heap.size 5 1 vw nw xs) := by
  obtain ⟨S, R, O, Lr, l, HS, h1, h2⟩ := H
  have hlen := HS.len
  subst hec
  refine (eadd_any (B := wx.heap.size) r hr (Nat.le_refl _) (by omega) (HS.ed.below hb) HS.el (by omega) (by omega)).mono ?_
  rintro e w3 (⟨e1, rfl, hb3⟩ | ⟨e1, a, R', ps, rfl, ha1, ha2, hc3, hx3, hE3, hsm⟩ | ⟨e1, hlm, rfl, hc3, hD3⟩)
  · exact .inr (.inl ⟨rfl, e1, ⟨S, R, O, Lr, l, (HS.belowW (hb.trans (hb3.mono hb.size))).more (by omega), h1, by omega⟩, own_below hW hb3⟩)
  · have hG := good_of_chk e1
    have hbu := budE_le R O (zs := (chkL r.its).map nums) (by rw [List.length_map]; exact hG.most)
    exact .inl ⟨a, rfl, e1, ha2, ⟨S, bs, R, O, Lr, l, R', _, _, HS, h1, h2, hb, hc3, hx3.more (by omega) (Nat.le_refl _) (by omega), hE3, rfl, rfl, e1⟩⟩
  · refine .inr (.inr ⟨rfl, e1, ⟨_, R, O, Lr, l, (HS.turn (((Fp.refl S wr).below hb).next hc3) hD3).more (by omega), h1, by omega⟩, own_chg hW hc3 (fun g hg hs => ?_)⟩)
    have h8 := (hW.lt g hg).1
    have h9 := (HS.ed.foot g hs).2
    omega
theorem AdTwo.done {A : Option Addr} {c g : Nat} {L : List ByteArray} (hL : chkL r.its = L) (H : AdTwo w wr wx w3 p lim v m k r a) (hk : k < 40) (hb4 : Below w3.heap.size w3 w4) (hT : Txt w4 w4.heap.size A L.length c L) (hA : ∀ ad, A = some ad → w3.heap.size ≤ ad.block) (hB : Blk w4 g 36 #[.int .u64 r.seq, .int .u64 r.real, .int .u64 r.mono, .int .u64 r.boot, .slice A L.length c]) (hg : w3.heap.size ≤ g) :
    Calls Tryz.prog 14 #[.pointer (some ⟨p, 0, none⟩)] w4 fun e w5 => e = .returned (.tuple #[]) ∧ AdThree w wr w5 p lim v m k r a A c g := by
  subst hL
  obtain ⟨S, bs, R, O, Lr, l, R', o, Lr', HS, h1, h2, hb, hc3, hx3, hE3, hw, ha, e1⟩ := H
  have hx4 := hx3.below hb4
  refine (done_ed hx4 (by omega)).mono ?_
  rintro e w5 ⟨rfl, hc5, bs', hD⟩
  have hF := ((((Fp.refl S wr).below hb).next hc3).below hb4).next hc5
  have hs3 := hc3.size
  have hs5 := hc5.size
  have hsb := hb.size
  have hft := hx3.foot
  have hG := good_of_chk e1
  have hnew : ∀ q, w3.heap.size ≤ q → q < w4.heap.size → ¬ grow S wx w3 q ∧ ¬ grow (grow S wx w3) w4 w5 q := fun q e1 e2 => by
    have hS : ¬ grow S wx w3 q := fun e => by have := (hft q e).2; omega
    exact ⟨hS, fun e => e.elim hS (fun e => by omega)⟩
  have hAl : ∀ ad, A = some ad → ad.block < w4.heap.size := fun ad ha => by
    obtain ⟨ad2, ea, hb2, -⟩ := hT.reads.2 hG.pos
    rw [ha] at ea; injection ea with ea; subst ea; exact hb2
  have hT5 := hT.chg hc5 (Nat.le_refl _) (fun ad ha => (hnew _ (hA ad ha) (hAl ad ha)).1)
  have hB5 := hB.chg hc5 (hnew _ hg hB.lt).1
  exact ⟨rfl, ⟨⟨S, bs, R, O, Lr, l, _, bs', R', o, Lr', HS, h1, h2, hF, hD, hE3, hw, ha, e1, fun ad ha => ⟨by have := hA ad ha; omega, (hnew _ (hA ad ha) (hAl ad ha)).2⟩⟩, hT5.more hs5, hB5, by omega⟩⟩
theorem AdThree.next {A : Option Addr} {c g : Nat} {L : List ByteArray} (hL : chkL r.its = L) (H : AdThree w wr w4 p lim v m k r a A c g) : Blk w4 g 36 #[.int .u64 r.seq, .int .u64 r.real, .int .u64 r.mono, .int .u64 r.boot, .slice A L.length c] ∧ ∃ cs : List Value, w4.ownsRow w.heap.size 36 5 v m cs ∧ w.heap.size ≤ w4.heap.size ∧
    ∀ (w6 : World) (v' : Value) (tmp : Obj), k < 40 → w6.ownsRow w.heap.size 36 5 v' (m + 1) (cs ++ [.int .u64 r.seq, .int .u64 r.real, .int .u64 r.mono, .int .u64 r.boot, .slice A L.length c]) → (w4.alloc tmp).grownBy w6 v.ownBlock → (v'.ownBlock = v.ownBlock ∨ v'.ownBlock = some (w4.alloc tmp).heap.size) →
      AdFour w w6 p lim v' m k r a A c g L := by
  subst hL
  obtain ⟨⟨S, bs, R, O, Lr, l, T, bs', R', o, Lr', HS, h1, h2, hF, hD, hE, hw, ha, e1, hA⟩, hT, hB, hlo⟩ := H
  subst h1
  have hG := good_of_chk e1
  have hsF := hF.size
  have hrow4 := own_chg HS.own hF.chg HS.vS
  have hvlt := HS.vlt
  refine ⟨hB, cellsR5 l, hrow4, hD.bas, fun w6 v' tmp hk hown hg hat => ?_⟩
  have hc6 := grownC hg
  have hs6 := hc6.size
  have hst6 : EnSt w w6 T p lim bs' R' (O ++ [o]) Lr' (304 + 700000 * (k + 1)) v' (l ++ [⟨r.seq, r.real, r.mono, r.boot, A, (chkL r.its).length, c, chkL r.its⟩]) :=
    HS.next (rc := ⟨r.seq, r.real, r.mono, r.boot, A, (chkL r.its).length, c, chkL r.its⟩) hF hD hE hw hT hA hG hown hg hat
  have hT6 : Txt w6 w6.heap.size A (chkL r.its).length c (chkL r.its) := ⟨(hT.reads.chg hc6 (Nat.le_refl _) (fun _ ad ha e => by have h8 := (hvlt _ e).2; have h9 := (hA ad ha).1; omega)).more hs6, hT.le, hT.cap, hT.sz⟩
  have hB6 := hB.chg hc6 (fun e => by have h8 := (hvlt _ e).2; omega)
  have hlen := HS.len
  have hOm : (O ++ [o])[l.length]? = some o := by rw [List.getElem?_append_right (by omega)]; simp [hlen]
  have hEm : ((l ++ [(⟨r.seq, r.real, r.mono, r.boot, A, (chkL r.its).length, c, chkL r.its⟩ : RC)]).map fun r => r.its.map nums)[l.length]? = some ((chkL r.its).map nums) := by simp
  have hsz : ∀ s ∈ chkL r.its, s.size ≤ 1024 := fun s hs => (hG.ok s hs).2
  have hex : ∀ wx, Below w6.heap.size w6 wx → EX 3 4 2 wx w.heap.size T p lim bs' R' (O ++ [o]) Lr' (304 + 700000 * (k + 1)) 0 := fun wx hb => (hst6.ed.below hb).toEX
  have hO1 : (O ++ [o]).length ≤ 1000 := by rw [List.length_append]; simp; omega
  refine ⟨⟨bs', T, R', O ++ [o], Lr', _, hst6, by simp, by omega⟩, hT6, hB6, hsz, fun wx hb => ?_, fun wx hb => ?_, fun wx hb => ?_⟩
  · have h9 := eget_yes (hex wx hb) hst6.el hOm hEm (fun s hs => Nat.le_trans (hsz s hs) (by decide)) hO1
    unfold RecTold at h9
    rw [hw, ha] at h9
    exact h9
  · have h9 := (hex wx hb).entry_at (List.mem_of_getElem? hOm)
    rw [ha] at h9
    refine h9.mono ?_
    rintro e w' ⟨A1, n1, c1, A2, n2, c2, A3, n3, c3, rfl, hb', hr1, -⟩
    rw [hw] at hr1
    have hn1 : n1 = 5 := by have := hr1.len; simpa using this.symm
    obtain ⟨b, off, rfl, hbl, hcell⟩ := hr1.plain (by omega)
    exact ⟨b, off, n1, c1, A2, n2, c2, A3, n3, c3, rfl, hb', hn1, hbl, hcell 4 (by omega)⟩
  · exact exor_any A _ c _ w6.heap.size (hex wx hb) (hT6.below hb) hb.size (fun s hs => by have := hsz s hs; omega)
end

end Go.Proofs.YtobbkhncnokpiaaGreat
