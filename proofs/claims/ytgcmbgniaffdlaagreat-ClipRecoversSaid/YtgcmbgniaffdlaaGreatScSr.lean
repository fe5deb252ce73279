import Derived.Test.YtgcmbgniaffdlaaGreatScMath
import Derived.Test.YtgcmbgniaffdlaaGreatEnBase
set_option linter.unusedVariables false
set_option maxRecDepth 100000
set_option linter.unusedSimpArgs false
namespace Go.Proofs.YtgcmbgniaffdlaaGreat
open Go.RowKit
def srG (b : List Int) (r : GO) : SR := ⟨r.at_, r.k, sizA b r.at_⟩
structure SrG (b : List Int) (r : GO) : Prop where
 is_ : (srG b r).Is b
 fin : (srG b r).fin = r.at_ + r.len
 wds : (srG b r).wds b = r.ws
 raw : (srG b r).raw b = r.raw
 its : (srG b r).its b = r.its
theorem GB.srG {lo : Nat} {b : List Int} {l : List GO} (h : GB lo b l) {r : GO} (hr : r ∈ l) : SrG b r := by
 have hf := h.fine r hr
 obtain ⟨s, d1, d2, d3, d4, d5, d6⟩ := HoldsB.dec (h.held r hr) hf.1.al hf.1.right hf.1.us hf.1.is
 have e : sizA b r.at_ = s := by
   have h9 := d1.sd
   unfold sizA
   rw [h9]; simp
 have e2 : Go.Proofs.YtgcmbgniaffdlaaGreat.srG b r = ⟨r.at_, r.k, s⟩ := by unfold Go.Proofs.YtgcmbgniaffdlaaGreat.srG; rw [e]
 constructor
 · rw [e2]; exact ⟨d1, d2⟩
 · rw [e2]
   show r.at_ + (s + padn s 8) = r.at_ + (encO r.k r.ws r.raw r.its).length
   rw [d3]
 · rw [e2]; exact d4
 · rw [e2]; exact d5
 · rw [e2]; exact d6
theorem scan_fill2 {z : List Int} {sr : GO -> SR} : ∀ {l : List GO} {a : Nat}, fillG a z.length l -> (∀ r ∈ l, (sr r).j = r.at_ /\ (sr r).Is z /\ (sr r).fin = r.at_ + r.len) -> scanAt z a (l.map sr) /\ lastE a (l.map sr) = z.length
 | [], a, h, _ => by
   have h' : a = z.length := h
   refine ⟨fun j k s e hd => ?_, by rw [h']; rfl⟩
   have := hd.room
   omega
 | r :: l, a, h, hf => by
   obtain ⟨h1, h2, h3⟩ := hf r (by simp)
   have h4 := scan_fill2 h.2 (fun q hq => hf q (by simp [hq]))
   have e : (sr r).fin = a + r.len := by rw [h3, h.1]
   refine ⟨⟨by show (a : Int) = ((sr r).j : Int); rw [h1, h.1], h2, ?_⟩, ?_⟩
   · show scanAt z ((sr r).fin : Int) (l.map sr)
     rw [e]; exact h4.1
   · show lastE ((sr r).fin : Int) (l.map sr) = _
     rw [e]; exact h4.2
theorem scan_fill {b : List Int} {l : List GO} {a : Nat} (h : fillG a b.length l) (hf : ∀ r ∈ l, SrG b r) : scanAt b a (l.map (srG b)) /\ lastE a (l.map (srG b)) = b.length :=
 scan_fill2 h (fun r hr => ⟨rfl, (hf r hr).is_, (hf r hr).fin⟩)
theorem SR.Is.bare0 {zs : List Int} {r : SR} (h : r.Is zs) : bareN r.k (r.raw zs).length (r.its zs).length = r.s := by
 obtain ⟨-, h2, h3⟩ := right_may h.at_ h.parts.1
 unfold SR.raw SR.its
 rw [dR_length, dI_length, objB_length h.at_.fit]
 unfold bareN
 by_cases hi : hasI r.k = true
 · rw [if_pos hi, if_pos hi]; have := h3 hi; omega
 · rw [if_neg hi, if_neg hi]; omega
theorem SrG.size {b : List Int} {r : GO} (h : SrG b r) : sizA b r.at_ = bareN r.k r.raw.length r.its.length := by
 have h1 := h.is_.bare0
 rw [h.raw, h.its] at h1
 exact h1.symm
theorem srG_shp {b b' : List Int} {g : GO -> GO} {l : List GO} (hg : Shp g l) {r : GO} (hr : r ∈ l) (h : SrG b r) (h' : SrG b' (g r)) : srG b' (g r) = srG b r := by
 obtain ⟨e1, e2, e3, e4, e5⟩ := hg r hr
 have h1 := h.size
 have h2 := h'.size
 rw [e2, e4, e5, <- h1] at h2
 unfold srG
 rw [h2, e1, e2]
def linkS (r : SR) (p : Nat) : Prop := (r.k = 1 /\ ∃ i, 1 <= i /\ i <= 4 /\ p = r.j + (16 + 8 * i)) ∨ (r.k = 2 /\ ∃ i, 1 <= i /\ i <= 2 /\ p = r.j + (16 + 8 * i)) ∨ (r.k = 4 /\ (p = r.j + (16 + 8 * 0) ∨ ∃ i, i < (r.s - 24) / 8 /\ p = r.j + 24 + 8 * i))
def LinkS (lo : Nat) (L : List SR) (p : Nat) : Prop := p = 192 ∨ (256 <= p /\ p + 8 <= lo /\ p % 8 = 0) ∨ ∃ r ∈ L, linkS r p
theorem linkS_iff {lo : Nat} {b : List Int} {l : List GO} (G : GB lo b l) {r : GO} (hr : r ∈ l) (p : Nat) : linkS (srG b r) p ↔ linkW r p := by
 have h := (G.srG hr).size
 have e : r.k = 4 -> (sizA b r.at_ - 24) / 8 = r.its.length := fun hk => by
   have h0 := ((G.fine r hr).1.arr hk).1
   rw [h, hk, h0]
   unfold bareN
   have e4 : frontN ((4 : Nat) : Int) = 24 := rfl
   rw [e4, List.length_nil]
   omega
 unfold linkS linkW Go.Proofs.YtgcmbgniaffdlaaGreat.srG
 refine or_congr Iff.rfl (or_congr Iff.rfl (and_congr_right fun hk => ?_))
 have hk : r.k = 4 := hk
 show (p = r.at_ + (16 + 8 * 0) ∨ ∃ i, i < (sizA b r.at_ - 24) / 8 /\ p = r.at_ + 24 + 8 * i) ↔ _
 rw [e hk]
theorem LinkS_iff {lo : Nat} {b : List Int} {l : List GO} (G : GB lo b l) {l0 : List GO} (h : ∀ r ∈ l0, r ∈ l) (p : Nat) : LinkS lo (l0.map (srG b)) p ↔ LinkG lo l0 p := by
 unfold LinkS LinkG
 refine or_congr Iff.rfl (or_congr Iff.rfl ⟨fun ⟨r, hr, h1⟩ => ?_, fun ⟨r, hr, h1⟩ => ?_⟩)
 · obtain ⟨q, hq, rfl⟩ := List.mem_map.1 hr
   exact ⟨q, hq, (linkS_iff G (h q hq) p).1 h1⟩
 · exact ⟨srG b r, List.mem_map.2 ⟨r, hr, rfl⟩, (linkS_iff G (h r hr) p).2 h1⟩
theorem gnum_nz {b b' : List Int} {p : Nat} (h1 : p + 8 <= b.length) (h2 : p + 8 <= b'.length) (h : ∀ j, p <= j -> j < p + 8 -> nz b' j = nz b j) : gnum b' (p : Nat) 8 = gnum b (p : Nat) 8 := by
 have g1 : gok b.length (p : Nat) 8 = true := by simp [gok]; omega
 have g2 : gok b'.length (p : Nat) 8 = true := by simp [gok]; omega
 have e : (b'.drop p).take 8 = (b.drop p).take 8 := by
   refine ext_nz (by rw [List.length_take, List.length_take, List.length_drop, List.length_drop]; omega) fun j hj => ?_
   rw [List.length_take, List.length_drop] at hj
   rw [nz_take, nz_take, if_pos (by omega), if_pos (by omega), nz_drop, nz_drop]
   exact h _ (by omega) (by omega)
 unfold gnum
 rw [g1, g2]
 show lev ((b'.drop p).take 8) = lev ((b.drop p).take 8)
 rw [e]
structure Later (lo : Nat) (b b' : List Int) (L : List SR) : Prop where
 len : b.length <= b'.length
 scan : scanAt b lo L /\ lastE lo L = b.length
 more : ∃ L', scanAt b' lo (L ++ L') /\ lastE lo (L ++ L') = b'.length
 words : ∀ p, LinkS lo L p -> p + 8 <= b.length -> (∀ j, p <= j -> j < p + 8 -> nz b' j = nz b j) ∨ (gnum b (p : Nat) 8 = 0 /\ (b.length : Int) <= gnum b' (p : Nat) 8)
 else_ : ∀ j, j < b.length -> nz b' j = nz b j ∨ ∃ p, LinkS lo L p /\ p + 8 <= b.length /\ p <= j /\ j < p + 8
theorem GoodL.later {lo : Nat} {m : IM} {l : List GO} (G : GB lo m.b l) (hlo : 256 <= lo) (H : GoodL lo m l) : ∃ L, Later lo m.was m.b L := by
 obtain ⟨n, hn, hf⟩ := H.far.bound
 obtain ⟨g, hg, G0⟩ := GB.links_zero hlo m.words G (fun a ha => (H.far.safe a ha).1)
 have hu := H.toGood.undo
 have hle := H.le
 have hw8 : ∀ k ∈ m.words, k + 8 <= m.b.length := fun k hk => (H.ws k hk).2.1
 have hzl := zeroW_length _ _ hw8
 have hwl : ((zeroW m.b m.words).take m.was.length).length = m.was.length := by rw [hu]
 have hsub : ∀ r ∈ l.take n, r ∈ l := fun r hr => List.mem_of_mem_take hr
 have hall := scan_fill G.fill (fun r hr => G.srG hr)
 have hsplit : l.map (Go.Proofs.YtgcmbgniaffdlaaGreat.srG m.b) = (l.take n).map (Go.Proofs.YtgcmbgniaffdlaaGreat.srG m.b) ++ (l.drop n).map (Go.Proofs.YtgcmbgniaffdlaaGreat.srG m.b) := by rw [<- List.map_append, List.take_append_drop]
 have hold : scanAt m.was lo ((l.take n).map (Go.Proofs.YtgcmbgniaffdlaaGreat.srG m.b)) /\ lastE lo ((l.take n).map (Go.Proofs.YtgcmbgniaffdlaaGreat.srG m.b)) = m.was.length := by
   have h9 := scan_fill2 (z := (zeroW m.b m.words).take m.was.length) (sr := Go.Proofs.YtgcmbgniaffdlaaGreat.srG m.b) (l := l.take n) (a := lo) (by rw [hwl]; exact hf) (fun r hr => by
     have hrl := hsub r hr
     have h1 := G.srG hrl
     have h2 := G0.srG (List.mem_map.2 ⟨r, hrl, rfl⟩)
     have h3 := srG_shp hg hrl h1 h2
     have h4 := h2.is_
     rw [h3] at h4
     have h5 := (hf.in_ r hr).2
     refine ⟨rfl, (SR.is_take (by rw [hzl]; exact hle)).2 ⟨h4, by rw [h1.fin]; exact h5⟩, h1.fin⟩)
   rw [hu] at h9
   exact h9
 have hlw : ∀ p, LinkS lo ((l.take n).map (Go.Proofs.YtgcmbgniaffdlaaGreat.srG m.b)) p -> LinkG lo l p := fun p hp => by
   rcases (LinkS_iff G hsub p).1 hp with h | h | ⟨r, hr, h⟩
   · exact .inl h
   · exact .inr (.inl h)
   · exact .inr (.inr ⟨r, hsub r hr, h⟩)
 have hwl2 : ∀ a ∈ m.words, a + 8 <= m.was.length /\ LinkS lo ((l.take n).map (Go.Proofs.YtgcmbgniaffdlaaGreat.srG m.b)) a := fun a ha => by
   obtain ⟨q1, q2, q3, q4⟩ := H.ws a ha
   have h1 := (H.far.safe a ha).1
   have hlo2 := hf.le
   rcases h1 with h | h | ⟨r, hr, h⟩
   · exact ⟨by omega, .inl h⟩
   · exact ⟨by omega, .inr (.inl h)⟩
   · have hfr := G.link_fit hlo (.inr (.inr ⟨r, hr, h⟩) : LinkG lo l a)
     have hrf := (G.fine r hr).1
     have hin : r ∈ l.take n := by
       rcases List.mem_append.1 (by rw [List.take_append_drop]; exact hr : r ∈ l.take n ++ l.drop n) with h2 | h2
       · exact h2
       · exfalso
         have hfd : fillG m.was.length m.b.length (l.drop n) := by
           have h3 := G.fill
           rw [<- List.take_append_drop n l] at h3
           exact fillG_drop h3 hf
         have := (hfd.in_ r h2).1
         have hra : r.at_ <= a := by
           rcases h with ⟨hk, i, i1, i2, rfl⟩ | ⟨hk, i, i1, i2, rfl⟩ | ⟨hk, rfl | ⟨i, hi, rfl⟩⟩ <;> omega
         omega
     have h5 := (hf.in_ r hin).2
     have h6 : a + 8 <= r.at_ + r.len := by
       have hfr2 := hrf.front
       have h7 := hrf.kk
       rcases h with ⟨hk, i, i1, i2, rfl⟩ | ⟨hk, i, i1, i2, rfl⟩ | ⟨hk, rfl | ⟨i, hi, rfl⟩⟩
       · have := h7.2.1 hk; omega
       · have := h7.2.2.1 hk; omega
       · have := h7.2.2.2 hk; omega
       · have := h7.2.2.2 hk; omega
     exact ⟨by omega, (LinkS_iff G hsub a).2 (.inr (.inr ⟨r, hin, h⟩))⟩
 refine ⟨_, hle, hold, ⟨_, by rw [<- hsplit]; exact hall⟩, fun p hp hpl => ?_, fun j hj => ?_⟩
 · have hpf := G.link_fit hlo (hlw p hp)
   by_cases hm : p ∈ m.words
   · right
     refine ⟨?_, (H.far.safe p hm).2⟩
     have e1 : gnum m.was (p : Nat) 8 = gnum (splice m.b p (bts 0 8)) (p : Nat) 8 := by
       have l8 : (bts 0 8).length = 8 := bts8_length _
       refine gnum_nz (by rw [splice_len _ _ _ (by omega)]; omega) hpl (fun j j1 j2 => ?_)
       rw [H.un j (by omega), if_pos (show touched m.words j = true from List.any_eq_true.2 ⟨p, hm, by simp only [decide_eq_true j1, decide_eq_true j2, Bool.and_self]⟩), nz_splice _ _ _ _ (by omega), if_pos ⟨j1, by omega⟩]
       have e : bts 0 8 = List.replicate 8 0 := by decide
       rw [e]
       unfold nz
       rw [List.getD_eq_getElem?_getD, List.getElem?_replicate]
       split <;> rfl
     rw [e1]
     exact gnum_set (by omega) ⟨by omega, by omega⟩
   · left
     intro j j1 j2
     have hnt : touched m.words j = false := by
       cases ht : touched m.words j with
       | false => rfl
       | true =>
         obtain ⟨a, ha, h9⟩ := List.any_eq_true.1 ht
         have h10 := (H.ws a ha).2.2.1
         simp at h9
         have : a = p := by omega
         subst this
         exact absurd ha hm
     have h9 := H.un j (by omega)
     rw [hnt] at h9
     exact h9.symm
 · cases ht : touched m.words j with
   | false =>
     left
     have h9 := H.un j hj
     rw [ht] at h9
     exact h9.symm
   | true =>
     right
     obtain ⟨a, ha, h9⟩ := List.any_eq_true.1 ht
     simp at h9
     exact ⟨a, (hwl2 a ha).2, (hwl2 a ha).1, h9.1, h9.2⟩
end Go.Proofs.YtgcmbgniaffdlaaGreat
