import Derived.Test.YtgcmbgniaffdlaaGreatScSr
import Derived.Test.YtgcmbgniaffdlaaGreatEaA
import Derived.Test.YtgcmbgniaffdlaaGreatScRows
set_option linter.unusedVariables false
set_option maxRecDepth 100000
set_option linter.unusedSimpArgs false
namespace Go.Proofs.YtgcmbgniaffdlaaGreat
open Go.RowKit Go.Shelf
theorem scanAt.uniq {zs : List Int} : ∀ {L L' : List SR} {pl : Int}, scanAt zs pl L -> scanAt zs pl L' -> L = L'
 | [], [], _, _, _ => rfl
 | [], r :: L', _, h, h' => absurd h'.2.1 (noOb.not h h'.1)
 | r :: L, [], _, h, h' => absurd h.2.1 (noOb.not h' h.1)
 | r :: L, r' :: L', pl, ⟨e, hr, hl⟩, ⟨e', hr', hl'⟩ => by
   have : r = r' := hr.same hr' (by omega)
   subst this
   rw [hl.uniq hl']
theorem linkS_in {lo : Nat} {L L' : List SR} {p : Nat} (h : LinkS lo L p) : LinkS lo (L ++ L') p := by
 rcases h with h | h | ⟨r, hr, h⟩
 · exact .inl h
 · exact .inr (.inl h)
 · exact .inr (.inr ⟨r, List.mem_append_left _ hr, h⟩)
theorem linkS_room {zs : List Int} {r : SR} (hr : r.Is zs) {p : Nat} (h : linkS r p) : r.j + 16 <= p /\ p + 8 <= r.j + r.s /\ p % 8 = 0 := by
 have h1 := hr.bare0
 have h2 := hr.at_.al
 have h3 := right_may hr.at_ hr.parts.1
 have h4 := h3.2.1
 rcases h with ⟨hk, i, i1, i2, rfl⟩ | ⟨hk, i, i1, i2, rfl⟩ | ⟨hk, rfl | ⟨i, hi, rfl⟩⟩
 all_goals
   rw [hk] at h4
 · have e : frontN ((1 : Nat) : Int) = 56 := rfl
   rw [e] at h4; omega
 · have e : frontN ((2 : Nat) : Int) = 40 := rfl
   rw [e] at h4; omega
 · have e : frontN ((4 : Nat) : Int) = 24 := rfl
   rw [e] at h4; omega
 · have e : frontN ((4 : Nat) : Int) = 24 := rfl
   rw [e] at h4; omega
theorem scanAt.right {zs : List Int} : ∀ {L L' : List SR} {pl : Int}, scanAt zs pl (L ++ L') -> scanAt zs (lastE pl L) L'
 | [], _, _, h => h
 | r :: L, L', pl, ⟨e, hr, hl⟩ => hl.right
section
variable {lo : Nat} {b b' b'' : List Int} {L L2 : List SR}
theorem Later.refl (hL : scanAt b lo L) (hl : lastE lo L = b.length) : Later lo b b L :=
 ⟨Nat.le_refl _, ⟨hL, hl⟩, ⟨[], by rw [List.append_nil]; exact ⟨hL, hl⟩⟩, fun p _ _ => .inl (fun j _ _ => rfl), fun j _ => .inl rfl⟩
theorem Later.low (h : Later lo b b' L) : lo <= b.length := by
 by_cases hL : L = []
 · have h8 := h.scan.2
   rw [hL] at h8
   have h8' : (lo : Int) = b.length := h8
   omega
 · have h8 := h.scan.1.last hL
   have h9 := h.scan.2
   omega
theorem Later.trans (hlo : 200 <= lo) (h : Later lo b b' L) (h2 : Later lo b' b'' L2) : Later lo b b'' L := by
 obtain ⟨L', hm1, hm2⟩ := h.more
 obtain ⟨L3, hn1, hn2⟩ := h2.more
 obtain rfl := scanAt.uniq h2.scan.1 hm1
 have hlen := h.len
 have hlen2 := h2.len
 have inner : ∀ p, LinkS lo (L ++ L') p -> p < b.length -> LinkS lo L p := fun p hp hpl => by
   rcases hp with h1 | h1 | ⟨r, hr, h1⟩
   · exact .inl h1
   · exact .inr (.inl h1)
   · rcases List.mem_append.1 hr with hr | hr
     · exact .inr (.inr ⟨r, hr, h1⟩)
     · exfalso
       have hri := hm1.mem r (List.mem_append_right _ hr)
       have h3 := (linkS_room hri h1).1
       have h4 := hm1.right.low r hr
       rw [h.scan.2] at h4
       omega
 refine ⟨by omega, h.scan, ⟨L' ++ L3, by rw [<- List.append_assoc]; exact hn1, by rw [<- List.append_assoc]; exact hn2⟩, fun p hp hpl => ?_, fun j hj => ?_⟩
 · have h3 := h.words p hp hpl
   have h4 := h2.words p (linkS_in hp) (by omega)
   rcases h4 with h4 | ⟨h4, h5⟩
   · have e4 : gnum b'' (p : Nat) 8 = gnum b' (p : Nat) 8 := gnum_nz (by omega) (by omega) h4
     rcases h3 with h3 | ⟨h3, h6⟩
     · exact .inl (fun j j1 j2 => (h4 j j1 j2).trans (h3 j j1 j2))
     · exact .inr ⟨h3, by rw [e4]; exact h6⟩
   · rcases h3 with h3 | ⟨h3, h6⟩
     · have e3 : gnum b' (p : Nat) 8 = gnum b (p : Nat) 8 := gnum_nz hpl (by omega) h3
       exact .inr ⟨by rw [<- e3]; exact h4, by omega⟩
     · exact .inr ⟨h3, by omega⟩
 · rcases h2.else_ j (by omega) with h3 | ⟨p, hp, hpl, h4, h5⟩
   · rcases h.else_ j hj with h6 | h6
     · exact .inl (h3.trans h6)
     · exact .inr h6
   · by_cases hpb : p < b.length
     · have hpi := inner p hp hpb
       refine .inr ⟨p, hpi, ?_, h4, h5⟩
       have hlow := h.low
       rcases hpi with h1 | h1 | ⟨r, hr, h1⟩
       · omega
       · omega
       · have hri := h.scan.1.mem r hr
         have h3 := linkS_room hri h1
         have h8 := hri.room
         omega
     · omega
end
theorem done_later {hI hM k d f : Int} {w : World} {base : Nat} {S : Nat -> Prop} {p lim : Nat} {was : List Int} {R : List DR} {O : List GO} {Lr : List Int} {tl cnt : Nat} (h : EX hI hM k d f w base S p lim was R O Lr tl cnt) (hb : tl <= 1099511627776) :
 Calls Tryz.prog 14 #[.pointer (some ⟨p, 0, none⟩)] w fun e w' => e = .returned (.tuple #[]) /\ Chg S w w' /\ ∃ bs L, ED hI hM k d f w' base (grow S w w') p lim bs R O Lr tl /\ Later (newK d f) was bs L := by
 obtain ⟨⟨m, bv, sv, l, H, V, hg, rfl, rfl, htl, hcnt⟩, hsm, hk⟩ := id h
 refine (idone_any w H).mono ?_
 rintro e w' ⟨rfl, hchg, bv', sv', H'⟩
 obtain ⟨L, hL⟩ := hg.later V.db.gb (newK_low d f V.db.hD V.db.hF).1
 exact ⟨rfl, hchg, m.b, L, ⟨⟨m.done, bv', sv', l, H', V, hg.done V.db.gb, rfl, rfl, rfl, rfl⟩, ⟨hsm.1, by omega, htl⟩, hk⟩, hL⟩
def wordsOf (r : SR) : List Nat := if r.k = 1 then [r.j + 24, r.j + 32, r.j + 40, r.j + 48] else if r.k = 2 then [r.j + 24, r.j + 32] else if r.k = 4 then (r.j + 16) :: (List.range ((r.s - 24) / 8)).map (fun i => r.j + 24 + 8 * i) else []
def wordsS (lo : Nat) (L : List SR) : List Nat := 192 :: ((List.range ((lo - 256) / 8)).map (fun i => 256 + 8 * i) ++ L.flatMap wordsOf)
theorem mem_wordsOf (r : SR) (p : Nat) : p ∈ wordsOf r ↔ linkS r p := by
 unfold wordsOf linkS
 by_cases h1 : r.k = 1
 · rw [if_pos h1]
   simp only [List.mem_cons, List.not_mem_nil, or_false]
   constructor
   · intro h
     refine .inl ⟨h1, ?_⟩
     rcases h with h | h | h | h
     · exact ⟨1, by omega, by omega, by omega⟩
     · exact ⟨2, by omega, by omega, by omega⟩
     · exact ⟨3, by omega, by omega, by omega⟩
     · exact ⟨4, by omega, by omega, by omega⟩
   · rintro (⟨-, i, i1, i2, h⟩ | ⟨h2, -⟩ | ⟨h2, -⟩)
     · omega
     · omega
     · omega
 rw [if_neg h1]
 by_cases h2 : r.k = 2
 · rw [if_pos h2]
   simp only [List.mem_cons, List.not_mem_nil, or_false]
   constructor
   · intro h
     refine .inr (.inl ⟨h2, ?_⟩)
     rcases h with h | h
     · exact ⟨1, by omega, by omega, by omega⟩
     · exact ⟨2, by omega, by omega, by omega⟩
   · rintro (⟨h3, -⟩ | ⟨-, i, i1, i2, h⟩ | ⟨h3, -⟩)
     · omega
     · omega
     · omega
 rw [if_neg h2]
 by_cases h4 : r.k = 4
 · rw [if_pos h4, List.mem_cons, List.mem_map]
   constructor
   · rintro (h | ⟨i, hi, rfl⟩)
     · exact .inr (.inr ⟨h4, .inl (by omega)⟩)
     · exact .inr (.inr ⟨h4, .inr ⟨i, List.mem_range.1 hi, rfl⟩⟩)
   · rintro (⟨h3, -⟩ | ⟨h3, -⟩ | ⟨-, h | ⟨i, hi, h⟩⟩)
     · omega
     · omega
     · exact .inl (by omega)
     · exact .inr ⟨i, List.mem_range.2 hi, h.symm⟩
 · rw [if_neg h4]
   constructor
   · intro h; cases h
   · rintro (⟨h3, -⟩ | ⟨h3, -⟩ | ⟨h3, -⟩) <;> omega
theorem mem_wordsS {lo : Nat} (hlo : 256 <= lo) (h8 : lo % 8 = 0) (L : List SR) (p : Nat) : p ∈ wordsS lo L ↔ LinkS lo L p := by
 unfold wordsS LinkS
 rw [List.mem_cons, List.mem_append, List.mem_map, List.mem_flatMap]
 refine or_congr Iff.rfl (or_congr ⟨?_, ?_⟩ ⟨?_, ?_⟩)
 · rintro ⟨i, hi, rfl⟩
   have := List.mem_range.1 hi
   omega
 · rintro ⟨h1, h2, h3⟩
   exact ⟨(p - 256) / 8, List.mem_range.2 (by omega), by omega⟩
 · rintro ⟨r, hr, h⟩
   exact ⟨r, hr, (mem_wordsOf r p).1 h⟩
 · rintro ⟨r, hr, h⟩
   exact ⟨r, hr, (mem_wordsOf r p).2 h⟩
theorem bts_word {c : List Int} {k : Nat} (hc : AreB c) (hk : k + 8 <= c.length) : bts (gnum c (k : Nat) 8) 8 = (c.drop k).take 8 /\ IsU (gnum c (k : Nat) 8) := by
 have g1 : gok c.length (k : Nat) 8 = true := by simp [gok]; omega
 have hb : AreB ((c.drop k).take 8) := (hc.drop k).take 8
 have hl : ((c.drop k).take 8).length = 8 := by rw [List.length_take, List.length_drop]; omega
 have e : gnum c (k : Nat) 8 = lev ((c.drop k).take 8) := by unfold gnum; rw [g1]; rfl
 rw [e]
 exact ⟨bts_lev hb hl, lev8_lt hb (by omega)⟩
theorem GB.links_lay {lo : Nat} (hlo : 256 <= lo) {c : List Int} (hc : AreB c) : ∀ (ws : List Nat) {b : List Int} {l : List GO}, GB lo b l -> (∀ a ∈ ws, LinkG lo l a /\ a + 8 <= c.length) -> ∃ g, Shp g l /\ GB lo (layW c b ws) (l.map g)
 | [], b, l, H, _ => ⟨id, fun r _ => ⟨rfl, rfl, rfl, rfl, rfl⟩, by rw [List.map_id]; exact H⟩
 | k :: ws, b, l, H, h => by
   obtain ⟨e, hu⟩ := bts_word hc (h k (by simp)).2
   obtain ⟨g, hg, H1⟩ := H.link_set hlo (h k (by simp)).1 hu
   rw [e] at H1
   obtain ⟨g2, hg2, H2⟩ := GB.links_lay hlo hc ws H1 (fun a ha => ⟨(LinkG.map hg a).2 (h a (by simp [ha])).1, (h a (by simp [ha])).2⟩)
   refine ⟨g2 ∘ g, hg.trans hg2, ?_⟩
   rw [<- List.map_map]
   exact H2
structure Mixed (b b' c : List Int) : Prop where
 len : c.length = b.length
 by_ : AreB c
 al : b.length % 8 = 0
 word : ∀ i, 8 * i + 8 <= b.length -> (∀ j, 8 * i <= j -> j < 8 * i + 8 -> nz c j = nz b j) ∨ (∀ j, 8 * i <= j -> j < 8 * i + 8 -> nz c j = nz b' j)
section
variable {lo : Nat} {b b' c : List Int} {L : List SR} {l : List GO}
theorem Later.fit (H : Later lo b b' L) (hlo : 256 <= lo) {p : Nat} (hp : LinkS lo L p) : p + 8 <= b.length /\ p % 8 = 0 := by
 have hlow := H.low
 rcases hp with h | h | ⟨r, hr, h⟩
 · omega
 · omega
 · have hri := H.scan.1.mem r hr
   have h3 := linkS_room hri h
   have h4 := hri.room
   omega
theorem Mixed.link (M : Mixed b b' c) (H : Later lo b b' L) (hlo : 256 <= lo) {p : Nat} (hp : LinkS lo L p) : (∀ j, p <= j -> j < p + 8 -> nz c j = nz b j) ∨ (gnum b (p : Nat) 8 = 0 /\ (b.length : Int) <= gnum c (p : Nat) 8) := by
 have hf := H.fit hlo hp
 have hlen := H.len
 have e : 8 * (p / 8) = p := by omega
 have h1 := M.word (p / 8) (by omega)
 rw [e] at h1
 rcases h1 with h1 | h1
 · exact .inl h1
 · rcases H.words p hp hf.1 with h2 | ⟨h2, h3⟩
   · exact .inl (fun j j1 j2 => (h1 j j1 j2).trans (h2 j j1 j2))
   · have hcg : gnum c (p : Nat) 8 = gnum b' (p : Nat) 8 := gnum_nz (by omega) (by have := M.len; omega) h1
     exact .inr ⟨h2, by rw [hcg]; exact h3⟩
theorem Mixed.rest (M : Mixed b b' c) (H : Later lo b b' L) (hlo : 256 <= lo) {j : Nat} (hj : j < b.length) (hn : ∀ p, LinkS lo L p -> ¬ (p <= j /\ j < p + 8)) : nz c j = nz b j := by
 have hal := M.al
 rcases M.word (j / 8) (by omega) with h1 | h1
 · exact h1 j (by omega) (by omega)
 · rcases H.else_ j hj with h2 | ⟨p, hp, -, h3, h4⟩
   · exact (h1 j (by omega) (by omega)).trans h2
   · exact absurd ⟨h3, h4⟩ (hn p hp)
theorem Mixed.scan (M : Mixed b b' c) (H : Later lo b b' L) (hlo : 256 <= lo) (h8 : lo % 8 = 0) (G : GB lo b l) (hL : L = l.map (Go.Proofs.YtgcmbgniaffdlaaGreat.srG b)) : scanAt c lo L /\ lastE lo L = c.length := by
 have hml := M.len
 have hws : ∀ a ∈ wordsS lo L, LinkS lo L a := fun a ha => (mem_wordsS hlo h8 L a).1 ha
 have hws8 : ∀ a ∈ wordsS lo L, a + 8 <= c.length := fun a ha => by have := (H.fit hlo (hws a ha)).1; omega
 obtain ⟨g, hg, H1⟩ := GB.links_lay hlo M.by_ (wordsS lo L) G (fun a ha => ⟨by
   have := hws a ha
   rw [hL] at this
   exact (LinkS_iff G (fun r hr => hr) a).1 this, hws8 a ha⟩)
 have e : layW c b (wordsS lo L) = c := by
   refine ext_nz (layW_length _ _ _ hml.symm hws8) fun j hj => ?_
   rw [layW_length _ _ _ hml.symm hws8] at hj
   rw [nz_layW _ _ _ hml.symm hws8]
   cases ht : touched (wordsS lo L) j with
   | true => rfl
   | false =>
     refine (M.rest H hlo (by omega) (fun p hp hpj => ?_)).symm
     have : touched (wordsS lo L) j = true := List.any_eq_true.2 ⟨p, (mem_wordsS hlo h8 L p).2 hp, by simp only [decide_eq_true hpj.1, decide_eq_true hpj.2, Bool.and_self]⟩
     rw [ht] at this; cases this
 rw [e] at H1
 have h9 := Go.Proofs.YtgcmbgniaffdlaaGreat.scan_fill H1.fill (fun r hr => H1.srG hr)
 have e2 : (l.map g).map (Go.Proofs.YtgcmbgniaffdlaaGreat.srG c) = L := by
   rw [hL, List.map_map]
   refine List.map_congr_left fun r hr => ?_
   exact srG_shp hg hr (G.srG hr) (H1.srG (List.mem_map.2 ⟨r, hr, rfl⟩))
 rw [e2] at h9
 exact h9
def cutF (t : Int) : List Nat -> List Int × List Nat -> List Int × List Nat
 | [], s => s
 | w :: ws, s => cutF t ws (if t <= gnum s.1 (w : Nat) 8 then (splice s.1 w (List.replicate 8 0), s.2 ++ [w]) else s)
structure CutAt (lo : Nat) (b : List Int) (L : List SR) (out : List Int) : Prop where
 len : out.length = b.length
 link : ∀ p, LinkS lo L p -> (∀ j, p <= j -> j < p + 8 -> nz out j = nz b j) ∨ (gnum b (p : Nat) 8 = 0 /\ (b.length : Int) <= gnum out (p : Nat) 8)
 rest : ∀ j, j < b.length -> (∀ p, LinkS lo L p -> ¬ (p <= j /\ j < p + 8)) -> nz out j = nz b j
theorem CutAt.step {out : List Int} (C : CutAt lo b L out) (hb : AreB b) (H : Later lo b b' L) (hlo : 256 <= lo) (hcl : ∀ p, LinkS lo L p -> gnum b (p : Nat) 8 < b.length) {w : Nat} (hw : LinkS lo L w) :
 CutAt lo b L (if (b.length : Int) <= gnum out (w : Nat) 8 then splice out w (List.replicate 8 0) else out) /\ (∀ j, w <= j -> j < w + 8 -> nz (if (b.length : Int) <= gnum out (w : Nat) 8 then splice out w (List.replicate 8 0) else out) j = nz b j) /\
 ∀ p, LinkS lo L p -> (∀ j, p <= j -> j < p + 8 -> nz out j = nz b j) -> ∀ j, p <= j -> j < p + 8 -> nz (if (b.length : Int) <= gnum out (w : Nat) 8 then splice out w (List.replicate 8 0) else out) j = nz b j := by
 have hf := H.fit hlo hw
 have hl := C.len
 have l8 : (List.replicate 8 (0 : Int)).length = 8 := rfl
 have hclw := hcl w hw
 by_cases hge : (b.length : Int) <= gnum out (w : Nat) 8
 · rw [if_pos hge]
   have hz : gnum b (w : Nat) 8 = 0 := by
     rcases C.link w hw with h1 | h1
     · have : gnum out (w : Nat) 8 = gnum b (w : Nat) 8 := gnum_nz hf.1 (by omega) h1
       omega
     · exact h1.1
   have hwz := word_zero hb hf.1 hz
   have hsp : ∀ j, nz (splice out w (List.replicate 8 0)) j = if w <= j /\ j < w + 8 then 0 else nz out j := fun j => by
     rw [nz_splice _ _ _ _ (by omega), l8]
     split
     · unfold nz
       rw [List.getD_eq_getElem?_getD, List.getElem?_replicate]
       split <;> rfl
     · rfl
   have hme : ∀ j, w <= j -> j < w + 8 -> nz (splice out w (List.replicate 8 0)) j = nz b j := fun j j1 j2 => by rw [hsp, if_pos ⟨j1, j2⟩, hwz j j1 j2]
   have hoth : ∀ p, LinkS lo L p -> p ≠ w -> ∀ j, p <= j -> j < p + 8 -> nz (splice out w (List.replicate 8 0)) j = nz out j := fun p hp hpw j j1 j2 => by
     have hfp := H.fit hlo hp
     rw [hsp, if_neg (by omega)]
   have hlen : (splice out w (List.replicate 8 0)).length = b.length := by rw [splice_len _ _ _ (by rw [l8]; omega)]; exact hl
   refine ⟨⟨hlen, fun p hp => ?_, fun j hj hn => ?_⟩, hme, fun p hp h1 j j1 j2 => ?_⟩
   · by_cases e : p = w
     · subst e; exact .inl hme
     · have hfp := H.fit hlo hp
       rcases C.link p hp with h1 | ⟨h1, h2⟩
       · exact .inl (fun j j1 j2 => (hoth p hp e j j1 j2).trans (h1 j j1 j2))
       · exact .inr ⟨h1, by rw [gnum_nz (b := out) (by omega) (by omega) (hoth p hp e)]; exact h2⟩
   · rw [hsp, if_neg (hn w hw)]
     exact C.rest j hj hn
   · by_cases e : p = w
     · subst e; exact hme j j1 j2
     · exact (hoth p hp e j j1 j2).trans (h1 j j1 j2)
 · rw [if_neg hge]
   refine ⟨C, ?_, fun p _ h => h⟩
   rcases C.link w hw with h1 | h1
   · exact h1
   · exact absurd h1.2 hge
theorem CutAt.all (hb : AreB b) (H : Later lo b b' L) (hlo : 256 <= lo) (hcl : ∀ p, LinkS lo L p -> gnum b (p : Nat) 8 < b.length) : ∀ (ws : List Nat) (out : List Int) (ct : List Nat), CutAt lo b L out -> (∀ w ∈ ws, LinkS lo L w) ->
 (∀ p, LinkS lo L p -> p ∈ ws ∨ ∀ j, p <= j -> j < p + 8 -> nz out j = nz b j) -> (cutF b.length ws (out, ct)).1 = b
 | [], out, ct, C, _, hd => by
   show out = b
   refine ext_nz C.len fun j hj => ?_
   have hl := C.len
   by_cases h : ∃ p, LinkS lo L p /\ p <= j /\ j < p + 8
   · obtain ⟨p, hp, h1, h2⟩ := h
     rcases hd p hp with h3 | h3
     · cases h3
     · exact h3 j h1 h2
   · exact C.rest j (by omega) (fun p hp h9 => h ⟨p, hp, h9⟩)
 | w :: ws, out, ct, C, hw, hd => by
   obtain ⟨C2, h1, h2⟩ := C.step hb H hlo hcl (hw w (by simp))
   have hd2 : ∀ p, LinkS lo L p -> p ∈ ws ∨ ∀ j, p <= j -> j < p + 8 -> nz (if (b.length : Int) <= gnum out (w : Nat) 8 then splice out w (List.replicate 8 0) else out) j = nz b j := fun p hp => by
     rcases hd p hp with h3 | h3
     · rcases List.mem_cons.1 h3 with rfl | h3
       · exact .inr h1
       · exact .inl h3
     · exact .inr (h2 p hp h3)
   show (cutF b.length ws (if (b.length : Int) <= gnum out (w : Nat) 8 then (splice out w (List.replicate 8 0), ct ++ [w]) else (out, ct))).1 = b
   split
   · rw [if_pos (by assumption)] at C2 hd2
     exact CutAt.all hb H hlo hcl ws _ _ C2 (fun q hq => hw q (by simp [hq])) hd2
   · rw [if_neg (by assumption)] at C2 hd2
     exact CutAt.all hb H hlo hcl ws _ _ C2 (fun q hq => hw q (by simp [hq])) hd2
theorem Mixed.cut (M : Mixed b b' c) (H : Later lo b b' L) (hlo : 256 <= lo) (h8 : lo % 8 = 0) (hb : AreB b) (hcl : ∀ p, LinkS lo L p -> gnum b (p : Nat) 8 < b.length) : (cutF b.length (wordsS lo L) (c, [])).1 = b :=
 CutAt.all hb H hlo hcl _ _ _ ⟨M.len, fun p hp => M.link H hlo hp, fun j hj hn => M.rest H hlo hj hn⟩ (fun w hw => (mem_wordsS hlo h8 L w).1 hw) (fun p hp => .inl ((mem_wordsS hlo h8 L p).2 hp))
end
attribute [local go_sem] Oper.semAt_some
def nI (l : List Nat) : List Int := l.map (fun i : Nat => (i : Int))
theorem nI_app (a b : List Nat) : nI (a ++ b) = nI a ++ nI b := by unfold nI; rw [List.map_append]
theorem nI_len (a : List Nat) : (nI a).length = a.length := by unfold nI; rw [List.length_map]
def linksOf (r : SR) : List Nat := if r.k = 1 then [24, 32, 40, 48] else if r.k = 2 then [24, 32] else if r.k = 4 then 16 :: (List.range ((r.s - 24) / 8)).map (fun i => 24 + 8 * i) else []
theorem wordsOf_links (r : SR) : wordsOf r = (linksOf r).map (fun q => r.j + q) := by
 unfold wordsOf linksOf
 by_cases h1 : r.k = 1
 · rw [if_pos h1, if_pos h1]; rfl
 rw [if_neg h1, if_neg h1]
 by_cases h2 : r.k = 2
 · rw [if_pos h2, if_pos h2]; rfl
 rw [if_neg h2, if_neg h2]
 by_cases h4 : r.k = 4
 · rw [if_pos h4, if_pos h4, List.map_cons, List.map_map]
   congr 1
   refine List.map_congr_left fun i _ => ?_
   show r.j + 24 + 8 * i = r.j + (24 + 8 * i)
   omega
 · rw [if_neg h4, if_neg h4]; rfl
theorem linksOf_len (r : SR) : (linksOf r).length = (wordsOf r).length := by rw [wordsOf_links, List.length_map]
theorem arr_its {zs : List Int} {r : SR} (h : r.Is zs) (hk : r.k = 4) : (r.its zs).length = (r.s - 24) / 8 /\ r.s <= zs.length := by
 have h1 := h.bare0
 have h2 := h.room
 obtain ⟨-, h3, h4⟩ := right_may h.at_ h.parts.1
 have e4 : frontN ((4 : Nat) : Int) = 24 := rfl
 unfold SR.its
 rw [hk] at h3 ⊢
 rw [e4] at h3
 rw [dI_length, objB_length h.at_.fit, e4]
 rw [if_pos (show hasI ((4 : Nat) : Int) = true from rfl)]
 exact ⟨rfl, by omega⟩
theorem oat_lit (i v : Int) (w : World) (h0 : 0 <= i) (h : i <= 1099511627776) (hv : 16 + 8 * i = v) : Calls Tryz.prog 128 #[.int .i64 i] w fun e w' => e = .returned (.int .i64 v) /\ w = w' := by
 subst hv; exact oat_any i w h0 h
theorem oitem_4 (k : Nat) (w : World) (h : k <= 1099511627776) : Calls Tryz.prog 144 #[.int .i64 4, .int .i64 k] w fun e w' => e = .returned (.int .i64 ((24 + 8 * k : Nat) : Int)) /\ w = w' := by
 have h1 := oitem_any 4 k w (by omega) (by omega)
 have e : frontN 4 + 8 * (k : Int) = ((24 + 8 * k : Nat) : Int) := by
   have : frontN 4 = 24 := rfl
   rw [this]; omega
 rw [e] at h1
 exact h1
def arrW (k : Nat) : List Nat := 16 :: (List.range k).map (fun i => 24 + 8 * i)
theorem arrW_len (k : Nat) : (arrW k).length = k + 1 := by unfold arrW; rw [List.length_cons, List.length_map, List.length_range]
theorem arrW_next (k : Nat) : arrW (k + 1) = arrW k ++ [24 + 8 * k] := by unfold arrW; rw [List.range_succ, List.map_append]; rfl
theorem lit_at {w : World} {base g n : Nat} (hg : w.heap.size = g) (cs : Array Value) (hb : base <= g) (hm : n <= maxLen) (hs : cs.size = n) : (w.alloc (.cells cs 3)).ownsRow base 3 1 (.slice (some ⟨g, 0, none⟩) n n) n cs.toList := by
 subst hg; exact World.ownsRow_lit w cs n hb hm (by omega)
set_option maxHeartbeats 2000000 in
theorem links_any {zs : List Int} {x : So} {w : World} (hx : x.lies zs w) (hi : x.r.Is zs) (hl : zs.length <= 1099511627776) :
 Calls Tryz.prog 100 #[x.v] w fun e w' => ∃ v, e = .returned v /\ w'.ownsRow w.heap.size 3 1 v (linksOf x.r).length (cellsOf .i64 (nI (linksOf x.r))) /\ Below w.heap.size w w' := by
 obtain ⟨k, hk⟩ : ∃ k, x.r.k = k := ⟨_, rfl⟩
 have hb0 : Below w.heap.size w (w.alloc (.cells #[.int .i64 x.r.k, .slice x.A x.n x.c, .slice x.B x.m x.d, .slice x.C x.p x.q] 128)) := boxed w _
 dsimp only [So.v, obV]
 by_cases h1 : x.r.k = 1
 · have HE : Hid (linksOf x.r = [24, 32, 40, 48]) := Lib.hid (by unfold linksOf; rw [if_pos h1])
   have hn : (x.r.k : Int) = 1 := by omega
   rw [hn] at hb0 ⊢
   have HB := Lib.hid hb0
   clear hb0 hx hi hk h1 hn
   go_enter Tryz.func100, Tryz.ntmps100
   go_wp2_with (first
     | (go_at_call 128; refine (oat_lit 1 24 _ (by decide) (by decide) rfl).mono ?_; rintro e w1 ⟨rfl, rfl⟩)
     | (go_at_call 128; refine (oat_lit 2 32 _ (by decide) (by decide) rfl).mono ?_; rintro e w1 ⟨rfl, rfl⟩)
     | (go_at_call 128; refine (oat_lit 3 40 _ (by decide) (by decide) rfl).mono ?_; rintro e w1 ⟨rfl, rfl⟩)
     | (go_at_call 128; refine (oat_lit 4 48 _ (by decide) (by decide) rfl).mono ?_; rintro e w1 ⟨rfl, rfl⟩))
   go_ret
   rw [HE.out]
   exact ⟨_, rfl, lit_at (World.size_alloc _ _) #[.int .i64 24, .int .i64 32, .int .i64 40, .int .i64 48] (n := 4) (by omega) (by decide) rfl, HB.out.alloc HB.out.size _⟩
 by_cases h2 : x.r.k = 2
 · have HE : Hid (linksOf x.r = [24, 32]) := Lib.hid (by unfold linksOf; rw [if_neg h1, if_pos h2])
   have hn : (x.r.k : Int) = 2 := by omega
   rw [hn] at hb0 ⊢
   have HB := Lib.hid hb0
   clear hb0 hx hi hk h1 h2 hn
   go_enter Tryz.func100, Tryz.ntmps100
   go_wp2_with (first
     | (go_at_call 128; refine (oat_lit 1 24 _ (by decide) (by decide) rfl).mono ?_; rintro e w1 ⟨rfl, rfl⟩)
     | (go_at_call 128; refine (oat_lit 2 32 _ (by decide) (by decide) rfl).mono ?_; rintro e w1 ⟨rfl, rfl⟩))
   go_ret
   rw [HE.out]
   exact ⟨_, rfl, lit_at (World.size_alloc _ _) #[.int .i64 24, .int .i64 32] (n := 2) (by omega) (by decide) rfl, HB.out.alloc HB.out.size _⟩
 by_cases h4 : x.r.k = 4
 · obtain ⟨ha, hs⟩ := arr_its hi h4
   have hp : (x.r.its zs).length = x.p := hx.ir.len
   have HE : Hid (linksOf x.r = arrW x.p) := Lib.hid (by unfold linksOf arrW; rw [if_neg h1, if_neg h2, if_pos h4, <- ha, hp])
   have hn : (x.r.k : Int) = 4 := by omega
   obtain ⟨p, hpp⟩ : ∃ p, x.p = p := ⟨_, rfl⟩
   have hpl : p <= 1099511627776 := by omega
   rw [hn, hpp] at hb0 ⊢
   rw [hpp] at HE
   have HB := Lib.hid hb0
   obtain ⟨i0, hi0, hz0, hz1, hz2⟩ := info_parts intInfo17
   have hbx : Blk (w.alloc (.cells #[.int .i64 4, .slice x.A x.n x.c, .slice x.B x.m x.d, .slice x.C p x.q] 128)) w.heap.size 128 #[.int .i64 4, .slice x.A x.n x.c, .slice x.B x.m x.d, .slice x.C p x.q] := Blk.new _ _ _
   clear hb0 hx hi hk h1 h2 h4 hn ha hs hp hpp
   go_enter Tryz.func100, Tryz.ntmps100
   go_wp2_with (go_at_call 128; refine (oat_lit 0 16 _ (by decide) (by decide) rfl).mono ?_; rintro e w1 ⟨rfl, rfl⟩)
   go_loopw [3, 26] (fun v i wr => ∃ (k : Nat), k <= p /\ i = .int .i64 k /\ wr.ownsRow w.heap.size 3 1 v (k + 1) (cellsOf .i64 (nI (arrW k))) /\ Below w.heap.size w wr) (fun _ i _ => p - (intOf i).toNat)
   case atStart => exact ⟨0, Nat.zero_le _, rfl, lit_at (World.size_alloc _ _) #[.int .i64 16] (n := 1) (by omega) (by decide) rfl, HB.out.alloc HB.out.size _⟩
   case round =>
     obtain ⟨k, hk, rfl, hown, hbw⟩ := hrel
     obtain ⟨A1, c1, rfl, -, -⟩ := own_form hown
     have HO := Lib.hid hown
     by_cases hlt : k < p
     · have s2 : k + 1 + 1 <= maxLen := by unfold maxLen; omega
       have s3 : (k + 1 + 1) * 8 <= 140737488355328 := by omega
       have hsW := hbw.size
       clear hown
       go_wp2_with (first
         | (go_at_call 144; refine (oitem_4 k _ (by omega)).mono ?_; rintro e w5 ⟨rfl, rfl⟩)
         | (at_builtin; go_loud (refine wpList_append_any _ rfl _ _ 48 rfl w.heap.size 3 i0 (.int .i64 0) 1 8 Tryz.underlying48 hi0 hz0 hz1 hz2 rfl (Nat.lt_succ_self 0) (.slice A1 (k + 1) c1) (k + 1) (cellsOf .i64 (nI (arrW k))) rfl (HO.out.alloc _) _ _ 1 1 [.int .i64 ((24 + 8 * k : Nat) : Int)] rfl (new1At rfl _ _) (intOne _) s2 s3 (by simp; omega) ?_; intro v1 w1 hown1 hg1 hat1; have H1 := Lib.hid (And.intro hown1 ((hbw.alloc hbw.size _).grown hg1 (by simp; omega) (fun g hg => (HO.out.lt g hg).1))); clear hown1 hg1 hat1)))
       go_roundw
       case rel => exact ⟨k + 1, by omega, by go_num, by rw [arrW_next, nI_app, cellsOf_append]; exact H1.out.1, H1.out.2⟩
       case measure => simp [intOf]; omega
     · obtain rfl : k = p := by omega
       clear hown
       go_wp2
       go_ret
       rw [HE.out, arrW_len]
       exact ⟨_, rfl, HO.out, hbw⟩
 · have HE : Hid (linksOf x.r = []) := Lib.hid (by unfold linksOf; rw [if_neg h1, if_neg h2, if_neg h4])
   have g1 : ((x.r.k : Int) == 1) = false := beq_false_of_ne (by omega)
   have g2 : ((x.r.k : Int) == 2) = false := beq_false_of_ne (by omega)
   have g4 : ((x.r.k : Int) == 4) = false := beq_false_of_ne (by omega)
   have HB := Lib.hid hb0
   clear hb0 hx hi hk h1 h2 h4
   go_enter Tryz.func100, Tryz.ntmps100
   go_wp2
   go_ret
   rw [HE.out]
   exact ⟨_, rfl, World.ownsRow_nil _ _ _ _, HB.out⟩
structure Above (b b' : List Int) : Prop where
 len : b'.length = b.length
 nz_ : ∀ j, 192 <= j -> nz b' j = nz b j
theorem above_splice {b zs : List Int} {a : Nat} (h : a + zs.length <= 192) (hl : 192 <= b.length) : Above b (splice b a zs) :=
 ⟨splice_len _ _ _ (by omega), fun j hj => by rw [nz_splice _ _ _ _ (by omega), if_neg (by omega)]⟩
section
variable {lo : Nat} {b b' : List Int} {l : List GO}
theorem Above.gnumA (h : Above b b') {p : Nat} (hp : 192 <= p) (hf : p + 8 <= b.length) : gnum b' (p : Nat) 8 = gnum b (p : Nat) 8 := gnum_nz hf (by have := h.len; omega) (fun j j1 _ => h.nz_ j (by omega))
theorem Above.holds (h : Above b b') {j : Nat} {x : List Int} (hj : 192 <= j) (H : HoldsB b j x) : HoldsB b' j x := by
 have hl := h.len
 have hf := H.fit
 refine ⟨by omega, ?_⟩
 have e := H.eq
 refine Eq.trans ?_ e
 refine ext_nz (by rw [List.length_take, List.length_take, List.length_drop, List.length_drop]; omega) fun i hi => ?_
 rw [List.length_take, List.length_drop] at hi
 rw [nz_take, nz_take, if_pos (by omega), if_pos (by omega), nz_drop, nz_drop]
 exact h.nz_ _ (by omega)
theorem GB.abv (H : GB lo b l) (hlo : 192 <= lo) (h : Above b b') : GB lo b' l :=
 ⟨by rw [h.len]; exact H.al, H.loal, by rw [h.len]; exact H.low, by rw [h.len]; exact H.most, fun r hr => by rw [h.len]; exact H.fine r hr, H.rise, fun r hr => h.holds (by have := (H.fine r hr).2.1; omega) (H.held r hr), by rw [h.len]; exact H.fill⟩
theorem Ch.above {p wd : Nat} {pred : GO -> Bool} (H : Ch b l p wd pred) (h : Above b b') (hp : 192 <= p) (hf : p + 8 <= b.length) : Ch b' l p wd pred := by
 unfold Ch at H ⊢
 rw [h.gnumA hp hf]
 exact H
theorem DB.above {fld : List Int -> List Int} {k d f : Int} {nl ex : Nat} (H : DB fld k d f nl ex b l) (h : Above b b') : DB fld k d f nl ex b' l := by
 have h0 := newK_low d f H.hD H.hF
 refine ⟨H.hD, H.hF, H.gb.abv (by omega) h, fun kd hk i hi => ?_, H.sum, H.uniq, fun fo hfo hk => ?_, H.own, fun p hp => ?_, fun r hr hk => by rw [h.len]; exact H.ats r hr hk, H.exl, H.nll⟩
 · have h1 := bk_root H.hD H.hF hi l
   exact (H.bks kd hk i hi).above h (H.gb.root_low (by omega) h1) (H.gb.root_fit h1).1
 · have h1 := H.fd_root hfo hk
   exact (H.flds fo hfo hk).above h (H.gb.root_low (by omega) h1) (H.gb.root_fit h1).1
 · have h1 := H.ar_root hp
   exact (H.arrs p hp).above h (H.gb.root_low (by omega) h1) (H.gb.root_fit h1).1
theorem EV.above {k d f : Int} {R : List DR} {O : List GO} {Lr : List Int} (V : EV k d f b l R O Lr) (h : Above b b') : EV k d f b' l R O Lr := ⟨V.db.above h, V.rows, V.ent, V.root, V.ahead⟩
theorem link_above {lo : Nat} (G : GB lo b l) (hlo : 256 <= lo) (h : Above b b') (hc : ∀ p, LinkG lo l p -> gnum b (p : Nat) 8 < b.length) : ∀ p, LinkG lo l p -> gnum b' (p : Nat) 8 < b'.length := fun p hp => by
 have hf := G.link_fit hlo hp
 rw [h.gnumA hf.2.2 hf.1, h.len]
 exact hc p hp
end
section
variable {k d f : Int} {w : World} {base : Nat} {S : Nat -> Prop} {p lim : Nat} {bs : List Int} {R : List DR} {O : List GO} {Lr : List Int} {tl : Nat}
structure Stands (k d f : Int) (bs : List Int) (R : List DR) (O : List GO) (Lr : List Int) (L : List SR) : Prop where
 ex : ∃ l, EV k d f bs l R O Lr /\ L = l.map (srG bs)
 closed : ∀ q, LinkS (newK d f) L q -> gnum bs (q : Nat) 8 < bs.length
 by_ : AreB bs
 scan : scanAt bs (newK d f : Nat) L /\ lastE (newK d f : Nat) L = bs.length
theorem Old.stands (h : Old k d f bs R O Lr) : ∃ L, Stands k d f bs R O Lr L := by
 obtain ⟨⟨l, V, hc⟩, hb⟩ := h
 have hs := Go.Proofs.YtgcmbgniaffdlaaGreat.scan_fill V.db.gb.fill (fun r hr => V.db.gb.srG hr)
 exact ⟨_, ⟨l, V, rfl⟩, fun q hq => hc q ((LinkS_iff V.db.gb (fun r hr => hr) q).1 hq), hb, hs⟩
theorem Stands.later {L L2 : List SR} {b' : List Int} (h : Stands k d f bs R O Lr L) (H : Later (newK d f) bs b' L2) : L2 = L := H.scan.1.uniq h.scan.1
theorem Stands.same {L : List SR} (h : Stands k d f bs R O Lr L) : Later (newK d f) bs bs L := Later.refl h.scan.1 h.scan.2
theorem Stands.mixed {L : List SR} {b' c : List Int} (h : Stands k d f bs R O Lr L) (H : Later (newK d f) bs b' L) (M : Mixed bs b' c) :
 (scanAt c (newK d f : Nat) L /\ lastE (newK d f : Nat) L = c.length) /\ (cutF bs.length (wordsS (newK d f) L) (c, [])).1 = bs := by
 obtain ⟨l, V, e⟩ := h.ex
 have h0 := newK_low d f V.db.hD V.db.hF
 have h8 := V.db.gb.loal
 exact ⟨M.scan H h0.1 h8 V.db.gb e, M.cut H h0.1 h8 h.by_ h.closed⟩
end
theorem cutF_append (t : Int) : ∀ (ws1 ws2 : List Nat) (s : List Int × List Nat), cutF t (ws1 ++ ws2) s = cutF t ws2 (cutF t ws1 s)
 | [], _, _ => rfl
 | w :: ws1, ws2, s => cutF_append t ws1 ws2 _
theorem cutF_snoc (t : Int) (ws : List Nat) (w : Nat) (s : List Int × List Nat) : cutF t (ws ++ [w]) s = if t <= gnum (cutF t ws s).1 (w : Nat) 8 then (splice (cutF t ws s).1 w (List.replicate 8 0), (cutF t ws s).2 ++ [w]) else cutF t ws s := by
 rw [cutF_append]; rfl
theorem cutF_ok (t : Int) : ∀ (ws : List Nat) (s : List Int × List Nat), AreB s.1 -> (∀ w ∈ ws, w + 8 <= s.1.length) -> (cutF t ws s).1.length = s.1.length /\ AreB (cutF t ws s).1 /\ (cutF t ws s).2.length <= s.2.length + ws.length /\ ∀ w ∈ (cutF t ws s).2, w ∈ s.2 ∨ w ∈ ws
 | [], s, hb, _ => ⟨rfl, hb, Nat.le_refl _, fun w h => .inl h⟩
 | w :: ws, s, hb, h => by
   have hw := h w (by simp)
   have hz : AreB (List.replicate 8 (0 : Int)) := fun z hz => by rw [(List.mem_replicate.1 hz).2]; omega
   have l8 : (List.replicate 8 (0 : Int)).length = 8 := rfl
   have hl : (splice s.1 w (List.replicate 8 0)).length = s.1.length := splice_len _ _ _ (by rw [l8]; omega)
   show (cutF t ws _).1.length = _ /\ AreB (cutF t ws _).1 /\ (cutF t ws _).2.length <= _ /\ ∀ q ∈ (cutF t ws _).2, _
   by_cases hc : t <= gnum s.1 (w : Nat) 8
   · rw [if_pos hc]
     obtain ⟨h1, h2, h3, h4⟩ := cutF_ok t ws (splice s.1 w (List.replicate 8 0), s.2 ++ [w]) (splice_bytes hb hz _) (fun q hq => by show q + 8 <= (splice _ _ _).length; rw [hl]; exact h q (by simp [hq]))
     refine ⟨h1.trans hl, h2, ?_, fun q hq => ?_⟩
     · have h3' : (cutF t ws (splice s.1 w (List.replicate 8 0), s.2 ++ [w])).2.length <= (s.2 ++ [w]).length + ws.length := h3
       rw [List.length_append, List.length_singleton] at h3'
       rw [List.length_cons]; omega
     · rcases h4 q hq with h5 | h5
       · rcases List.mem_append.1 h5 with h6 | h6
         · exact .inl h6
         · exact .inr (by rw [List.mem_singleton.1 h6]; simp)
       · exact .inr (by simp [h5])
   · rw [if_neg hc]
     obtain ⟨h1, h2, h3, h4⟩ := cutF_ok t ws s hb (fun q hq => h q (by simp [hq]))
     exact ⟨h1, h2, by rw [List.length_cons]; omega, fun q hq => (h4 q hq).imp id (fun h5 => by simp [h5])⟩
theorem wordsS_fit {zs : List Int} {lo : Nat} {L : List SR} (hlo : 256 <= lo) (h8 : lo % 8 = 0) (hlen : lo <= zs.length) (hL : scanAt zs lo L) : ∀ w ∈ wordsS lo L, 192 <= w /\ w + 8 <= zs.length /\ w % 8 = 0 := fun w hw => by
 rcases (mem_wordsS hlo h8 L w).1 hw with h | h | ⟨r, hr, h⟩
 · omega
 · omega
 · have hri := hL.mem r hr
   have h3 := linkS_room hri h
   have h4 := hri.room
   have h5 := hL.low r hr
   omega
theorem wordsOf_len {zs : List Int} {r : SR} (hr : r.Is zs) : 8 * (wordsOf r).length <= r.s := by
 have h4 := (right_may hr.at_ hr.parts.1).2.1
 unfold wordsOf
 by_cases h1 : r.k = 1
 · rw [if_pos h1]
   rw [h1] at h4
   have e : frontN ((1 : Nat) : Int) = 56 := rfl
   rw [e] at h4
   show 8 * 4 <= r.s; omega
 rw [if_neg h1]
 by_cases h2 : r.k = 2
 · rw [if_pos h2]
   rw [h2] at h4
   have e : frontN ((2 : Nat) : Int) = 40 := rfl
   rw [e] at h4
   show 8 * 2 <= r.s; omega
 rw [if_neg h2]
 by_cases h3 : r.k = 4
 · rw [if_pos h3, List.length_cons, List.length_map, List.length_range]
   rw [h3] at h4
   have e : frontN ((4 : Nat) : Int) = 24 := rfl
   rw [e] at h4
   omega
 · rw [if_neg h3]
   show 8 * 0 <= r.s; omega
theorem flat_len {zs : List Int} : ∀ {L : List SR} {pl : Int}, scanAt zs pl L -> L ≠ [] -> pl + 8 * (L.flatMap wordsOf).length <= zs.length
 | [], _, _, h => absurd rfl h
 | r :: L, pl, ⟨e, hr, hl⟩, _ => by
   have h1 := wordsOf_len hr
   have h2 := hr.room
   rw [List.flatMap_cons, List.length_append]
   by_cases h : L = []
   · subst h
     show pl + 8 * (((wordsOf r).length + 0 : Nat) : Int) <= _
     omega
   · have h3 := flat_len hl h
     omega
section
variable {lo : Nat} {b b' c : List Int} {L : List SR}
theorem linkS_low {zs : List Int} (hlo : 256 <= lo) (hL : scanAt zs lo L) {p : Nat} (hp : LinkS lo L p) : 192 <= p := by
 rcases hp with h | h | ⟨r, hr, h⟩
 · omega
 · omega
 · have h3 := linkS_room (hL.mem r hr) h
   have h5 := hL.low r hr
   omega
theorem take_nz {a b : List Int} {n : Nat} (h1 : n <= a.length) (h2 : n <= b.length) (h : ∀ j, j < n -> nz a j = nz b j) : a.take n = b.take n := by
 refine ext_nz (by rw [List.length_take, List.length_take]; omega) fun j hj => ?_
 rw [List.length_take] at hj
 rw [nz_take, nz_take, if_pos (by omega), if_pos (by omega)]
 exact h j (by omega)
theorem Later.head (H : Later lo b b' L) (hlo : 256 <= lo) : b'.take 192 = b.take 192 := by
 have hl := H.low
 have hn := H.len
 refine take_nz (by omega) (by omega) fun j hj => ?_
 rcases H.else_ j (by omega) with h | ⟨p, hp, -, h1, h2⟩
 · exact h
 · have := linkS_low hlo H.scan.1 hp; omega
theorem Mixed.head (M : Mixed b b' c) (H : Later lo b b' L) (hlo : 256 <= lo) : c.take 192 = b.take 192 := by
 have hl := H.low
 have hm := M.len
 refine take_nz (by omega) (by omega) fun j hj => ?_
 exact M.rest H hlo (by omega) (fun p hp h => by have := linkS_low hlo H.scan.1 hp; omega)
theorem Above.symm (h : Above b b') : Above b' b := ⟨h.len.symm, fun j hj => (h.nz_ j hj).symm⟩
end
theorem Stands.loaded {hI hM k d f : Int} {w : World} {base : Nat} {S : Nat -> Prop} {p lim : Nat} {bs : List Int} {R : List DR} {O : List GO} {Lr : List Int} {L : List SR} {bv sv : Value} {tl : Nat}
 (h : Stands k d f bs R O Lr L) (H : IX w base S p hI k d f hM ⟨bs, bs, [], lim⟩ bv sv) (hl : lim <= 1048576) (ht : bs.length <= tl) (hk : IsU k) : ED hI hM k d f w base S p lim bs R O Lr tl := by
 obtain ⟨l, V, e⟩ := h.ex
 refine ⟨⟨_, bv, sv, l, H, V, GoodL.fresh h.by_ V.db.gb (fun q hq => ?_), rfl, rfl, rfl, rfl⟩, ⟨hl, V.db.gb.most, ht⟩, hk⟩
 refine h.closed q ?_
 rw [e]
 exact (LinkS_iff V.db.gb (fun r hr => hr) q).2 hq
theorem Stands.above {k d f : Int} {bs bs' : List Int} {R : List DR} {O : List GO} {Lr : List Int} {L : List SR} (h : Stands k d f bs R O Lr L) (ha : Above bs bs') (hb : AreB bs') : Stands k d f bs' R O Lr L := by
 obtain ⟨l, V, e⟩ := h.ex
 have V2 := V.above ha
 have h0 := newK_low d f V.db.hD V.db.hF
 have hs := Go.Proofs.YtgcmbgniaffdlaaGreat.scan_fill V2.db.gb.fill (fun r hr => V2.db.gb.srG hr)
 have e2 : l.map (srG bs') = L := by
   rw [e]
   refine List.map_congr_left fun r hr => ?_
   have h1 := srG_shp (g := id) (b := bs) (b' := bs') (l := l) (fun r _ => ⟨rfl, rfl, rfl, rfl, rfl⟩) hr (V.db.gb.srG hr) (V2.db.gb.srG hr)
   exact h1
 rw [e2] at hs
 refine ⟨⟨l, V2, e2.symm⟩, fun q hq => ?_, hb, hs⟩
 rw [e] at hq
 have hq2 := (LinkS_iff V.db.gb (fun r hr => hr) q).1 hq
 exact link_above V.db.gb h0.1 ha (fun p hp => h.closed p (by rw [e]; exact (LinkS_iff V.db.gb (fun r hr => hr) p).2 hp)) q hq2
structure MixAt (b b' : List Int) (keep : Nat -> Bool) (i : Nat) (c : List Int) : Prop where
 len : c.length = b.length
 by_ : AreB c
 at_ : ∀ j, j < b.length -> nz c j = if j < 8 * i /\ keep (j / 8) = true then nz b' j else nz b j
section
variable {b b' c : List Int} {keep : Nat -> Bool} {i : Nat}
theorem MixAt.start (hb : AreB b) : MixAt b b' keep 0 b := ⟨rfl, hb, fun j _ => by rw [if_neg (by omega)]⟩
theorem MixAt.no (H : MixAt b b' keep i c) (hk : keep i = false) : MixAt b b' keep (i + 1) c := ⟨H.len, H.by_, fun j hj => by
 rw [H.at_ j hj]
 by_cases h : j < 8 * i
 · by_cases h2 : keep (j / 8) = true
   · rw [if_pos ⟨h, h2⟩, if_pos ⟨by omega, h2⟩]
   · rw [if_neg (fun e => h2 e.2), if_neg (fun e => h2 e.2)]
 · rw [if_neg (fun e => h e.1)]
   by_cases h2 : j < 8 * (i + 1)
   · have e : j / 8 = i := by omega
     rw [if_neg (fun e2 => by rw [e, hk] at e2; cases e2.2)]
   · rw [if_neg (fun e => h2 e.1)]⟩
theorem MixAt.yes (H : MixAt b b' keep i c) (hb' : AreB b') (hle : b.length <= b'.length) (hi : 8 * i + 8 <= b.length) (hk : keep i = true) : MixAt b b' keep (i + 1) (splice c (8 * i) ((b'.drop (8 * i)).take 8)) := by
 have hl := H.len
 have l8 : ((b'.drop (8 * i)).take 8).length = 8 := by rw [List.length_take, List.length_drop]; omega
 refine ⟨by rw [splice_len _ _ _ (by rw [l8]; omega)]; exact hl, splice_bytes H.by_ ((hb'.drop _).take 8) _, fun j hj => ?_⟩
 rw [nz_splice _ _ _ _ (by omega), l8]
 by_cases h : 8 * i <= j /\ j < 8 * i + 8
 · have e : j / 8 = i := by omega
   rw [if_pos h, if_pos ⟨by omega, by rw [e]; exact hk⟩, nz_take, if_pos (by omega), nz_drop, show 8 * i + (j - 8 * i) = j by omega]
 · rw [if_neg h, H.at_ j hj]
   by_cases h3 : keep (j / 8) = true
   · by_cases h2 : j < 8 * i
     · rw [if_pos ⟨h2, h3⟩, if_pos ⟨by omega, h3⟩]
     · rw [if_neg (fun e => h2 e.1), if_neg (fun e => by have := e.1; omega)]
   · rw [if_neg (fun e => h3 e.2), if_neg (fun e => h3 e.2)]
theorem MixAt.mixed (H : MixAt b b' keep i c) (hal : b.length % 8 = 0) (hi : i = b.length / 8) : Mixed b b' c := ⟨H.len, H.by_, hal, fun q hq => by
 cases hk : keep q with
 | true =>
   right
   intro j j1 j2
   have e : j / 8 = q := by omega
   rw [H.at_ j (by omega), if_pos ⟨by omega, by rw [e]; exact hk⟩]
 | false =>
   left
   intro j j1 j2
   have e : j / 8 = q := by omega
   rw [H.at_ j (by omega), if_neg (fun e2 => by rw [e, hk] at e2; cases e2.2)]⟩
end
section
variable {P : Program} {md : Region.Mode} {ops : Array Oper} {Q : Exit -> Act -> World -> Prop} {S : World -> Prop}
theorem wpAnyIn_of_any_wide {n : Nat} (hd : noDefer ops = true) (hlo : ¬ LetsOut Q) : ∀ (fuel : Nat) (listed : Array Bool) (a : Act) (w : World), wpAny P md ops Q fuel listed a w -> wpAnyIn Fence.wide n P md ops Q fuel listed a w
 | 0, _, _, _, h => h
 | fuel + 1, listed, a, w, h => ⟨h.1, fun i hi => by
   have h1 := h.2 i hi
   have ih := wpAnyIn_of_any_wide (n := n) hd hlo fuel (listed.setIfInBounds i true)
   unfold wpOp at h1
   unfold wpOpIn
   cases ho : ops[i]? with
   | none => simp only [ho] at h1 ⊢; exact ih _ _ h1
   | some o =>
     simp only [ho] at h1 ⊢
     by_cases hw : Region.wanted o (yielded ops a.tmps) = true
     · simp only [hw, if_true] at h1 ⊢
       have h2 := h1.resolve_right (fun e => hlo e.2)
       refine ⟨fun _ _ => trivial, ?_⟩
       rw [Oper.semAt_plain Fence.wide _ _ (noDefer_spec hd ho)]
       unfold Oper.wp at h2
       generalize (execOp a.eval o).run P w = r at *
       cases r with
       | ok x w' =>
         cases x with
         | value v => exact ih _ _ h2
         | skip => exact ih _ _ h2
         | defer d => exact ih _ _ h2
         | enter f args =>
           refine ⟨fun e => (by cases e), callsIn_wide.2 (h2.mono fun e w'' he => ?_)⟩
           cases e with
           | returned v => exact ih _ _ he
           | panicked c => exact he
           | outgrown => exact he
         | row row args =>
           refine ⟨fun e => (by cases e), fun c cs _ => ?_⟩
           obtain ⟨v, w', hr, hs⟩ := h2 c cs
           exact ⟨v, w', ih _ _ hr, stepsIn_wide.2 hs⟩
         | _ => exact h2.elim
       | halt x w' => cases x <;> first | exact h2 | exact h2.elim
     · simp only [hw] at h1 ⊢
       exact ⟨fun _ _ => trivial, ih _ _ h1⟩⟩
theorem region_wide {id n : Nat} {a : Act} {w : World} (z : Nat) (hm : P.follows .mixedOrders = true) (hd : noDefer ops = true) (hS : S w.drew)
 (h : S w.drew -> wpAnyZ P .any ops (OnNormal fun a w => Q .normal a w) S z ops.size (Array.replicate ops.size false) a w.drew) : (Code.region id ops true).wpIn Fence.wide n P Q a w :=
 wpIn_mono (wpIn_region_any hm (wpAnyIn_of_any_wide hd (not_letsOut _) _ _ _ _ (wpAny_of_z _ _ _ _ (h hS)))) (fun e a w h => by cases e <;> first | exact h.elim | exact h)
end
end Go.Proofs.YtgcmbgniaffdlaaGreat
