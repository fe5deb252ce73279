/-
  MERGED BY PROGRAM out of the texts ChainMath ChainList RowsMath.
-/
import Derived.Test.YtaeegcohimflbaaGreatLTa
/-
  PLAIN ARITHMETIC FOR LAYER 14 AND THOSE ABOVE: what the lists of places in a file are (arrays that stand at their places, linked list by list), and that an array put behind, and a place set in one, keep it.
-/
set_option linter.unusedVariables false
set_option maxRecDepth 100000
set_option linter.unusedSimpArgs false
namespace Go.Proofs.YtaeegcohimflbaaGreat
open Go.RowKit

structure ARow where
  t : Nat
  its : List Int
  at_ : Nat

def alen (n : Nat) : Nat := 24 + 8 * n
def aO (r : ARow) (z : Int) : List Int := encO 4 [z] [] r.its
def chainA (t : Nat) (l : List ARow) : List ARow := l.filter fun r => r.t == t

structure ARow.Fine (r : ARow) : Prop where
  len : 1 ≤ r.its.length ∧ r.its.length ≤ 1024
  us : ∀ x ∈ r.its, IsU x
  al : r.at_ % 8 = 0

theorem ARow.Fine.right {r : ARow} (h : r.Fine) (z : Int) : rightN (4 : Nat) [z].length ([] : List Int).length r.its.length = true := by
  have := h.len
  have e : (((4 : Nat) : Int)) = 4 := rfl
  rw [e]
  unfold rightN
  simp [kwN, mostN, hasI]
  omega
theorem padn_alen (n : Nat) : padn (24 + 8 * n) 8 = 0 := by
  unfold padn
  rw [if_neg (by omega), if_pos (by omega)]
theorem aO_length {z : Int} {r : ARow} (h : r.Fine) : (aO r z).length = alen r.its.length := by
  have hr := h.right z
  have e : (((4 : Nat) : Int)) = 4 := rfl
  rw [e] at hr
  unfold aO
  rw [encO_length hr]
  unfold bareN alen
  have : frontN 4 = 24 := rfl
  rw [this, List.length_nil, Nat.add_zero, padn_alen]
  rfl
theorem alen_al (n : Nat) : alen n % 8 = 0 := by unfold alen; omega

theorem aO_more {z n : Int} {r : ARow} {b : List Int} (hh : HoldsB b r.at_ (aO r z)) : HoldsB (splice b (r.at_ + 16) (bts n 8)) r.at_ (aO r n) := by
  have hs := HoldsB.set (i := 0) (n := n) hh (by simp)
  exact hs
theorem aO_word {z : Int} {r : ARow} {b : List Int} (hz : IsU z) (hh : HoldsB b r.at_ (aO r z)) : gnum b (r.at_ + 16 : Nat) 8 = z := by
  have hs := HoldsB.word (i := 0) hh (by simp) (by intro y hy; rw [List.mem_singleton.1 hy]; exact hz)
  rw [show r.at_ + (16 + 8 * 0) = r.at_ + 16 by omega] at hs
  rw [hs]; rfl

theorem aO_words (r : ARow) (z : Int) : aO r z = wordsB (4 :: (alen r.its.length : Nat) :: z :: r.its) := by
  have hl : (headO 4 [z] [] r.its).length = alen r.its.length := by rw [headO_length]; unfold alen; simp only [List.length_cons, List.length_nil]
  have hb : bareN 4 ([] : List Int).length r.its.length = alen r.its.length := by
    unfold bareN alen
    have : frontN 4 = 24 := rfl
    rw [this]; simp
  unfold aO encO
  rw [hl]
  have hp : padn (alen r.its.length) 8 = 0 := padn_alen _
  rw [hp]
  unfold headO
  rw [hb]
  simp [wordsB_cons, wordsB]
theorem aO_set {z x : Int} {r : ARow} {b : List Int} {i : Nat} (h : r.Fine) (hh : HoldsB b r.at_ (aO r z)) (hi : i < r.its.length) : HoldsB (splice b (r.at_ + 24 + 8 * i) (bts x 8)) r.at_ (aO { r with its := r.its.set i x } z) := by
  have hl := aO_length (z := z) h
  have h3 : alen r.its.length = 24 + 8 * r.its.length := rfl
  have h1 := hh.within (y := bts x 8) (o := 24 + 8 * i) (by rw [bts8_length, hl]; omega)
  have h2 := wordsB_set (4 :: (alen r.its.length : Nat) :: z :: r.its) [] (i + 3) x (by simp; omega)
  rw [List.append_nil, List.append_nil, ← aO_words, show 8 * (i + 3) = 24 + 8 * i by omega, List.set_cons_succ, List.set_cons_succ, List.set_cons_succ] at h2
  have h4 : aO { r with its := r.its.set i x } z = wordsB (4 :: (alen r.its.length : Nat) :: z :: r.its.set i x) := by
    have := aO_words { r with its := r.its.set i x } z
    rw [this]
    show wordsB (4 :: (alen (r.its.set i x).length : Nat) :: z :: r.its.set i x) = _
    rw [List.length_set]
  rw [h2, ← h4, show r.at_ + (24 + 8 * i) = r.at_ + 24 + 8 * i by omega] at h1
  exact h1

def linkedA (b : List Int) : Int → List ARow → Prop
  | p, [] => p = 0
  | p, r :: L => p = r.at_ ∧ ∃ z, IsU z ∧ HoldsB b r.at_ (aO r z) ∧ linkedA b z L
theorem linkedA_isU {b : List Int} {p : Int} : ∀ {L : List ARow}, linkedA b p L → (∀ r ∈ L, r.at_ < 18446744073709551616) → IsU p
  | [], h, _ => by rw [show p = 0 from h]; exact ⟨by omega, by omega⟩
  | r :: L, h, hb => by rw [h.1]; exact ⟨by omega, by have := hb r (by simp); omega⟩
theorem linkedA_keep {b b' : List Int} : ∀ {L : List ARow} {p : Int}, linkedA b p L → (∀ r ∈ L, ∀ z, HoldsB b r.at_ (aO r z) → HoldsB b' r.at_ (aO r z)) → linkedA b' p L
  | [], p, h, _ => h
  | r :: L, p, ⟨e, z, hu, hh, hl⟩, hk => ⟨e, z, hu, hk r (by simp) z hh, linkedA_keep hl (fun r' hr' => hk r' (by simp [hr']))⟩
theorem linkedA_snoc {b b' : List Int} {q n : ARow} (hn : (n.at_ : Int) < 18446744073709551616) : ∀ {L : List ARow} {p : Int}, linkedA b p (L ++ [q]) → (∀ r ∈ L, ∀ z, HoldsB b r.at_ (aO r z) → HoldsB b' r.at_ (aO r z)) →
    (∀ z, HoldsB b q.at_ (aO q z) → HoldsB b' q.at_ (aO q n.at_)) → HoldsB b' n.at_ (aO n 0) → linkedA b' p (L ++ [q] ++ [n])
  | [], p, ⟨e, z, hu, hh, hl⟩, _, hq, hn' => ⟨e, n.at_, ⟨by omega, hn⟩, hq z hh, rfl, 0, ⟨by omega, by omega⟩, hn', rfl⟩
  | r :: L, p, ⟨e, z, hu, hh, hl⟩, hk, hq, hn' => ⟨e, z, hu, hk r (by simp) z hh, linkedA_snoc hn hl (fun r' hr' => hk r' (by simp [hr'])) hq hn'⟩
theorem linkedA_last {b : List Int} {q : ARow} : ∀ {L : List ARow} {p : Int}, linkedA b p (L ++ [q]) → HoldsB b q.at_ (aO q 0)
  | [], p, ⟨e, z, hu, hh, hl⟩ => by rw [show z = 0 from hl] at hh; exact hh
  | r :: L, p, ⟨e, z, hu, hh, hl⟩ => linkedA_last hl
theorem linkedA_map {b b' : List Int} {f : ARow → ARow} (hf : ∀ r, (f r).at_ = r.at_) : ∀ {L : List ARow} {p : Int}, linkedA b p L → (∀ r ∈ L, ∀ z, HoldsB b r.at_ (aO r z) → HoldsB b' r.at_ (aO (f r) z)) → linkedA b' p (L.map f)
  | [], p, h, _ => h
  | r :: L, p, ⟨e, z, hu, hh, hl⟩, hk => ⟨by rw [hf]; exact e, z, hu, by rw [hf]; exact hk r (by simp) z hh, linkedA_map hf hl (fun r' hr' => hk r' (by simp [hr']))⟩

theorem apartA_of {R : ARow → ARow → Prop} : ∀ {l : List ARow}, l.Pairwise R → ∀ {r q : ARow}, r ∈ l → q ∈ l → r = q ∨ R r q ∨ R q r
  | [], _, r, q, h, _ => by cases h
  | a :: l, h, r, q, hr, hq => by
    rw [List.pairwise_cons] at h
    rcases List.mem_cons.1 hr with e | h1
    · rcases List.mem_cons.1 hq with e2 | h2
      · exact .inl (e.trans e2.symm)
      · rw [e]; exact .inr (.inl (h.1 _ h2))
    · rcases List.mem_cons.1 hq with e2 | h2
      · rw [e2]; exact .inr (.inr (h.1 _ h1))
      · exact apartA_of h.2 h1 h2

structure CB (lo : Nat) (roots : Nat → Nat) (N : Nat) (b : List Int) (l : List ARow) : Prop where
  al : b.length % 8 = 0
  low : lo ≤ b.length
  most : b.length ≤ 1099511627776
  rt : ∀ t, t < N → roots t % 8 = 0 ∧ 192 ≤ roots t ∧ roots t + 8 ≤ lo
  ap : ∀ t t', t < N → t' < N → t ≠ t' → roots t + 8 ≤ roots t' ∨ roots t' + 8 ≤ roots t
  fine : ∀ r ∈ l, r.Fine ∧ r.t < N ∧ lo ≤ r.at_ ∧ r.at_ + alen r.its.length ≤ b.length
  rise : l.Pairwise (fun r r' => r.at_ + alen r.its.length ≤ r'.at_)
  chains : ∀ t, t < N → linkedA b (gnum b (roots t : Nat) 8) (chainA t l)

theorem mem_chainA {t : Nat} {l : List ARow} {r : ARow} (h : r ∈ chainA t l) : r ∈ l ∧ r.t = t := by
  unfold chainA at h
  obtain ⟨h1, h2⟩ := List.mem_filter.1 h
  exact ⟨h1, by simpa using h2⟩
theorem chainA_snoc {t : Nat} {l : List ARow} {r : ARow} : chainA t (l ++ [r]) = if r.t = t then chainA t l ++ [r] else chainA t l := by
  unfold chainA
  rw [List.filter_append]
  by_cases h : r.t = t
  · rw [if_pos h]; simp [h]
  · rw [if_neg h]; simp [h]
def linkA (root : Nat) (L : List ARow) : Nat := match L.getLast? with
  | none => root
  | some q => q.at_ + 16

theorem CB.link {lo : Nat} {roots : Nat → Nat} {N : Nat} {b : List Int} {l : List ARow} (H : CB lo roots N b l) {t : Nat} (ht : t < N) :
    linkA (roots t) (chainA t l) + 8 ≤ b.length ∧ linkA (roots t) (chainA t l) % 8 = 0 ∧ 192 ≤ linkA (roots t) (chainA t l) ∧ gnum b (linkA (roots t) (chainA t l) : Nat) 8 = 0 := by
  have hc := H.chains t ht
  have hr := H.rt t ht
  have h1 := H.low
  obtain ⟨L, hL⟩ : ∃ L, chainA t l = L := ⟨_, rfl⟩
  have hm : ∀ r ∈ L, r ∈ l := fun r hr => (mem_chainA (hL ▸ hr)).1
  rw [hL] at hc ⊢
  rcases List.eq_nil_or_concat L with rfl | ⟨L', q, rfl⟩
  · have e : linkA (roots t) [] = roots t := rfl
    rw [e]
    exact ⟨by omega, by omega, by omega, hc⟩
  · have hq := H.fine q (hm q (by simp))
    have hw := linkedA_last (L := L') (q := q) (by rw [List.concat_eq_append] at hc; exact hc)
    have e : linkA (roots t) (L'.concat q) = q.at_ + 16 := by simp [linkA]
    rw [e]
    have h2 : alen q.its.length = 24 + 8 * q.its.length := rfl
    have h3 := hq.1.al
    have h4 := hq.1.len
    refine ⟨by omega, by omega, by omega, ?_⟩
    exact aO_word ⟨by omega, by omega⟩ hw

theorem gnum_nought {b : List Int} {p : Nat} (hp : p + 8 ≤ b.length) (hz : ∀ j, p ≤ j → nz b j = 0) : gnum b (p : Nat) 8 = 0 := by
  unfold gnum
  have g1 : gok b.length (p : Nat) 8 = true := by simp [gok]; omega
  have h8 : (8 : Int).toNat = 8 := rfl
  rw [g1, if_pos rfl, Int.toNat_natCast, h8]
  have e : (b.drop p).take 8 = List.replicate 8 0 := by
    refine ext_nz (by rw [List.length_take, List.length_drop, List.length_replicate]; omega) fun j hj => ?_
    rw [List.length_take] at hj
    rw [nz_take, if_pos (by omega), nz_drop, hz _ (by omega)]
    exact (nz_of_all (fun z hz => (List.mem_replicate.1 hz).2) j).symm
  rw [e]; decide
theorem CB.nothing {lo : Nat} {roots : Nat → Nat} {N : Nat} {b : List Int} (hl : b.length = lo) (ha : lo % 8 = 0) (hm : lo ≤ 1099511627776) (hrt : ∀ t, t < N → roots t % 8 = 0 ∧ 192 ≤ roots t ∧ roots t + 8 ≤ lo)
    (hap : ∀ t t', t < N → t' < N → t ≠ t' → roots t + 8 ≤ roots t' ∨ roots t' + 8 ≤ roots t) (hz : ∀ j, 192 ≤ j → nz b j = 0) : CB lo roots N b [] where
  al := by omega
  low := by omega
  most := by omega
  rt := hrt
  ap := hap
  fine := by intro r hr; cases hr
  rise := List.Pairwise.nil
  chains := by
    intro t ht
    have h := hrt t ht
    exact gnum_nought (by omega) (fun j hj => hz j (by omega))
def roots2 (t : Nat) : Nat := 192 + 8 * t
theorem CB.add {lo : Nat} {roots : Nat → Nat} {N : Nat} {b : List Int} {l : List ARow} (H : CB lo roots N b l) {r : ARow} (hr : r.Fine) (htN : r.t < N) (ha : r.at_ = b.length) (hm : b.length + alen r.its.length ≤ 1099511627776) :
    CB lo roots N (splice (b ++ aO r 0) (linkA (roots r.t) (chainA r.t l)) (bts (r.at_ : Nat) 8)) (l ++ [r]) := by
  obtain ⟨k1, k2, k3, k4⟩ := H.link htN
  obtain ⟨L, hL⟩ : ∃ L, chainA r.t l = L := ⟨_, rfl⟩
  rw [hL] at k1 k2 k3 k4 ⊢
  obtain ⟨p, hp⟩ : ∃ p, linkA (roots r.t) L = p := ⟨_, rfl⟩
  rw [hp] at k1 k2 k3 k4 ⊢
  have hmem : ∀ q ∈ L, q ∈ l ∧ q.t = r.t := fun q hq => mem_chainA (hL ▸ hq)
  have b8 : (bts ((r.at_ : Nat) : Int) 8).length = 8 := bts8_length _
  have hx : (aO r 0).length = alen r.its.length := aO_length hr
  have hl1 : (b ++ aO r 0).length = b.length + alen r.its.length := by rw [List.length_append, hx]
  have hl2 : (splice (b ++ aO r 0) p (bts (r.at_ : Nat) 8)).length = b.length + alen r.its.length := by rw [splice_len _ _ _ (by omega), hl1]
  have hlow := H.low
  have htl := alen_al r.its.length
  have hal := H.al
  have hrt := H.rt r.t htN
  have hcase : (L = [] ∧ p = roots r.t) ∨ ∃ L' q, L = L' ++ [q] ∧ p = q.at_ + 16 := by
    rcases List.eq_nil_or_concat L with h | ⟨L', q, h⟩
    · left; refine ⟨h, ?_⟩; rw [← hp, h]; rfl
    · right; refine ⟨L', q, by rw [h, List.concat_eq_append], ?_⟩; rw [← hp, h]; simp [linkA]
  have hstay : ∀ q ∈ l, (∀ L' q', L = L' ++ [q'] → q.at_ + alen q.its.length ≤ q'.at_ ∨ q'.at_ + alen q'.its.length ≤ q.at_) → ∀ z, HoldsB b q.at_ (aO q z) → HoldsB (splice (b ++ aO r 0) p (bts (r.at_ : Nat) 8)) q.at_ (aO q z) := by
    intro q hq hne z hh
    have hf := H.fine q hq
    refine (hh.add _).far (by omega) ?_
    rw [aO_length hf.1]
    rcases hcase with ⟨_, e⟩ | ⟨L', q', e, e2⟩
    · left; omega
    · have hq' := H.fine q' (hmem q' (by rw [e]; simp)).1
      have h4 : alen q'.its.length = 24 + 8 * q'.its.length := rfl
      rcases hne L' q' e with h | h
      · right; omega
      · left; omega
  have hnew : HoldsB (splice (b ++ aO r 0) p (bts (r.at_ : Nat) 8)) r.at_ (aO r 0) := by
    rw [ha]
    exact (HoldsB.new b _).far (by rw [hl1, bts8_length]; omega) (by left; rw [bts8_length]; omega)
  refine ⟨by rw [hl2]; omega, by rw [hl2]; omega, by rw [hl2]; exact hm, H.rt, H.ap, ?_, ?_, ?_⟩
  · intro q hq
    rw [hl2]
    rcases List.mem_append.1 hq with hq | hq
    · have := H.fine q hq
      exact ⟨this.1, this.2.1, this.2.2.1, by omega⟩
    · have e : q = r := by simpa using hq
      rw [e]
      exact ⟨hr, htN, by omega, by omega⟩
  · rw [List.pairwise_append]
    refine ⟨H.rise, List.pairwise_singleton _ _, fun q hq x hx' => ?_⟩
    have e : x = r := by simpa using hx'
    have := H.fine q hq
    rw [e]; omega
  · intro t ht
    rw [chainA_snoc]
    have hrt2 := H.rt t ht
    by_cases h : r.t = t
    · rw [if_pos h]
      subst h
      rw [hL]
      have hc := H.chains r.t ht
      rw [hL] at hc
      rcases hcase with ⟨e, e2⟩ | ⟨L', q, e, e2⟩
      · subst e
        rw [← e2]
        exact ⟨gnum_here (by omega) (by omega), 0, ⟨by omega, by omega⟩, hnew, rfl⟩
      · have hq := hmem q (by rw [e]; simp)
        have hqf := H.fine q hq.1
        rw [gnum_far (by omega) (by omega) (by right; omega), gnum_add (by omega)]
        subst e
        refine linkedA_snoc (by omega) hc ?_ ?_ hnew
        · intro r' hr' z
          refine hstay r' (hmem r' (by simp [hr'])).1 (fun L2 q2 e3 => ?_) z
          have e4 := List.append_inj' e3 rfl
          have e5 : q2 = q := by simpa using e4.2.symm
          rw [e5]
          left
          have hpw : (L' ++ [q]).Pairwise (fun r r' => r.at_ + alen r.its.length ≤ r'.at_) := by rw [← hL]; exact H.rise.filter _
          rw [List.pairwise_append] at hpw
          exact hpw.2.2 r' hr' q (by simp)
        · intro z hh
          rw [e2]
          exact aO_more (hh.add _)
    · rw [if_neg h]
      have hc := H.chains t ht
      have hg : gnum (splice (b ++ aO r 0) p (bts (r.at_ : Nat) 8)) (roots t : Nat) 8 = gnum b (roots t : Nat) 8 := by
        rw [gnum_far (by omega) (by omega) ?_, gnum_add (by omega)]
        rcases hcase with ⟨e, e2⟩ | ⟨L', q, e, e2⟩
        · rcases H.ap r.t t htN ht h with h3 | h3
          · left; omega
          · right; omega
        · have hq := H.fine q (hmem q (by rw [e]; simp)).1
          right; omega
      rw [hg]
      refine linkedA_keep hc fun q hq z => hstay q (mem_chainA hq).1 (fun L' q' e => ?_) z
      have h1 := mem_chainA hq
      have h2 := hmem q' (by rw [e]; simp)
      rcases apartA_of H.rise h1.1 h2.1 with e3 | h3 | h3
      · exfalso
        subst e3
        exact h (h2.2.symm.trans h1.2)
      · exact .inl h3
      · exact .inr h3

def putA (j i : Nat) (x : Int) (r : ARow) : ARow := if r.at_ = j then { r with its := r.its.set i x } else r
theorem putA_at (j i : Nat) (x : Int) (r : ARow) : (putA j i x r).at_ = r.at_ := by unfold putA; split <;> rfl
theorem putA_t (j i : Nat) (x : Int) (r : ARow) : (putA j i x r).t = r.t := by unfold putA; split <;> rfl
theorem putA_len (j i : Nat) (x : Int) (r : ARow) : (putA j i x r).its.length = r.its.length := by unfold putA; split <;> simp
theorem chainA_map (t j i : Nat) (x : Int) (l : List ARow) : chainA t (l.map (putA j i x)) = (chainA t l).map (putA j i x) := by
  unfold chainA
  rw [List.filter_map]
  congr 1
  refine List.filter_congr fun r _ => ?_
  simp [putA_t]

theorem CB.put {lo : Nat} {roots : Nat → Nat} {N : Nat} {b : List Int} {l : List ARow} (H : CB lo roots N b l) {q : ARow} (hq : q ∈ l) {i : Nat} (hi : i < q.its.length) {x : Int} (hx : IsU x) :
    CB lo roots N (splice b (q.at_ + 24 + 8 * i) (bts x 8)) (l.map (putA q.at_ i x)) := by
  have hqf := H.fine q hq
  have hql : alen q.its.length = 24 + 8 * q.its.length := rfl
  have hfit : q.at_ + 24 + 8 * i + 8 ≤ b.length := by omega
  have hl2 : (splice b (q.at_ + 24 + 8 * i) (bts x 8)).length = b.length := splice_len _ _ _ (by rw [bts8_length]; exact hfit)
  have hone : ∀ r ∈ l, r.at_ = q.at_ → r = q := fun r hr e => by
    have hrf := H.fine r hr
    have h3 : alen r.its.length = 24 + 8 * r.its.length := rfl
    rcases apartA_of H.rise hr hq with e3 | h3 | h3
    · exact e3
    · omega
    · omega
  refine ⟨by rw [hl2]; exact H.al, by rw [hl2]; exact H.low, by rw [hl2]; exact H.most, H.rt, H.ap, ?_, ?_, ?_⟩
  · intro r' hr'
    obtain ⟨r, hr, rfl⟩ := List.mem_map.1 hr'
    have hf := H.fine r hr
    rw [putA_at, putA_t, putA_len, hl2]
    refine ⟨⟨by rw [putA_len]; exact hf.1.len, fun y hy => ?_, by rw [putA_at]; exact hf.1.al⟩, hf.2.1, hf.2.2.1, hf.2.2.2⟩
    unfold putA at hy
    split at hy
    · rcases List.mem_or_eq_of_mem_set hy with h | h
      · exact hf.1.us y h
      · rw [h]; exact hx
    · exact hf.1.us y hy
  · rw [List.pairwise_map]
    refine H.rise.imp fun {r r'} h => ?_
    rw [putA_at, putA_at, putA_len]; exact h
  · intro t ht
    rw [chainA_map]
    have hrt := H.rt t ht
    rw [gnum_far (by rw [bts8_length]; exact hfit) (by have := H.low; omega) (by right; omega)]
    refine linkedA_map (putA_at _ _ _) (H.chains t ht) fun r hr z hh => ?_
    have hrl := (mem_chainA hr).1
    have hrf := H.fine r hrl
    by_cases e : r.at_ = q.at_
    · have e2 := hone r hrl e
      subst e2
      have e3 : putA r.at_ i x r = { r with its := r.its.set i x } := by unfold putA; rw [if_pos rfl]
      rw [e3]
      exact aO_set hrf.1 hh hi
    · have e3 : putA q.at_ i x r = r := by unfold putA; rw [if_neg e]
      rw [e3]
      refine hh.far (by rw [bts8_length]; exact hfit) ?_
      rw [bts8_length, aO_length hrf.1]
      have h3 : alen r.its.length = 24 + 8 * r.its.length := rfl
      rcases apartA_of H.rise hrl hq with e4 | h4 | h4
      · exact absurd (by rw [e4]) e
      · right; omega
      · left; omega

theorem chain_of_linkedA {D F : Int} {m : IM} {lo : Nat} (hv : 256 + 8 * (D + F) = (lo : Nat)) (hlo : 0 < lo) : ∀ {L : List ARow} {last p : Int}, 0 ≤ last → (∀ r ∈ L, r.Fine ∧ lo ≤ r.at_ ∧ last < r.at_) →
    L.Pairwise (fun r r' => r.at_ + alen r.its.length ≤ r'.at_) → linkedA m.b p L →
    ∃ its : List It, chainAt m D F 4 0 last p its ∧ its.map (fun t => (t.j, t.is)) = L.map (fun r => (r.at_, r.its))
  | [], last, p, h0, _, _, hl => ⟨[], .inl (by rw [show p = 0 from hl]; omega), rfl⟩
  | r :: L, last, p, h0, hf, hp, ⟨e, z, hu, hh, hl⟩ => by
    have hr := hf r (by simp)
    rw [List.pairwise_cons] at hp
    have h3 : alen r.its.length = 24 + 8 * r.its.length := rfl
    obtain ⟨its, h1, h2⟩ := chain_of_linkedA hv hlo (last := r.at_) (p := z) (by omega) (fun q hq => ⟨(hf q (by simp [hq])).1, (hf q (by simp [hq])).2.1, by have := hp.1 q hq; omega⟩) hp.2 hl
    obtain ⟨s, d1, d2, d3, d4, d5, d6⟩ := HoldsB.dec (k := 4) hh hr.1.al (hr.1.right z) (by intro y hy; rw [List.mem_singleton.1 hy]; exact hu) hr.1.us
    refine ⟨⟨r.at_, [z], [], r.its⟩ :: its, ⟨by rw [e]; exact hr.2.2, e, ⟨s, ⟨by have := hr.2.1; show _ ≤ ((r.at_ : Nat) : Int); omega, d1, d2⟩, d4, d5, d6⟩, ?_⟩, ?_⟩
    · show chainAt m D F 4 0 r.at_ (([z] : List Int).getD 0 0) its
      exact h1
    · simp [h2]
theorem CB.chain {D F : Int} {m : IM} {lo : Nat} {roots : Nat → Nat} {N : Nat} {l : List ARow} (hv : 256 + 8 * (D + F) = (lo : Nat)) (hlo : 0 < lo) (H : CB lo roots N m.b l) {t : Nat} (ht : t < N) :
    ∃ its : List It, chainAt m D F 4 0 0 (m.word (roots t : Nat)) its ∧ its.map (fun t => (t.j, t.is)) = (chainA t l).map (fun r => (r.at_, r.its)) := by
  refine chain_of_linkedA hv hlo (by omega) (fun r hr => ?_) (H.rise.filter _) (H.chains t ht)
  have hm := mem_chainA hr
  have hf := H.fine r hm.1
  exact ⟨hf.1, hf.2.2.1, by omega⟩

end Go.Proofs.YtaeegcohimflbaaGreat

/-
  PLAIN ARITHMETIC FOR LAYER 14: how long the arrays of a list are; what places its arrays hold, and one place more.
-/
set_option linter.unusedVariables false
set_option maxRecDepth 100000
set_option linter.unusedSimpArgs false
namespace Go.Proofs.YtaeegcohimflbaaGreat
open Go.RowKit

def sizeC (n : Nat) : Nat := min (4 * 2 ^ n) 1024
def roomC : Nat → Nat
  | 0 => 0
  | n + 1 => roomC n + sizeC n
theorem sizeC_bd (n : Nat) : 4 ≤ sizeC n ∧ sizeC n ≤ 1024 := by
  have : 0 < 2 ^ n := Nat.two_pow_pos n
  unfold sizeC
  omega
theorem sizeC_most {n : Nat} (h : sizeC n = 1024) : sizeC (n + 1) = 1024 := by
  have h5 : 2 ^ (n + 1) = 2 ^ n * 2 := Nat.pow_succ 2 n
  unfold sizeC at h ⊢
  omega
theorem sizeC_big {n m : Nat} (h : sizeC n = 1024) (hm : n ≤ m) : sizeC m = 1024 := by
  induction m with
  | zero => rw [show n = 0 by omega] at h; exact h
  | succ k ih =>
    by_cases e : n = k + 1
    · rw [← e]; exact h
    · exact sizeC_most (ih (by omega))

def catA (c : List ARow) : List Int := (c.map (·.its)).flatten
theorem catA_snoc (c : List ARow) (r : ARow) : catA (c ++ [r]) = catA c ++ r.its := by simp [catA]
def SizedA (c : List ARow) : Prop := ∀ j r, c[j]? = some r → r.its.length = sizeC j
theorem SizedA.init {c : List ARow} {r : ARow} (h : SizedA (c ++ [r])) : SizedA c ∧ r.its.length = sizeC c.length := by
  refine ⟨fun j q hq => h j q (by rw [List.getElem?_append_left (List.getElem?_eq_some_iff.1 hq).1]; exact hq), h c.length r (by simp)⟩
theorem SizedA.snoc {c : List ARow} {r : ARow} (h : SizedA c) (hr : r.its.length = sizeC c.length) : SizedA (c ++ [r]) := by
  intro j q hq
  by_cases hj : j < c.length
  · rw [List.getElem?_append_left hj] at hq
    exact h j q hq
  · rw [List.getElem?_append_right (by omega)] at hq
    have h0 : j - c.length = 0 := by
      rcases Nat.eq_zero_or_pos (j - c.length) with h0 | h0
      · exact h0
      · rw [List.getElem?_eq_none (by simp; omega)] at hq; cases hq
    rw [h0] at hq
    simp at hq
    have : j = c.length := by omega
    rw [← hq, this]; exact hr
theorem SizedA.cat_length : ∀ {n : Nat} {c : List ARow}, c.length = n → SizedA c → (catA c).length = roomC n
  | 0, c, hn, _ => by rw [List.eq_nil_of_length_eq_zero hn]; rfl
  | n + 1, c, hn, h => by
    rcases List.eq_nil_or_concat c with rfl | ⟨c', r, rfl⟩
    · simp at hn
    · rw [List.concat_eq_append] at hn h ⊢
      have hl : c'.length = n := by simpa using hn
      obtain ⟨h1, h2⟩ := h.init
      rw [catA_snoc, List.length_append, SizedA.cat_length hl h1, h2, hl]; rfl

structure LI (c : List ARow) (L : List Int) : Prop where
  sized : SizedA c
  cat : catA c = L ++ List.replicate (roomC c.length - L.length) 0
  nz : ∀ x ∈ L, ¬ x = 0
  most : L.length ≤ roomC c.length
  last : 0 < c.length → roomC (c.length - 1) < L.length

theorem LI.nil_ : LI [] [] := ⟨fun j r h => (by simp at h), rfl, fun x h => (by cases h), Nat.le_refl _, fun h => (by simp at h)⟩
theorem LI.new {c : List ARow} {L : List Int} (h : LI c L) (hf : L.length = roomC c.length) {x : Int} (hx : ¬ x = 0) {r : ARow} (hr : r.its = x :: List.replicate (sizeC c.length - 1) 0) : LI (c ++ [r]) (L ++ [x]) := by
  have hs := sizeC_bd c.length
  have hrl : r.its.length = sizeC c.length := by rw [hr]; simp; omega
  have e : roomC (c ++ [r]).length = roomC c.length + sizeC c.length := by rw [List.length_append]; rfl
  refine ⟨h.sized.snoc hrl, ?_, ?_, ?_, ?_⟩
  · rw [catA_snoc, h.cat, hf, Nat.sub_self, e, hr, List.length_append, hf]
    simp only [List.replicate_zero, List.append_nil, List.length_cons, List.length_nil, List.append_assoc, List.cons_append, List.nil_append]
    congr 3; omega
  · intro y hy
    rcases List.mem_append.1 hy with hy | hy
    · exact h.nz y hy
    · rw [List.mem_singleton.1 hy]; exact hx
  · rw [e, List.length_append]; simp; omega
  · intro _
    rw [List.length_append, List.length_append]
    simp
    omega
theorem LI.last_at {c : List ARow} {q : ARow} {L : List Int} (h : LI (c ++ [q]) L) : roomC c.length < L.length ∧ q.its.length = sizeC c.length ∧ catA c = L.take (roomC c.length) ∧
    q.its = L.drop (roomC c.length) ++ List.replicate (roomC c.length + sizeC c.length - L.length) 0 := by
  obtain ⟨h1, h2⟩ := h.sized.init
  have hl := h.last (by simp)
  have e1 : (c ++ [q]).length - 1 = c.length := by simp
  rw [e1] at hl
  have e : roomC (c ++ [q]).length = roomC c.length + sizeC c.length := by rw [List.length_append]; rfl
  have hc := h.cat
  rw [catA_snoc, e] at hc
  have hcl := SizedA.cat_length rfl h1
  have h3 : L ++ List.replicate (roomC c.length + sizeC c.length - L.length) 0 = L.take (roomC c.length) ++ (L.drop (roomC c.length) ++ List.replicate (roomC c.length + sizeC c.length - L.length) 0) := by
    rw [← List.append_assoc, List.take_append_drop]
  rw [h3] at hc
  have := List.append_inj hc (by rw [hcl, List.length_take]; omega)
  exact ⟨hl, h2, this.1, this.2⟩
theorem LI.place {c : List ARow} {q : ARow} {L : List Int} (h : LI (c ++ [q]) L) {i : Nat} (hi : i < q.its.length) : (q.its.getD i 0 = 0 ↔ L.length - roomC c.length ≤ i) := by
  obtain ⟨h1, h2, h3, h4⟩ := h.last_at
  rw [h4, List.getD_eq_getElem?_getD]
  by_cases hd : i < (L.drop (roomC c.length)).length
  · have hd2 := hd
    rw [List.length_drop] at hd2
    rw [List.getElem?_append_left hd, List.getElem?_eq_getElem hd]
    have hm : (L.drop (roomC c.length))[i] ∈ L := List.mem_of_mem_drop (List.getElem_mem hd)
    have := h.nz _ hm
    exact ⟨fun e => absurd e this, fun e => by omega⟩
  · have hd2 := hd
    rw [List.length_drop] at hd2
    have hm := h.most
    have e : roomC (c ++ [q]).length = roomC c.length + sizeC c.length := by rw [List.length_append]; rfl
    rw [List.getElem?_append_right (by omega), List.length_drop, List.getElem?_replicate, if_pos (by omega)]
    exact ⟨fun _ => by omega, fun _ => rfl⟩
theorem LI.put {c : List ARow} {q : ARow} {L : List Int} (h : LI (c ++ [q]) L) (hf : L.length < roomC c.length + sizeC c.length) {x : Int} (hx : ¬ x = 0) {q' : ARow} (hq : q'.its = q.its.set (L.length - roomC c.length) x) : LI (c ++ [q']) (L ++ [x]) := by
  obtain ⟨h1, h2, h3, h4⟩ := h.last_at
  obtain ⟨g1, -⟩ := h.sized.init
  have hl : q'.its.length = sizeC c.length := by rw [hq, List.length_set]; exact h2
  have e : roomC (c ++ [q']).length = roomC c.length + sizeC c.length := by rw [List.length_append]; rfl
  have hdl : (L.drop (roomC c.length)).length = L.length - roomC c.length := List.length_drop ..
  have hset : q'.its = L.drop (roomC c.length) ++ (x :: List.replicate (roomC c.length + sizeC c.length - L.length - 1) 0) := by
    rw [hq, h4, List.set_append_right _ _ (by rw [hdl]; exact Nat.le_refl _), hdl, Nat.sub_self]
    congr 1
    obtain ⟨j, hj⟩ : ∃ j, roomC c.length + sizeC c.length - L.length = j + 1 := ⟨roomC c.length + sizeC c.length - L.length - 1, by omega⟩
    rw [hj, List.replicate_succ]
    simp
  refine ⟨g1.snoc hl, ?_, ?_, ?_, ?_⟩
  · rw [catA_snoc, h3, hset, e, List.length_append, ← List.append_assoc, List.take_append_drop, List.append_assoc]
    congr 1
  · intro y hy
    rcases List.mem_append.1 hy with hy | hy
    · exact h.nz y hy
    · rw [List.mem_singleton.1 hy]; exact hx
  · rw [e, List.length_append]; simp; omega
  · intro _
    rw [List.length_append, List.length_append]
    simp
    omega

def placesA (zs : List Int) : List Int := zs.takeWhile fun x => !decide (x = 0)
theorem placesA_all {L : List Int} (h : ∀ x ∈ L, ¬ x = 0) (k : Nat) : placesA (L ++ List.replicate k 0) = L := by
  unfold placesA
  rw [List.takeWhile_append_of_pos (by intro x hx; simpa using h x hx)]
  cases k with
  | zero => simp
  | succ k => simp [List.replicate_succ]
theorem LI.places {c : List ARow} {L : List Int} (h : LI c L) : placesA (catA c) = L := by rw [h.cat]; exact placesA_all h.nz _
theorem placesA_le (zs : List Int) : (placesA zs).length ≤ zs.length := by unfold placesA; exact (List.takeWhile_prefix _).length_le
theorem placesA_append (a b : List Int) : placesA (a ++ b) = if (placesA a).length = a.length then a ++ placesA b else placesA a := by
  unfold placesA
  rw [List.takeWhile_append]

end Go.Proofs.YtaeegcohimflbaaGreat

/-
  PLAIN ARITHMETIC FOR LAYER 14: the rows that a list's arrays are told by, up to the first 0; where it is.
-/
set_option linter.unusedVariables false
set_option maxRecDepth 100000
set_option linter.unusedSimpArgs false
namespace Go.Proofs.YtaeegcohimflbaaGreat
open Go.RowKit

def rowsL : List (List Int) → List (List Int)
  | [] => []
  | a :: r => if (placesA a).length = a.length then a :: rowsL r else [placesA a]
theorem placesA_take (a : List Int) : placesA a = a.take (placesA a).length := by
  have hp : placesA a <+: a := by unfold placesA; exact List.takeWhile_prefix _
  exact List.prefix_iff_eq_take.1 hp
theorem rowsL_flatten : ∀ z : List (List Int), (rowsL z).flatten = placesA z.flatten
  | [] => rfl
  | a :: r => by
    rw [List.flatten_cons, placesA_append]
    unfold rowsL
    by_cases h : (placesA a).length = a.length
    · rw [if_pos h, if_pos h, List.flatten_cons, rowsL_flatten r]
    · rw [if_neg h, if_neg h]; simp
theorem rowsL_length_le : ∀ z : List (List Int), (rowsL z).length ≤ z.length
  | [] => Nat.le_refl _
  | a :: r => by
    unfold rowsL
    have := rowsL_length_le r
    split
    · simp only [List.length_cons]; omega
    · simp
theorem rowsL_full {pre rest : List (List Int)} (h : ∀ a ∈ pre, (placesA a).length = a.length) : rowsL (pre ++ rest) = pre ++ rowsL rest := by
  induction pre with
  | nil => rfl
  | cons a pre ih =>
    rw [List.cons_append]
    rw [rowsL, if_pos (h a (by simp)), ih (fun b hb => h b (by simp [hb]))]
    rfl
theorem rowsL_cons_full {a : List Int} {r : List (List Int)} (h : (placesA a).length = a.length) : rowsL (a :: r) = a :: rowsL r := by rw [rowsL, if_pos h]
theorem rowsL_cons_cut {a : List Int} {r : List (List Int)} (h : ¬ (placesA a).length = a.length) : rowsL (a :: r) = [placesA a] := by rw [rowsL, if_neg h]

def idx0 (zs : List Int) : Int := if (placesA zs).length = zs.length then -1 else ((placesA zs).length : Nat)
theorem placesA_at {zs : List Int} (h : ¬ (placesA zs).length = zs.length) : (placesA zs).length < zs.length ∧ zs.getD (placesA zs).length 0 = 0 := by
  have hle := placesA_le zs
  have hlt : (placesA zs).length < zs.length := by omega
  refine ⟨hlt, ?_⟩
  induction zs with
  | nil => simp at hlt
  | cons x r ih =>
    by_cases hx : x = 0
    · subst hx; simp [placesA]
    · have e : placesA (x :: r) = x :: placesA r := by unfold placesA; rw [List.takeWhile_cons_of_pos (by simpa using hx)]
      rw [e] at h hlt ⊢
      simp only [List.length_cons] at h hlt ⊢
      have := ih (by omega) (placesA_le r) (by omega)
      simpa using this
theorem placesA_snoc {zs : List Int} {k : Nat} (hk : k < zs.length) (h : (placesA (zs.take k)).length = k) : (placesA (zs.take (k + 1))).length = (if zs.getD k 0 = 0 then k else k + 1) ∧ (zs.getD k 0 = 0 → (placesA zs).length = k) := by
  have hx : zs.getD k 0 = zs[k] := by rw [List.getD_eq_getElem?_getD, List.getElem?_eq_getElem hk]; rfl
  have hl : (zs.take k).length = k := by rw [List.length_take]; omega
  constructor
  · rw [List.take_succ_eq_append_getElem hk, placesA_append, if_pos (by rw [h, hl]), hx]
    unfold placesA
    by_cases h0 : zs[k] = 0
    · simp [h0]; omega
    · simp [h0]; omega
  · intro h0
    rw [hx] at h0
    have e : zs = zs.take k ++ zs.drop k := (List.take_append_drop k zs).symm
    rw [e, placesA_append, if_pos (by rw [h, hl]), List.drop_eq_getElem_cons hk]
    simp [placesA, h0]; omega

end Go.Proofs.YtaeegcohimflbaaGreat
