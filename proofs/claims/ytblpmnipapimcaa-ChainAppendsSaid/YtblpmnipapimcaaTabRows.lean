/-
  PLAIN ARITHMETIC FOR LAYER 13: what the two tables of a file are (rows that were added, each an object that stands at its place, linked bucket by bucket), and that adding a row keeps it.
-/
import Derived.Test.YtblpmnipapimcaaTableMath
set_option linter.unusedVariables false
set_option maxRecDepth 100000
set_option linter.unusedSimpArgs false
namespace Go.Proofs.Ytblpmnipapimcaa
open Go.RowKit

structure TRow where
  k : Nat
  raw : List Int
  at_ : Nat

/-- How many bytes an object of a kind with so many bytes takes. -/
def tlen (k n : Nat) : Nat := (frontN k + n + 7) / 8 * 8
/-- A row's words, the next one's place among them; its bytes. -/
def tW (key : Int) (r : TRow) (z : Int) : List Int := hsh key r.raw :: z :: List.replicate (kwN r.k - 2) 0
def tO (key : Int) (r : TRow) (z : Int) : List Int := encO r.k (tW key r z) r.raw []
/-- How many buckets, and where they begin. -/
def nb (D F : Int) (k : Nat) : Int := if k = 1 then D else F
def tb (D : Int) (k : Nat) : Nat := if k = 1 then 256 else 256 + 8 * D.toNat
def bkt (key D F : Int) (r : TRow) : Int := bucket (hsh key r.raw) (nb D F r.k)
def inB (key D F : Int) (k : Nat) (i : Int) (r : TRow) : Bool := r.k == k && bkt key D F r == i
def chainL (key D F : Int) (k : Nat) (i : Int) (l : List TRow) : List TRow := l.filter (inB key D F k i)

/-- A row that may be. -/
structure TRow.Fine (r : TRow) : Prop where
  kind : r.k = 1 ∨ r.k = 2
  right : rightN r.k (kwN r.k) r.raw.length 0 = true
  bytes : AreB r.raw
  al : r.at_ % 8 = 0

theorem TRow.Fine.kw {r : TRow} (h : r.Fine) : 2 ≤ kwN r.k ∧ kwN r.k ≤ 5 := by
  rcases h.kind with e | e <;> rw [e] <;> decide
theorem tW_length {key z : Int} {r : TRow} (h : r.Fine) : (tW key r z).length = kwN r.k := by
  have := h.kw
  unfold tW; simp; omega
theorem TRow.Fine.rt {r : TRow} (h : r.Fine) (key z : Int) : rightN r.k (tW key r z).length r.raw.length ([] : List Int).length = true := by rw [tW_length h]; exact h.right
theorem hsh_isU (key : Int) (zs : List Int) : IsU (hsh key zs) := by unfold hsh; exact stir_isU _ _
theorem tW_bd {key z : Int} {r : TRow} (hz : IsU z) : ∀ x ∈ tW key r z, 0 ≤ x ∧ x < 18446744073709551616 := by
  intro x hx
  unfold tW at hx
  rcases List.mem_cons.1 hx with e | hx
  · rw [e]; exact hsh_isU _ _
  · rcases List.mem_cons.1 hx with e | hx
    · rw [e]; exact hz
    · rw [(List.mem_replicate.1 hx).2]; omega
theorem tO_length {key z : Int} {r : TRow} (h : r.Fine) : (tO key r z).length = tlen r.k r.raw.length := by
  unfold tO
  rw [encO_length (h.rt key z)]
  unfold bareN tlen padn
  simp only [List.length_nil]
  rw [if_neg (by omega)]
  split <;> omega
theorem tlen_front {r : TRow} (h : r.Fine) : 40 ≤ tlen r.k r.raw.length := by
  have h2 := h.kw
  unfold tlen frontN
  rcases h.kind with e | e <;> rw [e] at h2 ⊢
  · have : kwN ((1 : Nat) : Int) = 5 := rfl
    rw [this]; omega
  · have : kwN ((2 : Nat) : Int) = 3 := rfl
    rw [this]; omega
theorem tlen_al (k n : Nat) : tlen k n % 8 = 0 := by unfold tlen; omega

/-- The word that leads on is set. -/
theorem tO_next {key z n : Int} {r : TRow} {b : List Int} (h : r.Fine) (hh : HoldsB b r.at_ (tO key r z)) : HoldsB (splice b (r.at_ + 24) (bts n 8)) r.at_ (tO key r n) := by
  have h2 := h.kw
  have hs := HoldsB.set (i := 1) (n := n) hh (by rw [tW_length h]; omega)
  have e : (tW key r z).set 1 n = tW key r n := by simp [tW]
  rw [e] at hs
  exact hs
theorem tO_word {key z : Int} {r : TRow} {b : List Int} (h : r.Fine) (hz : IsU z) (hh : HoldsB b r.at_ (tO key r z)) : gnum b (r.at_ + 24 : Nat) 8 = z := by
  have h2 := h.kw
  have hs := HoldsB.word (i := 1) hh (by rw [tW_length h]; omega) (tW_bd hz)
  rw [show r.at_ + (16 + 8 * 1) = r.at_ + 24 by omega] at hs
  rw [hs]; simp [tW]

/-- From this place on just these rows stand, each led on to the next. -/
def linked (key : Int) (b : List Int) : Int → List TRow → Prop
  | p, [] => p = 0
  | p, r :: L => p = r.at_ ∧ ∃ z, IsU z ∧ HoldsB b r.at_ (tO key r z) ∧ linked key b z L

theorem linked_isU {key : Int} {b : List Int} {p : Int} : ∀ {L : List TRow}, linked key b p L → (∀ r ∈ L, r.at_ < 18446744073709551616) → IsU p
  | [], h, _ => by rw [show p = 0 from h]; exact ⟨by omega, by omega⟩
  | r :: L, h, hb => by rw [h.1]; exact ⟨by omega, by have := hb r (by simp); omega⟩

theorem linked_keep {key : Int} {b b' : List Int} : ∀ {L : List TRow} {p : Int}, linked key b p L → (∀ r ∈ L, ∀ z, HoldsB b r.at_ (tO key r z) → HoldsB b' r.at_ (tO key r z)) → linked key b' p L
  | [], p, h, _ => h
  | r :: L, p, ⟨e, z, hu, hh, hl⟩, hk => ⟨e, z, hu, hk r (by simp) z hh, linked_keep hl (fun r' hr' => hk r' (by simp [hr']))⟩
theorem linked_snoc {key : Int} {b b' : List Int} {q n : TRow} (hn : (n.at_ : Int) < 18446744073709551616) : ∀ {L : List TRow} {p : Int}, linked key b p (L ++ [q]) → (∀ r ∈ L, ∀ z, HoldsB b r.at_ (tO key r z) → HoldsB b' r.at_ (tO key r z)) →
    (∀ z, HoldsB b q.at_ (tO key q z) → HoldsB b' q.at_ (tO key q n.at_)) → HoldsB b' n.at_ (tO key n 0) → linked key b' p (L ++ [q] ++ [n])
  | [], p, ⟨e, z, hu, hh, hl⟩, _, hq, hn' => ⟨e, n.at_, ⟨by omega, hn⟩, hq z hh, rfl, 0, ⟨by omega, by omega⟩, hn', rfl⟩
  | r :: L, p, ⟨e, z, hu, hh, hl⟩, hk, hq, hn' => ⟨e, z, hu, hk r (by simp) z hh, linked_snoc hn hl (fun r' hr' => hk r' (by simp [hr'])) hq hn'⟩
/-- The last one leads nowhere. -/
theorem linked_last {key : Int} {b : List Int} {q : TRow} : ∀ {L : List TRow} {p : Int}, linked key b p (L ++ [q]) → HoldsB b q.at_ (tO key q 0)
  | [], p, ⟨e, z, hu, hh, hl⟩ => by rw [show z = 0 from hl] at hh; exact hh
  | r :: L, p, ⟨e, z, hu, hh, hl⟩ => linked_last hl

theorem gnum_far {b y : List Int} {j k : Nat} (hk : k + y.length ≤ b.length) (hj : j + 8 ≤ b.length) (ho : k + y.length ≤ j ∨ j + 8 ≤ k) : gnum (splice b k y) (j : Nat) 8 = gnum b (j : Nat) 8 := by
  unfold gnum
  rw [splice_len _ _ _ hk]
  have e : ((splice b k y).drop ((j : Nat) : Int).toNat).take (8 : Int).toNat = (b.drop ((j : Nat) : Int).toNat).take (8 : Int).toNat := by
    rw [Int.toNat_natCast]
    refine ext_nz (by simp [splice_len _ _ _ hk]) fun i hi => ?_
    rw [nz_take, nz_take, nz_drop, nz_drop, nz_splice _ _ _ _ (by omega)]
    have h8 : (8 : Int).toNat = 8 := rfl
    rw [h8]
    by_cases h : i < 8
    · rw [if_pos h, if_pos h, if_neg (by omega)]
    · rw [if_neg h, if_neg h]
  rw [e]
theorem gnum_add {b y : List Int} {j : Nat} (hj : j + 8 ≤ b.length) : gnum (b ++ y) (j : Nat) 8 = gnum b (j : Nat) 8 := by
  unfold gnum
  have g1 : gok (b ++ y).length (j : Nat) 8 = true := by simp [gok]; omega
  have g2 : gok b.length (j : Nat) 8 = true := by simp [gok]; omega
  rw [g1, g2, if_pos rfl, if_pos rfl, Int.toNat_natCast, List.drop_append_of_le_length (by omega), List.take_append_of_le_length (by rw [List.length_drop]; have h8 : (8 : Int).toNat = 8 := rfl; rw [h8]; omega)]
theorem gnum_here {b : List Int} {j n : Nat} (hj : j + 8 ≤ b.length) (hn : n < 18446744073709551616) : gnum (splice b j (bts n 8)) (j : Nat) 8 = n := by
  have hl : (bts (n : Int) 8).length = 8 := bts8_length _
  unfold gnum
  have g1 : gok (splice b j (bts (n : Int) 8)).length (j : Nat) 8 = true := by rw [splice_len _ _ _ (by omega)]; simp [gok]; omega
  have h8 : (8 : Int).toNat = 8 := rfl
  rw [g1, if_pos rfl, Int.toNat_natCast, h8]
  have e : ((splice b j (bts (n : Int) 8)).drop j).take 8 = bts (n : Int) 8 := by
    refine ext_nz (by rw [List.length_take, List.length_drop, splice_len _ _ _ (by omega), hl]; omega) fun i hi => ?_
    rw [List.length_take] at hi
    rw [nz_take, nz_drop, if_pos (by omega), nz_splice _ _ _ _ (by omega), if_pos (by omega)]
    congr 1; omega
  rw [e, lev_bts hn]

theorem apart_of {R : TRow → TRow → Prop} : ∀ {l : List TRow}, l.Pairwise R → ∀ {r q : TRow}, r ∈ l → q ∈ l → r = q ∨ R r q ∨ R q r
  | [], _, r, q, h, _ => by cases h
  | a :: l, h, r, q, hr, hq => by
    rw [List.pairwise_cons] at h
    rcases List.mem_cons.1 hr with e | h1
    · rcases List.mem_cons.1 hq with e2 | h2
      · exact .inl (e.trans e2.symm)
      · rw [e]; exact .inr (.inl (h.1 _ h2))
    · rcases List.mem_cons.1 hq with e2 | h2
      · rw [e2]; exact .inr (.inr (h.1 _ h1))
      · exact apart_of h.2 h1 h2

/-- THE TWO TABLES OF A FILE: these rows were added. -/
structure TB (key D F : Int) (b : List Int) (l : List TRow) : Prop where
  hD : 1 ≤ D ∧ D ≤ 256
  hF : 1 ≤ F ∧ F ≤ 256
  al : b.length % 8 = 0
  low : newK D F ≤ b.length
  most : b.length ≤ 1099511627776
  fine : ∀ r ∈ l, r.Fine ∧ newK D F ≤ r.at_ ∧ r.at_ + tlen r.k r.raw.length ≤ b.length
  rise : l.Pairwise (fun r r' => r.at_ + tlen r.k r.raw.length ≤ r'.at_)
  chains : ∀ k, (k = 1 ∨ k = 2) → ∀ i : Nat, (i : Int) < nb D F k → linked key b (gnum b (tb D k + 8 * i : Nat) 8) (chainL key D F k i l)

theorem newK_val {D F : Int} (hD : 1 ≤ D ∧ D ≤ 256) (hF : 1 ≤ F ∧ F ≤ 256) : ((newK D F : Nat) : Int) = 256 + 8 * (D + F) := by unfold newK; omega
theorem nb_bd {D F : Int} (hD : 1 ≤ D ∧ D ≤ 256) (hF : 1 ≤ F ∧ F ≤ 256) (k : Nat) : 1 ≤ nb D F k ∧ nb D F k ≤ 256 := by unfold nb; split <;> assumption
/-- Where a bucket's word stands. -/
theorem tb_low {D F : Int} (hD : 1 ≤ D ∧ D ≤ 256) (hF : 1 ≤ F ∧ F ≤ 256) {k i : Nat} (hi : (i : Int) < nb D F k) : tb D k + 8 * i + 8 ≤ newK D F ∧ 256 ≤ tb D k ∧ tb D k % 8 = 0 := by
  have := newK_val hD hF
  unfold nb at hi
  unfold tb
  split at hi
  · rename_i h; rw [if_pos h]; omega
  · rename_i h; rw [if_neg h]; omega
theorem tb_apart {D F : Int} (hD : 1 ≤ D ∧ D ≤ 256) {k i k' i' : Nat} (hk : k = 1 ∨ k = 2) (hk' : k' = 1 ∨ k' = 2) (hi : (i : Int) < nb D F k) (hi' : (i' : Int) < nb D F k') (hne : k ≠ k' ∨ i ≠ i') :
    tb D k + 8 * i + 8 ≤ tb D k' + 8 * i' ∨ tb D k' + 8 * i' + 8 ≤ tb D k + 8 * i := by
  unfold nb at hi hi'
  unfold tb
  rcases hk with rfl | rfl <;> rcases hk' with rfl | rfl <;> simp at hi hi' hne ⊢ <;> omega
theorem bkt_bd {key D F : Int} (hD : 1 ≤ D ∧ D ≤ 256) (hF : 1 ≤ F ∧ F ≤ 256) (r : TRow) : ∃ i : Nat, bkt key D F r = i ∧ (i : Int) < nb D F r.k := by
  have h := nb_bd hD hF r.k
  have hu := hsh_isU key r.raw
  unfold bkt bucket
  rw [if_neg (by omega)]
  have h1 := Int.emod_nonneg (hsh key r.raw) (b := nb D F r.k) (by omega)
  have h2 := Int.emod_lt_of_pos (hsh key r.raw) (b := nb D F r.k) (by omega)
  exact ⟨(hsh key r.raw % nb D F r.k).toNat, by omega, by omega⟩

theorem mem_chain {key D F : Int} {k : Nat} {i : Int} {l : List TRow} {r : TRow} (h : r ∈ chainL key D F k i l) : r ∈ l ∧ r.k = k ∧ bkt key D F r = i := by
  unfold chainL at h
  obtain ⟨h1, h2⟩ := List.mem_filter.1 h
  unfold inB at h2
  simp at h2
  exact ⟨h1, h2.1, h2.2⟩
theorem chain_snoc {key D F : Int} {k : Nat} {i : Int} {l : List TRow} {r : TRow} : chainL key D F k i (l ++ [r]) = if r.k = k ∧ bkt key D F r = i then chainL key D F k i l ++ [r] else chainL key D F k i l := by
  unfold chainL inB
  rw [List.filter_append]
  by_cases h : r.k = k ∧ bkt key D F r = i
  · rw [if_pos h]; simp [h.1, h.2]
  · rw [if_neg h]
    have : (r.k == k && bkt key D F r == i) = false := by
      rw [Bool.and_eq_false_iff]
      by_cases h1 : r.k = k
      · right; have : ¬ bkt key D F r = i := fun e => h ⟨h1, e⟩; simpa using this
      · left; simpa using h1
    simp [List.filter_cons, this]

/-- The word that will lead on to a new row. -/
def linkP (D : Int) (k i : Nat) (L : List TRow) : Nat := match L.getLast? with
  | none => tb D k + 8 * i
  | some q => q.at_ + 24

theorem TB.link {key D F : Int} {b : List Int} {l : List TRow} (H : TB key D F b l) {k i : Nat} (hk : k = 1 ∨ k = 2) (hi : (i : Int) < nb D F k) :
    linkP D k i (chainL key D F k i l) + 8 ≤ b.length ∧ linkP D k i (chainL key D F k i l) % 8 = 0 ∧ 256 ≤ linkP D k i (chainL key D F k i l) ∧ gnum b (linkP D k i (chainL key D F k i l) : Nat) 8 = 0 := by
  have hc := H.chains k hk i hi
  have hl := tb_low H.hD H.hF hi
  have h1 := H.low
  have hv := newK_val H.hD H.hF
  obtain ⟨L, hL⟩ : ∃ L, chainL key D F k i l = L := ⟨_, rfl⟩
  have hm : ∀ r ∈ L, r ∈ l := fun r hr => (mem_chain (hL ▸ hr)).1
  rw [hL] at hc ⊢
  rcases List.eq_nil_or_concat L with rfl | ⟨L', q, rfl⟩
  · have e : linkP D k i [] = tb D k + 8 * i := rfl
    rw [e]
    exact ⟨by omega, by omega, by omega, hc⟩
  · have hq := H.fine q (hm q (by simp))
    have hw := linked_last (L := L') (q := q) (by rw [List.concat_eq_append] at hc; exact hc)
    have e : linkP D k i (L'.concat q) = q.at_ + 24 := by simp [linkP]
    rw [e]
    have h2 := tlen_front hq.1
    have h3 := hq.1.al
    refine ⟨by omega, by omega, by omega, ?_⟩
    exact tO_word hq.1 ⟨by omega, by omega⟩ hw

theorem TB.nothing {key D F : Int} {b : List Int} (hD : 1 ≤ D ∧ D ≤ 256) (hF : 1 ≤ F ∧ F ≤ 256) (hl : b.length = newK D F) (hz : ∀ j, 256 ≤ j → nz b j = 0) : TB key D F b [] where
  hD := hD
  hF := hF
  al := by have := newK_val hD hF; omega
  low := by omega
  most := by have := newK_val hD hF; omega
  fine := by intro r hr; cases hr
  rise := List.Pairwise.nil
  chains := by
    intro k hk i hi
    have h1 := tb_low hD hF hi
    show gnum b (tb D k + 8 * i : Nat) 8 = 0
    unfold gnum
    have g1 : gok b.length (tb D k + 8 * i : Nat) 8 = true := by simp [gok]; omega
    have h8 : (8 : Int).toNat = 8 := rfl
    rw [g1, if_pos rfl, Int.toNat_natCast, h8]
    have e : (b.drop (tb D k + 8 * i)).take 8 = List.replicate 8 0 := by
      refine ext_nz (by rw [List.length_take, List.length_drop, List.length_replicate]; omega) fun j hj => ?_
      rw [List.length_take] at hj
      rw [nz_take, if_pos (by omega), nz_drop, hz _ (by omega)]
      exact (nz_of_all (fun z hz => (List.mem_replicate.1 hz).2) j).symm
    rw [e]; decide

/-- A ROW IS ADDED: put behind all, and linked. -/
theorem TB.add {key D F : Int} {b : List Int} {l : List TRow} (H : TB key D F b l) {r : TRow} (hr : r.Fine) (ha : r.at_ = b.length) (hm : b.length + tlen r.k r.raw.length ≤ 1099511627776) {i : Nat} (hi : bkt key D F r = i) :
    TB key D F (splice (b ++ tO key r 0) (linkP D r.k i (chainL key D F r.k i l)) (bts (r.at_ : Nat) 8)) (l ++ [r]) := by
  have hib : (i : Int) < nb D F r.k := by obtain ⟨j, h1, h2⟩ := bkt_bd (key := key) H.hD H.hF r; rw [hi] at h1; omega
  obtain ⟨k1, k2, k3, k4⟩ := H.link hr.kind hib
  obtain ⟨L, hL⟩ : ∃ L, chainL key D F r.k i l = L := ⟨_, rfl⟩
  rw [hL] at k1 k2 k3 k4 ⊢
  obtain ⟨p, hp⟩ : ∃ p, linkP D r.k i L = p := ⟨_, rfl⟩
  rw [hp] at k1 k2 k3 k4 ⊢
  have hmem : ∀ q ∈ L, q ∈ l ∧ q.k = r.k ∧ bkt key D F q = i := fun q hq => mem_chain (hL ▸ hq)
  have b8 : (bts ((r.at_ : Nat) : Int) 8).length = 8 := bts8_length _
  have hx : (tO key r 0).length = tlen r.k r.raw.length := tO_length hr
  have hl1 : (b ++ tO key r 0).length = b.length + tlen r.k r.raw.length := by rw [List.length_append, hx]
  have hl2 : (splice (b ++ tO key r 0) p (bts (r.at_ : Nat) 8)).length = b.length + tlen r.k r.raw.length := by rw [splice_len _ _ _ (by omega), hl1]
  have hlow := H.low
  have hv := newK_val H.hD H.hF
  have htl := tlen_al r.k r.raw.length
  have hal := H.al
  -- where the word stands: in the table, or in the last row of the bucket
  have hcase : (L = [] ∧ p = tb D r.k + 8 * i) ∨ ∃ L' q, L = L' ++ [q] ∧ p = q.at_ + 24 := by
    rcases List.eq_nil_or_concat L with h | ⟨L', q, h⟩
    · left; refine ⟨h, ?_⟩; rw [← hp, h]; rfl
    · right; refine ⟨L', q, by rw [h, List.concat_eq_append], ?_⟩; rw [← hp, h]; simp [linkP]
  -- a row that is not the bucket's last one stays
  have hstay : ∀ q ∈ l, (∀ L' q', L = L' ++ [q'] → q.at_ + tlen q.k q.raw.length ≤ q'.at_ ∨ q'.at_ + tlen q'.k q'.raw.length ≤ q.at_) → ∀ z, HoldsB b q.at_ (tO key q z) → HoldsB (splice (b ++ tO key r 0) p (bts (r.at_ : Nat) 8)) q.at_ (tO key q z) := by
    intro q hq hne z hh
    have hf := H.fine q hq
    refine (hh.add _).far (by omega) ?_
    rw [tO_length hf.1]
    rcases hcase with ⟨_, e⟩ | ⟨L', q', e, e2⟩
    · have := tb_low H.hD H.hF hib
      left; omega
    · have hq' := H.fine q' (hmem q' (by rw [e]; simp)).1
      have h4 := tlen_front hq'.1
      rcases hne L' q' e with h | h
      · right; omega
      · left; omega
  have hnew : HoldsB (splice (b ++ tO key r 0) p (bts (r.at_ : Nat) 8)) r.at_ (tO key r 0) := by
    rw [ha]
    exact (HoldsB.new b _).far (by rw [hl1, bts8_length]; omega) (by left; rw [bts8_length]; omega)
  refine ⟨H.hD, H.hF, by rw [hl2]; omega, by rw [hl2]; omega, by rw [hl2]; exact hm, ?_, ?_, ?_⟩
  · intro q hq
    rw [hl2]
    rcases List.mem_append.1 hq with hq | hq
    · have := H.fine q hq
      exact ⟨this.1, this.2.1, by omega⟩
    · have e : q = r := by simpa using hq
      rw [e]
      exact ⟨hr, by omega, by omega⟩
  · rw [List.pairwise_append]
    refine ⟨H.rise, List.pairwise_singleton _ _, fun q hq x hx' => ?_⟩
    have e : x = r := by simpa using hx'
    have := H.fine q hq
    rw [e]; omega
  · intro k hk j hj
    rw [chain_snoc]
    have hjl := tb_low H.hD H.hF hj
    by_cases h : r.k = k ∧ bkt key D F r = j
    · rw [if_pos h]
      obtain ⟨rfl, h2⟩ := h
      have e : j = i := by omega
      subst e
      rw [hL]
      have hc := H.chains r.k hk j hj
      rw [hL] at hc
      rcases hcase with ⟨e, e2⟩ | ⟨L', q, e, e2⟩
      · subst e
        rw [← e2]
        refine ⟨gnum_here (by omega) (by omega), 0, ⟨by omega, by omega⟩, hnew, rfl⟩
      · have hq := hmem q (by rw [e]; simp)
        have hqf := H.fine q hq.1
        have hfr := tlen_front hqf.1
        rw [gnum_far (by omega) (by omega) (by right; omega), gnum_add (by omega)]
        subst e
        refine linked_snoc (by omega) hc ?_ ?_ hnew
        · intro r' hr' z
          refine hstay r' (hmem r' (by simp [hr'])).1 (fun L2 q2 e3 => ?_) z
          have e4 := List.append_inj' e3 rfl
          have e5 : q2 = q := by simpa using e4.2.symm
          rw [e5]
          left
          have hpw : (L' ++ [q]).Pairwise (fun r r' => r.at_ + tlen r.k r.raw.length ≤ r'.at_) := by rw [← hL]; exact H.rise.filter _
          rw [List.pairwise_append] at hpw
          exact hpw.2.2 r' hr' q (by simp)
        · intro z hh
          rw [e2]
          exact tO_next hqf.1 (hh.add _)
    · rw [if_neg h]
      have hc := H.chains k hk j hj
      have hg : gnum (splice (b ++ tO key r 0) p (bts (r.at_ : Nat) 8)) (tb D k + 8 * j : Nat) 8 = gnum b (tb D k + 8 * j : Nat) 8 := by
        rw [gnum_far (by omega) (by omega) ?_, gnum_add (by omega)]
        rcases hcase with ⟨e, e2⟩ | ⟨L', q, e, e2⟩
        · have hne : r.k ≠ k ∨ i ≠ j := by
            by_cases h1 : r.k = k
            · right; intro e3; exact h ⟨h1, by rw [hi, e3]⟩
            · left; exact h1
          rcases tb_apart (F := F) H.hD hr.kind hk hib hj hne with h3 | h3
          · left; omega
          · right; omega
        · have hq := H.fine q (hmem q (by rw [e]; simp)).1
          right; omega
      rw [hg]
      refine linked_keep hc fun q hq z => hstay q (mem_chain hq).1 (fun L' q' e => ?_) z
      have h1 := mem_chain hq
      have h2 := hmem q' (by rw [e]; simp)
      rcases apart_of H.rise h1.1 h2.1 with e3 | h3 | h3
      · exfalso
        subst e3
        exact h ⟨by rw [← h2.2.1, h1.2.1], by rw [hi, ← h2.2.2, h1.2.2]⟩
      · exact .inl h3
      · exact .inr h3

/-- What is found in the bucket is what is found in all. -/
theorem find_chain {key D F : Int} {k : Nat} {raw : List Int} {i : Nat} (hi : bucket (hsh key raw) (nb D F k) = i) : ∀ l : List TRow, (chainL key D F k i l).find? (fun r => decide (r.raw = raw)) = l.find? (fun r => decide (r.k = k) && decide (r.raw = raw))
  | [] => rfl
  | r :: l => by
    have ih := find_chain hi l
    unfold chainL at ih ⊢
    by_cases h : r.k = k ∧ r.raw = raw
    · have hb : inB key D F k i r = true := by unfold inB bkt; rw [h.1, h.2, hi]; simp
      rw [List.filter_cons, if_pos hb, List.find?_cons, List.find?_cons]
      simp [h.1, h.2]
    · have e : (decide (r.k = k) && decide (r.raw = raw)) = false := by
        rw [Bool.and_eq_false_iff]
        by_cases h1 : r.k = k
        · right; exact decide_eq_false (fun e => h ⟨h1, e⟩)
        · left; exact decide_eq_false h1
      have hR : (r :: l).find? (fun r => decide (r.k = k) && decide (r.raw = raw)) = l.find? (fun r => decide (r.k = k) && decide (r.raw = raw)) := by rw [List.find?_cons, e]
      rw [List.filter_cons, hR]
      by_cases hb : inB key D F k i r = true
      · rw [if_pos hb, List.find?_cons]
        have h1 : r.k = k := by unfold inB at hb; simp at hb; exact hb.1
        have h2 : ¬ r.raw = raw := fun e2 => h ⟨h1, e2⟩
        rw [decide_eq_false h2]
        exact ih
      · rw [if_neg hb]; exact ih

end Go.Proofs.Ytblpmnipapimcaa
