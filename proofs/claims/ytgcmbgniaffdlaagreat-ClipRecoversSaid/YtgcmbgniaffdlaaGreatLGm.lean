import Derived.Test.YtgcmbgniaffdlaaGreatLCm
set_option linter.unusedVariables false
set_option maxRecDepth 100000
set_option linter.unusedSimpArgs false
namespace Go.Proofs.YtgcmbgniaffdlaaGreat
open Go.RowKit
structure GO where
 t : Nat
 at_ : Nat
 k : Nat
 ws : List Int
 raw : List Int
 its : List Int
def GO.bs (r : GO) : List Int := encO r.k r.ws r.raw r.its
def GO.len (r : GO) : Nat := r.bs.length
structure GO.Fine (r : GO) : Prop where
 right : rightN r.k r.ws.length r.raw.length r.its.length = true
 us : ∀ z ∈ r.ws, 0 <= z /\ z < 18446744073709551616
 by_ : AreB r.raw
 is : ∀ z ∈ r.its, 0 <= z /\ z < 18446744073709551616
 al : r.at_ % 8 = 0
theorem GO.Fine.len {r : GO} (h : r.Fine) : r.len = bareN r.k r.raw.length r.its.length + padn (bareN r.k r.raw.length r.its.length) 8 := encO_length h.right
theorem GO.Fine.front {r : GO} (h : r.Fine) : 16 + 8 * r.ws.length + r.raw.length + 8 * r.its.length <= r.len := by
 rw [h.len]
 obtain ⟨h1, -⟩ := rightN_len h.right
 unfold bareN frontN
 rw [h1]
 omega
theorem GO.Fine.len_al {r : GO} (h : r.Fine) : r.len % 8 = 0 := by
 rw [h.len, padn_eight]; omega
theorem HoldsB.item {b : List Int} {j i : Nat} {k : Int} {ws is : List Int} (h : HoldsB b j (encO k ws [] is)) (hi : i < is.length) (hw : ∀ z ∈ is, 0 <= z /\ z < 18446744073709551616) : gnum b (j + (16 + 8 * ws.length + 8 * i) : Nat) 8 = is.getD i 0 := by
 obtain ⟨r, e⟩ : ∃ r, encO k ws [] is = wordsB (k :: ((bareN k ([] : List Int).length is.length : Nat) : Int) :: (ws ++ is)) ++ r := by
   refine ⟨List.replicate (padn (headO k ws [] is).length 8) 0, ?_⟩
   unfold encO headO
   rw [wordsB_two, wordsB_cons k, wordsB_cons _ (ws ++ is)]
   simp [wordsB]
 have hlen : 16 + 8 * ws.length + 8 * is.length <= (encO k ws [] is).length := by rw [e, List.length_append, wordsB_length]; simp; omega
 have hf := h.fit
 have hd : ((b.drop (j + (16 + 8 * ws.length + 8 * i))).take 8) = bts (is.getD i 0) 8 := by
   have h1 := wordsB_at (k :: ((bareN k ([] : List Int).length is.length : Nat) : Int) :: (ws ++ is)) r (i + ws.length + 2) (by simp; omega)
   rw [<- e, show 8 * (i + ws.length + 2) = 16 + 8 * ws.length + 8 * i by omega] at h1
   have h2 : (((b.drop j).take (encO k ws [] is).length).drop (16 + 8 * ws.length + 8 * i)).take 8 = bts (is.getD i 0) 8 := by
     rw [h.eq, h1]
     congr 1
     rw [List.getD_cons_succ, List.getD_cons_succ, List.getD_eq_getElem?_getD, List.getElem?_append_right (by omega), Nat.add_sub_cancel, List.getD_eq_getElem?_getD]
   rw [List.drop_take, List.take_take, Nat.min_eq_left (by omega), List.drop_drop] at h2
   exact h2
 have hb : 0 <= is.getD i 0 /\ is.getD i 0 < 18446744073709551616 := by
   rw [List.getD_eq_getElem?_getD, List.getElem?_eq_getElem hi]; exact hw _ (List.getElem_mem hi)
 have hok : gok b.length ((j + (16 + 8 * ws.length + 8 * i) : Nat) : Int) 8 = true := by simp [gok]; omega
 unfold gnum
 rw [hok]
 show lev ((b.drop ((j + (16 + 8 * ws.length + 8 * i) : Nat) : Int).toNat).take 8) = _
 obtain ⟨z, hz⟩ : ∃ z : Nat, is.getD i 0 = z := ⟨(is.getD i 0).toNat, by omega⟩
 rw [Int.toNat_natCast, hd, hz, lev_bts (by omega)]
theorem HoldsB.setI {b : List Int} {j i : Nat} {k n : Int} {ws is : List Int} (h : HoldsB b j (encO k ws [] is)) (hi : i < is.length) : HoldsB (splice b (j + (16 + 8 * ws.length + 8 * i)) (bts n 8)) j (encO k ws [] (is.set i n)) := by
 obtain ⟨r, e⟩ : ∃ r, ∀ us : List Int, us.length = is.length -> encO k ws [] us = wordsB (k :: ((bareN k ([] : List Int).length is.length : Nat) : Int) :: (ws ++ us)) ++ r := by
   refine ⟨List.replicate (padn (headO k ws [] is).length 8) 0, fun us hu => ?_⟩
   have hl : (headO k ws [] us).length = (headO k ws [] is).length := by rw [headO_length, headO_length, hu]
   unfold encO
   rw [hl]
   generalize List.replicate (padn (headO k ws [] is).length 8) 0 = r
   unfold headO
   rw [hu]
   simp [wordsB_two, wordsB_cons, wordsB]
 have e1 := e is rfl
 have e2 := e (is.set i n) (by simp)
 have hlen : 16 + 8 * ws.length + 8 * is.length <= (encO k ws [] is).length := by rw [e1, List.length_append, wordsB_length]; simp; omega
 have h1 := h.within (y := bts n 8) (o := 16 + 8 * ws.length + 8 * i) (by rw [bts8_length]; omega)
 have h2 := wordsB_set (k :: ((bareN k ([] : List Int).length is.length : Nat) : Int) :: (ws ++ is)) r (i + ws.length + 2) n (by simp; omega)
 have e3 : (ws ++ is).set (i + ws.length) n = ws ++ is.set i n := by
   rw [List.set_append_right _ _ (by omega), Nat.add_sub_cancel]
 rw [<- e1, show 8 * (i + ws.length + 2) = 16 + 8 * ws.length + 8 * i by omega, List.set_cons_succ, List.set_cons_succ, e3, <- e2] at h2
 rw [h2] at h1
 exact h1
theorem apartG_of {R : GO -> GO -> Prop} : ∀ {l : List GO}, l.Pairwise R -> ∀ {r q : GO}, r ∈ l -> q ∈ l -> r = q ∨ R r q ∨ R q r
 | [], _, r, q, hr, _ => by cases hr
 | x :: l, h, r, q, hr, hq => by
   rw [List.pairwise_cons] at h
   rcases List.mem_cons.1 hr with e | h1
   · rcases List.mem_cons.1 hq with e2 | h2
     · exact .inl (e.trans e2.symm)
     · rw [e]; exact .inr (.inl (h.1 _ h2))
   · rcases List.mem_cons.1 hq with e2 | h2
     · rw [e2]; exact .inr (.inr (h.1 _ h1))
     · exact apartG_of h.2 h1 h2
def fillG : Nat -> Nat -> List GO -> Prop
 | a, e, [] => a = e
 | a, e, r :: l => r.at_ = a /\ fillG (a + r.len) e l
theorem fillG.map {f : GO -> GO} : ∀ {l : List GO} {a e : Nat}, fillG a e l -> (∀ r ∈ l, (f r).at_ = r.at_ /\ (f r).len = r.len) -> fillG a e (l.map f)
 | [], _, _, h, _ => h
 | r :: l, a, e, h, hf => ⟨by rw [(hf r (by simp)).1]; exact h.1, by rw [(hf r (by simp)).2]; exact fillG.map h.2 fun q hq => hf q (by simp [hq])⟩
theorem fillG.snoc {r : GO} : ∀ {l : List GO} {a e : Nat}, fillG a e l -> r.at_ = e -> fillG a (e + r.len) (l ++ [r])
 | [], a, e, h, hr => ⟨hr.trans h.symm, congrArg (· + r.len) h⟩
 | q :: l, a, e, h, hr => ⟨h.1, fillG.snoc h.2 hr⟩
structure GB (lo : Nat) (b : List Int) (l : List GO) : Prop where
 al : b.length % 8 = 0
 loal : lo % 8 = 0
 low : lo <= b.length
 most : b.length <= 1099511627776
 fine : ∀ r ∈ l, r.Fine /\ lo <= r.at_ /\ r.at_ + r.len <= b.length
 rise : l.Pairwise (fun r r' => r.at_ + r.len <= r'.at_)
 held : ∀ r ∈ l, HoldsB b r.at_ r.bs
 fill : fillG lo b.length l
section
variable {lo : Nat} {b : List Int} {l : List GO}
theorem GB.one (H : GB lo b l) {r q : GO} (hr : r ∈ l) (hq : q ∈ l) (e : r.at_ = q.at_) : r = q := by
 have h1 := (H.fine r hr).1.front
 have h2 := (H.fine q hq).1.front
 rcases apartG_of H.rise hr hq with e3 | h3 | h3
 · exact e3
 · omega
 · omega
theorem GB.word (H : GB lo b l) {q : GO} (hq : q ∈ l) {i : Nat} (hi : i < q.ws.length) : gnum b (q.at_ + (16 + 8 * i) : Nat) 8 = q.ws.getD i 0 :=
 HoldsB.word (H.held q hq) hi (H.fine q hq).1.us
theorem GB.add (H : GB lo b l) {r : GO} (hr : r.Fine) (ha : r.at_ = b.length) (hm : b.length + r.len <= 1099511627776) : GB lo (b ++ r.bs) (l ++ [r]) where
 al := by have := hr.len_al; have := H.al; rw [List.length_append]; show (b.length + r.len) % 8 = 0; omega
 loal := H.loal
 low := by have := H.low; rw [List.length_append]; omega
 most := by rw [List.length_append]; exact hm
 fine := fun q hq => by
   have h1 := H.low
   rw [List.length_append]
   rcases List.mem_append.1 hq with h | h
   · have := H.fine q h; exact ⟨this.1, this.2.1, by omega⟩
   · rw [List.mem_singleton.1 h]; exact ⟨hr, by omega, by rw [ha]; exact Nat.le_refl _⟩
 rise := List.pairwise_append.2 ⟨H.rise, by simp, fun q hq q' hq' => by rw [List.mem_singleton.1 hq', ha]; exact (H.fine q hq).2.2⟩
 held := fun q hq => by
   rcases List.mem_append.1 hq with h | h
   · exact (H.held q h).add _
   · rw [List.mem_singleton.1 h, ha]; exact HoldsB.new b _
 fill := by rw [List.length_append]; exact H.fill.snoc ha
theorem GB.root (H : GB lo b l) {p : Nat} (hp : p + 8 <= lo) (n : Int) : GB lo (splice b p (bts n 8)) l := by
 have h1 := H.low
 have hl2 : (splice b p (bts n 8)).length = b.length := splice_len _ _ _ (by rw [bts8_length]; omega)
 exact ⟨by rw [hl2]; exact H.al, H.loal, by rw [hl2]; exact H.low, by rw [hl2]; exact H.most, by rw [hl2]; exact H.fine, H.rise, fun q hq => (H.held q hq).far (by rw [bts8_length]; omega) (by have := (H.fine q hq).2.1; rw [bts8_length]; omega), by rw [hl2]; exact H.fill⟩
def setW (j i : Nat) (n : Int) (r : GO) : GO := if r.at_ = j then { r with ws := r.ws.set i n } else r
def setI (j i : Nat) (n : Int) (r : GO) : GO := if r.at_ = j then { r with its := r.its.set i n } else r
theorem setW_at (j i : Nat) (n : Int) (r : GO) : (setW j i n r).at_ = r.at_ := by unfold setW; split <;> rfl
theorem setW_k (j i : Nat) (n : Int) (r : GO) : (setW j i n r).k = r.k := by unfold setW; split <;> rfl
theorem setW_raw (j i : Nat) (n : Int) (r : GO) : (setW j i n r).raw = r.raw := by unfold setW; split <;> rfl
theorem setW_its (j i : Nat) (n : Int) (r : GO) : (setW j i n r).its = r.its := by unfold setW; split <;> rfl
theorem setW_wlen (j i : Nat) (n : Int) (r : GO) : (setW j i n r).ws.length = r.ws.length := by unfold setW; split <;> simp
theorem setI_at (j i : Nat) (n : Int) (r : GO) : (setI j i n r).at_ = r.at_ := by unfold setI; split <;> rfl
theorem setI_t (j i : Nat) (n : Int) (r : GO) : (setI j i n r).t = r.t := by unfold setI; split <;> rfl
theorem setI_k (j i : Nat) (n : Int) (r : GO) : (setI j i n r).k = r.k := by unfold setI; split <;> rfl
theorem setI_raw (j i : Nat) (n : Int) (r : GO) : (setI j i n r).raw = r.raw := by unfold setI; split <;> rfl
theorem setI_ws (j i : Nat) (n : Int) (r : GO) : (setI j i n r).ws = r.ws := by unfold setI; split <;> rfl
theorem setI_ilen (j i : Nat) (n : Int) (r : GO) : (setI j i n r).its.length = r.its.length := by unfold setI; split <;> simp
theorem setW_ne {j i : Nat} {n : Int} {r : GO} (h : r.at_ ≠ j) : setW j i n r = r := by unfold setW; rw [if_neg h]
theorem setW_eq {j i : Nat} {n : Int} {r : GO} (h : r.at_ = j) : setW j i n r = { r with ws := r.ws.set i n } := by unfold setW; rw [if_pos h]
theorem setI_ne {j i : Nat} {n : Int} {r : GO} (h : r.at_ ≠ j) : setI j i n r = r := by unfold setI; rw [if_neg h]
theorem setI_eq {j i : Nat} {n : Int} {r : GO} (h : r.at_ = j) : setI j i n r = { r with its := r.its.set i n } := by unfold setI; rw [if_pos h]
theorem setW_fine {j i : Nat} {n : Int} {r : GO} (h : r.Fine) (hn : IsU n) : (setW j i n r).Fine := by
 refine ⟨by rw [setW_k, setW_wlen, setW_raw, setW_its]; exact h.right, fun z hz => ?_, by rw [setW_raw]; exact h.by_, by rw [setW_its]; exact h.is, by rw [setW_at]; exact h.al⟩
 unfold setW at hz
 split at hz
 · rcases List.mem_or_eq_of_mem_set hz with h1 | h1
   · exact h.us z h1
   · rw [h1]; exact hn
 · exact h.us z hz
theorem setI_fine {j i : Nat} {n : Int} {r : GO} (h : r.Fine) (hn : IsU n) : (setI j i n r).Fine := by
 refine ⟨by rw [setI_k, setI_ws, setI_raw, setI_ilen]; exact h.right, by rw [setI_ws]; exact h.us, by rw [setI_raw]; exact h.by_, fun z hz => ?_, by rw [setI_at]; exact h.al⟩
 unfold setI at hz
 split at hz
 · rcases List.mem_or_eq_of_mem_set hz with h1 | h1
   · exact h.is z h1
   · rw [h1]; exact hn
 · exact h.is z hz
theorem setW_len {j i : Nat} {n : Int} {r : GO} (h : r.Fine) (hn : IsU n) : (setW j i n r).len = r.len := by
 rw [(setW_fine (j := j) (i := i) h hn).len, h.len, setW_k, setW_raw, setW_its]
theorem setI_len {j i : Nat} {n : Int} {r : GO} (h : r.Fine) (hn : IsU n) : (setI j i n r).len = r.len := by
 rw [(setI_fine (j := j) (i := i) h hn).len, h.len, setI_k, setI_raw, setI_ilen]
theorem pairwise_imp_mem {R R' : GO -> GO -> Prop} : ∀ {l : List GO}, (∀ r ∈ l, ∀ q ∈ l, R r q -> R' r q) -> l.Pairwise R -> l.Pairwise R'
 | [], _, _ => .nil
 | x :: l, h, hp => by
   rw [List.pairwise_cons] at hp ⊢
   exact ⟨fun q hq => h x (by simp) q (by simp [hq]) (hp.1 q hq), pairwise_imp_mem (fun r hr q hq => h r (by simp [hr]) q (by simp [hq])) hp.2⟩
theorem GB.setW (H : GB lo b l) {q : GO} (hq : q ∈ l) {i : Nat} (hi : i < q.ws.length) {n : Int} (hn : IsU n) : GB lo (splice b (q.at_ + (16 + 8 * i)) (bts n 8)) (l.map (setW q.at_ i n)) := by
 have hqf := H.fine q hq
 have hfr := hqf.1.front
 have hfit : q.at_ + (16 + 8 * i) + 8 <= b.length := by omega
 have hl2 : (splice b (q.at_ + (16 + 8 * i)) (bts n 8)).length = b.length := splice_len _ _ _ (by rw [bts8_length]; exact hfit)
 refine ⟨by rw [hl2]; exact H.al, H.loal, by rw [hl2]; exact H.low, by rw [hl2]; exact H.most, ?_, ?_, ?_, by rw [hl2]; exact H.fill.map fun r hr => ⟨setW_at _ _ _ _, setW_len (H.fine r hr).1 hn⟩⟩
 · intro r' hr'
   obtain ⟨r, hr, rfl⟩ := List.mem_map.1 hr'
   have hf := H.fine r hr
   rw [setW_at, hl2, setW_len hf.1 hn]
   exact ⟨setW_fine hf.1 hn, hf.2⟩
 · rw [List.pairwise_map]
   refine pairwise_imp_mem (fun r hr r' _ h => ?_) H.rise
   rw [setW_at, setW_at, setW_len (H.fine r hr).1 hn]; exact h
 · intro r' hr'
   obtain ⟨r, hr, rfl⟩ := List.mem_map.1 hr'
   have hrf := H.fine r hr
   by_cases e : r.at_ = q.at_
   · have e2 := H.one hr hq e
     subst e2
     rw [setW_eq rfl]
     exact HoldsB.set (H.held r hr) hi
   · rw [setW_ne e]
     refine (H.held r hr).far (by rw [bts8_length]; exact hfit) ?_
     rw [bts8_length]
     have : r.bs.length = r.len := rfl
     rcases apartG_of H.rise hr hq with e4 | h4 | h4
     · exact absurd (by rw [e4]) e
     · right; omega
     · left; omega
theorem GB.setI (H : GB lo b l) {q : GO} (hq : q ∈ l) (h0 : q.raw = []) {i : Nat} (hi : i < q.its.length) {n : Int} (hn : IsU n) : GB lo (splice b (q.at_ + (16 + 8 * q.ws.length + 8 * i)) (bts n 8)) (l.map (setI q.at_ i n)) := by
 have hqf := H.fine q hq
 have hfr := hqf.1.front
 have hfit : q.at_ + (16 + 8 * q.ws.length + 8 * i) + 8 <= b.length := by omega
 have hl2 : (splice b (q.at_ + (16 + 8 * q.ws.length + 8 * i)) (bts n 8)).length = b.length := splice_len _ _ _ (by rw [bts8_length]; exact hfit)
 refine ⟨by rw [hl2]; exact H.al, H.loal, by rw [hl2]; exact H.low, by rw [hl2]; exact H.most, ?_, ?_, ?_, by rw [hl2]; exact H.fill.map fun r hr => ⟨setI_at _ _ _ _, setI_len (H.fine r hr).1 hn⟩⟩
 · intro r' hr'
   obtain ⟨r, hr, rfl⟩ := List.mem_map.1 hr'
   have hf := H.fine r hr
   rw [setI_at, hl2, setI_len hf.1 hn]
   exact ⟨setI_fine hf.1 hn, hf.2⟩
 · rw [List.pairwise_map]
   refine pairwise_imp_mem (fun r hr r' _ h => ?_) H.rise
   rw [setI_at, setI_at, setI_len (H.fine r hr).1 hn]; exact h
 · intro r' hr'
   obtain ⟨r, hr, rfl⟩ := List.mem_map.1 hr'
   have hrf := H.fine r hr
   by_cases e : r.at_ = q.at_
   · have e2 := H.one hr hq e
     subst e2
     rw [setI_eq rfl]
     have h9 := H.held r hr
     unfold GO.bs at h9 ⊢
     rw [h0] at h9
     show HoldsB _ _ (encO r.k r.ws r.raw (r.its.set i n))
     rw [h0]
     exact HoldsB.setI h9 hi
   · rw [setI_ne e]
     refine (H.held r hr).far (by rw [bts8_length]; exact hfit) ?_
     rw [bts8_length]
     have : r.bs.length = r.len := rfl
     rcases apartG_of H.rise hr hq with e4 | h4 | h4
     · exact absurd (by rw [e4]) e
     · right; omega
     · left; omega
theorem GB.root_setW (H : GB lo b l) {q : GO} (hq : q ∈ l) {i : Nat} (hi : i < q.ws.length) {n : Int} {p : Nat} (hp : p + 8 <= lo) : gnum (splice b (q.at_ + (16 + 8 * i)) (bts n 8)) (p : Nat) 8 = gnum b (p : Nat) 8 := by
 have hqf := H.fine q hq
 have hfr := hqf.1.front
 exact gnum_far (by rw [bts8_length]; omega) (by omega) (by right; omega)
theorem GB.root_setI (H : GB lo b l) {q : GO} (hq : q ∈ l) {i : Nat} (hi : i < q.its.length) {n : Int} {p : Nat} (hp : p + 8 <= lo) : gnum (splice b (q.at_ + (16 + 8 * q.ws.length + 8 * i)) (bts n 8)) (p : Nat) 8 = gnum b (p : Nat) 8 := by
 have hqf := H.fine q hq
 have hfr := hqf.1.front
 exact gnum_far (by rw [bts8_length]; omega) (by omega) (by right; omega)
def Lk (wd : Nat) : Int -> List GO -> Prop
 | p, [] => p = 0
 | p, r :: L => p = r.at_ /\ Lk wd (r.ws.getD wd 0) L
theorem Lk.map {wd : Nat} {f : GO -> GO} : ∀ {L : List GO} {p : Int}, Lk wd p L -> (∀ r ∈ L, (f r).at_ = r.at_ /\ (f r).ws.getD wd 0 = r.ws.getD wd 0) -> Lk wd p (L.map f)
 | [], p, h, _ => h
 | r :: L, p, h, hf => by
   obtain ⟨h1, h2⟩ := hf r (by simp)
   refine ⟨by rw [h1]; exact h.1, ?_⟩
   rw [h2]
   exact Lk.map h.2 fun q hq => hf q (by simp [hq])
theorem Lk.last {wd : Nat} {q : GO} : ∀ {L : List GO} {p : Int}, Lk wd p (L ++ [q]) -> q.ws.getD wd 0 = 0
 | [], p, h => h.2
 | r :: L, p, h => Lk.last (L := L) h.2
theorem Lk.snoc {wd : Nat} {q n : GO} {f : GO -> GO} : ∀ {L : List GO} {p : Int}, Lk wd p (L ++ [q]) -> (∀ r ∈ L ++ [q], (f r).at_ = r.at_) -> (∀ r ∈ L, (f r).ws.getD wd 0 = r.ws.getD wd 0) -> (f q).ws.getD wd 0 = n.at_ -> n.ws.getD wd 0 = 0 -> Lk wd p ((L ++ [q]).map f ++ [n])
 | [], p, h, ha, _, hq, hn => ⟨by rw [ha q (by simp)]; exact h.1, hq, hn⟩
 | r :: L, p, h, ha, hk, hq, hn => ⟨by rw [ha r (by simp)]; exact h.1, by rw [hk r (by simp)]; exact Lk.snoc (L := L) h.2 (fun x hx => ha x (by simp only [List.cons_append, List.mem_cons]; exact .inr hx)) (fun x hx => hk x (by simp [hx])) hq hn⟩
theorem Lk.isU {wd : Nat} {p : Int} {L : List GO} (h : Lk wd p L) (hl : ∀ r ∈ L, r.at_ < 18446744073709551616) : IsU p := by
 cases L with
 | nil => rw [show p = 0 from h]; exact ⟨by omega, by omega⟩
 | cons r L => have := hl r (by simp); rw [h.1]; exact ⟨by omega, by omega⟩
def lkG (root wd : Nat) (L : List GO) : Nat := match L.getLast? with
  | none => root
  | some q => q.at_ + (16 + 8 * wd)
def GO.it (r : GO) : It := ⟨r.at_, r.ws, r.raw, r.its⟩
theorem GB.follow {D F : Int} {m : IM} (hv : 256 + 8 * (D + F) = (lo : Nat)) (H : GB lo m.b l) {kd wd : Nat} : ∀ {L : List GO} {last p : Int}, 0 <= last -> (∀ r ∈ L, r ∈ l /\ r.k = kd /\ last < r.at_) ->
 L.Pairwise (fun r r' => r.at_ + r.len <= r'.at_) -> Lk wd p L -> chainAt m D F kd wd last p (L.map GO.it)
 | [], last, p, h0, _, _, hl => .inl (by rw [show p = 0 from hl]; omega)
 | r :: L, last, p, h0, hf, hp, ⟨e, hl⟩ => by
   obtain ⟨hr, hk, hla⟩ := hf r (by simp)
   have hrf := H.fine r hr
   rw [List.pairwise_cons] at hp
   have hfr := hrf.1.front
   have h1 := GB.follow hv H (last := r.at_) (p := r.ws.getD wd 0) (by omega) (fun q hq => ⟨(hf q (by simp [hq])).1, (hf q (by simp [hq])).2.1, by have := hp.1 q hq; omega⟩) hp.2 hl
   obtain ⟨s, d1, d2, d3, d4, d5, d6⟩ := HoldsB.dec (H.held r hr) hrf.1.al hrf.1.right hrf.1.us hrf.1.is
   rw [hk] at d1 d2 d4 d5 d6
   exact ⟨by rw [e]; exact hla, e, ⟨s, ⟨by have := hrf.2.1; show _ <= ((r.at_ : Nat) : Int); omega, d1, d2⟩, d4, d5, d6⟩, h1⟩
end
def RootG (lo : Nat) (l : List GO) (p : Nat) : Prop := (p % 8 = 0 /\ 192 <= p /\ p + 8 <= lo) ∨ ∃ o ∈ l, ∃ i, i < o.ws.length /\ p = o.at_ + (16 + 8 * i)
def stP (p : Nat) (v : Int) (r : GO) : GO := if r.at_ + 16 <= p then { r with ws := r.ws.set ((p - (r.at_ + 16)) / 8) v } else r
section
variable {lo : Nat} {b : List Int} {l : List GO}
theorem stP_at (p : Nat) (v : Int) (r : GO) : (stP p v r).at_ = r.at_ := by unfold stP; split <;> rfl
theorem stP_t (p : Nat) (v : Int) (r : GO) : (stP p v r).t = r.t := by unfold stP; split <;> rfl
theorem stP_k (p : Nat) (v : Int) (r : GO) : (stP p v r).k = r.k := by unfold stP; split <;> rfl
theorem stP_raw (p : Nat) (v : Int) (r : GO) : (stP p v r).raw = r.raw := by unfold stP; split <;> rfl
theorem stP_its (p : Nat) (v : Int) (r : GO) : (stP p v r).its = r.its := by unfold stP; split <;> rfl
theorem GB.setP_low (H : GB lo b l) {p : Nat} (hp : p + 8 <= lo) (v : Int) {r : GO} (hr : r ∈ l) : stP p v r = r := by
 have := (H.fine r hr).2.1
 unfold stP
 rw [if_neg (by omega)]
theorem GB.setP_word (H : GB lo b l) {o : GO} (ho : o ∈ l) {i : Nat} (hi : i < o.ws.length) (v : Int) {r : GO} (hr : r ∈ l) : stP (o.at_ + (16 + 8 * i)) v r = Go.Proofs.YtgcmbgniaffdlaaGreat.setW o.at_ i v r := by
 have h1 := (H.fine r hr).1.front
 have h2 := (H.fine o ho).1.front
 by_cases e : r.at_ = o.at_
 · rw [setW_eq e]
   unfold stP
   rw [if_pos (by omega), e, show (o.at_ + (16 + 8 * i) - (o.at_ + 16)) / 8 = i by omega]
 · rw [setW_ne e]
   rcases apartG_of H.rise hr ho with e3 | h3 | h3
   · exact absurd (by rw [e3]) e
   · unfold stP
     rw [if_pos (by omega), List.set_eq_of_length_le (by omega)]
   · unfold stP
     rw [if_neg (by omega)]
theorem GB.root_fit (H : GB lo b l) {p : Nat} (hp : RootG lo l p) : p + 8 <= b.length /\ p % 8 = 0 := by
 rcases hp with h | ⟨o, ho, i, hi, rfl⟩
 · have := H.low; exact ⟨by omega, h.1⟩
 · have hf := H.fine o ho
   have := hf.1.front
   have := hf.1.al
   exact ⟨by omega, by omega⟩
theorem GB.root_low (H : GB lo b l) (hlo : 192 <= lo) {p : Nat} (hp : RootG lo l p) : 192 <= p := by
 rcases hp with h | ⟨o, ho, i, hi, rfl⟩
 · exact h.2.1
 · have := (H.fine o ho).2.1; omega
theorem RootG.add {p : Nat} (hp : RootG lo l p) (l' : List GO) : RootG lo (l ++ l') p := by
 rcases hp with h | ⟨o, ho, i, hi, rfl⟩
 · exact .inl h
 · exact .inr ⟨o, List.mem_append_left _ ho, i, hi, rfl⟩
theorem GB.setP (H : GB lo b l) {p : Nat} (hp : RootG lo l p) {v : Int} (hv : IsU v) : GB lo (splice b p (bts v 8)) (l.map (stP p v)) := by
 rcases hp with h | ⟨o, ho, i, hi, rfl⟩
 · have e : l.map (stP p v) = l := by
     exact (List.map_congr_left (g := id) (fun r hr => H.setP_low h.2.2 v hr)).trans (List.map_id l)
   rw [e]
   exact H.root h.2.2 v
 · rw [List.map_congr_left (fun r hr => H.setP_word ho hi v hr)]
   exact H.setW ho hi hv
theorem gnum_set {p : Nat} {v : Int} (hp : p + 8 <= b.length) (hv : IsU v) : gnum (splice b p (bts v 8)) (p : Nat) 8 = v := by
 have h0 := hv.1
 have h1 := hv.2
 obtain ⟨z, hz⟩ : ∃ z : Nat, v = z := ⟨v.toNat, by omega⟩
 subst hz
 exact gnum_here hp (by omega)
theorem GB.far (H : GB lo b l) {p q : Nat} (hp : RootG lo l p) (hq : RootG lo l q) (hne : p ≠ q) (v : Int) : gnum (splice b q (bts v 8)) (p : Nat) 8 = gnum b (p : Nat) 8 := by
 have h1 := H.root_fit hp
 have h2 := H.root_fit hq
 exact gnum_far (by rw [bts8_length]; omega) (by omega) (by rw [bts8_length]; omega)
def Ch (b : List Int) (l : List GO) (p wd : Nat) (pred : GO -> Bool) : Prop := Lk wd (gnum b (p : Nat) 8) (l.filter pred)
def Still (pred : GO -> Bool) : Prop := ∀ p v r, pred (stP p v r) = pred r
theorem filter_setP {pred : GO -> Bool} (hs : Still pred) (p : Nat) (v : Int) : (l.map (stP p v)).filter pred = (l.filter pred).map (stP p v) := by
 rw [List.filter_map]
 congr 1
 exact List.filter_congr fun r _ => hs p v r
theorem GB.setP_far (H : GB lo b l) {p wd : Nat} (hp : RootG lo l p) {v : Int} {r : GO} (hr : r ∈ l) (hne : p ≠ r.at_ + (16 + 8 * wd)) : (stP p v r).ws.getD wd 0 = r.ws.getD wd 0 := by
 have hal := (H.fine r hr).1.al
 have h8 := (H.root_fit hp).2
 unfold stP
 split
 · show (r.ws.set _ v).getD wd 0 = _
   rw [List.getD_eq_getElem?_getD, List.getD_eq_getElem?_getD, List.getElem?_set_ne (by omega)]
 · rfl
theorem Ch.setP (H : GB lo b l) {p q wd : Nat} {pred : GO -> Bool} {v : Int} (hs : Still pred) (h : Ch b l p wd pred) (hp : RootG lo l p) (hq : RootG lo l q) (hne : p ≠ q) (hw : ∀ r ∈ l, pred r = true -> q ≠ r.at_ + (16 + 8 * wd)) :
 Ch (splice b q (bts v 8)) (l.map (stP q v)) p wd pred := by
 unfold Ch at h ⊢
 rw [filter_setP hs, H.far hp hq hne]
 refine h.map fun r hr => ?_
 obtain ⟨h1, h2⟩ := List.mem_filter.1 hr
 exact ⟨stP_at _ _ _, H.setP_far hq h1 (hw r h1 h2)⟩
theorem Ch.add (H : GB lo b l) {p wd : Nat} {pred : GO -> Bool} (h : Ch b l p wd pred) (hp : RootG lo l p) (y : List Int) {r : GO} (hr : pred r = false) : Ch (b ++ y) (l ++ [r]) p wd pred := by
 unfold Ch at h ⊢
 rw [gnum_add (H.root_fit hp).1, List.filter_append]
 have e : [r].filter pred = [] := by simp [hr]
 rw [e, List.append_nil]
 exact h
theorem Ch.none {p wd : Nat} {pred : GO -> Bool} (h0 : gnum b (p : Nat) 8 = 0) (hn : ∀ r ∈ l, pred r = false) : Ch b l p wd pred := by
 unfold Ch
 have e : l.filter pred = [] := List.filter_eq_nil_iff.2 fun r hr => by rw [hn r hr]; simp
 rw [e]
 exact h0
theorem lkG_nil (p wd : Nat) : lkG p wd [] = p := rfl
theorem lkG_snoc (p wd : Nat) (L : List GO) (q : GO) : lkG p wd (L ++ [q]) = q.at_ + (16 + 8 * wd) := by simp [lkG]
theorem Ch.link_at (H : GB lo b l) {p wd : Nat} {pred : GO -> Bool} (h : Ch b l p wd pred) (hp : RootG lo l p) (hw : ∀ r ∈ l, pred r = true -> wd < r.ws.length) :
   RootG lo l (lkG p wd (l.filter pred)) /\ gnum b (lkG p wd (l.filter pred) : Nat) 8 = 0 := by
 unfold Ch at h
 obtain ⟨L, hL⟩ : ∃ L, l.filter pred = L := ⟨_, rfl⟩
 rw [hL] at h ⊢
 rcases List.eq_nil_or_concat L with rfl | ⟨L', q, rfl⟩
 · exact ⟨hp, h⟩
 · rw [List.concat_eq_append] at h hL ⊢
   rw [lkG_snoc]
   have hq : q ∈ l.filter pred := by rw [hL]; simp
   obtain ⟨h1, h2⟩ := List.mem_filter.1 hq
   have h3 := hw q h1 h2
   exact ⟨.inr ⟨q, h1, wd, h3, rfl⟩, by rw [H.word h1 h3]; exact Lk.last h⟩
def LP (l : List GO) (p wd : Nat) (pred : GO -> Bool) (x : Nat) : Prop := x = p ∨ ∃ r ∈ l, pred r = true /\ x = r.at_ + (16 + 8 * wd)
theorem lkG_LP (p wd : Nat) (pred : GO -> Bool) : LP l p wd pred (lkG p wd (l.filter pred)) := by
 obtain ⟨L, hL⟩ : ∃ L, l.filter pred = L := ⟨_, rfl⟩
 rw [hL]
 rcases List.eq_nil_or_concat L with rfl | ⟨L', q, rfl⟩
 · exact .inl rfl
 · rw [List.concat_eq_append] at hL ⊢
   rw [lkG_snoc]
   obtain ⟨h1, h2⟩ := List.mem_filter.1 (show q ∈ l.filter pred by rw [hL]; simp)
   exact .inr ⟨q, h1, h2, rfl⟩
theorem Ch.setLP (H : GB lo b l) {p q wd : Nat} {pred : GO -> Bool} {v : Int} (hs : Still pred) (h : Ch b l p wd pred) (hp : RootG lo l p) (hq : RootG lo l q) (hx : ¬ LP l p wd pred q) :
 Ch (splice b q (bts v 8)) (l.map (stP q v)) p wd pred :=
 h.setP H hs hp hq (fun e => hx (.inl e.symm)) (fun r hr hpr e => hx (.inr ⟨r, hr, hpr, e⟩))
theorem Ch.congr {p wd : Nat} {pred pred' : GO -> Bool} (h : Ch b l p wd pred) (he : ∀ r ∈ l, pred r = pred' r) : Ch b l p wd pred' := by
 unfold Ch at h ⊢
 rw [<- List.filter_congr he]; exact h
theorem GB.word_inj (H : GB lo b l) {o q : GO} (ho : o ∈ l) (hq : q ∈ l) {i j : Nat} (hi : i < o.ws.length) (hj : j < q.ws.length) (e : o.at_ + (16 + 8 * i) = q.at_ + (16 + 8 * j)) : o = q /\ i = j := by
 have h1 := (H.fine o ho).1.front
 have h2 := (H.fine q hq).1.front
 rcases apartG_of H.rise ho hq with h3 | h3 | h3
 · subst h3; exact ⟨rfl, by omega⟩
 · omega
 · omega
theorem Ch.link {n : GO} (hlo : 0 < lo) (H : GB lo b l) {p wd : Nat} {pred pred' : GO -> Bool} (hs : Still pred) (hs' : Still pred') (h : Ch b l p wd pred) (hp : RootG lo l p) (hw : ∀ r ∈ l, pred r = true -> wd < r.ws.length) (hnl : n ∈ l) (hf : l.filter pred' = l.filter pred ++ [n]) (h0 : n.ws.getD wd 0 = 0) (hpn : p ≠ n.at_ + (16 + 8 * wd)) :
 Ch (splice b (lkG p wd (l.filter pred)) (bts (n.at_ : Nat) 8)) (l.map (stP (lkG p wd (l.filter pred)) (n.at_ : Nat))) p wd pred' := by
 have hu : IsU (n.at_ : Nat) := by have := (H.fine n hnl).2.2; have := H.most; exact ⟨by omega, by omega⟩
 unfold Ch at h ⊢
 rw [filter_setP hs', hf]
 have hr2 : (l.filter pred ++ [n]).Pairwise (fun r r' => r.at_ + r.len <= r'.at_) := by rw [<- hf]; exact H.rise.filter _
 obtain ⟨L, hL⟩ : ∃ L, l.filter pred = L := ⟨_, rfl⟩
 have hmem : ∀ r ∈ L, r ∈ l /\ pred r = true := fun r hr => List.mem_filter.1 (hL ▸ hr)
 rw [hL] at h hr2 ⊢
 have hrise : L.Pairwise (fun r r' => r.at_ + r.len <= r'.at_) := (List.pairwise_append.1 hr2).1
 have hlast : ∀ r ∈ L, r.at_ + r.len <= n.at_ := fun r hr => (List.pairwise_append.1 hr2).2.2 r hr n (by simp)
 rcases List.eq_nil_or_concat L with rfl | ⟨L', q, rfl⟩
 · rw [lkG_nil, gnum_set (H.root_fit hp).1 hu]
   refine ⟨by rw [stP_at], ?_⟩
   show (stP p n.at_ n).ws.getD wd 0 = 0
   rw [H.setP_far hp hnl hpn]; exact h0
 · rw [List.concat_eq_append] at h hmem hrise hlast ⊢
   rw [lkG_snoc]
   obtain ⟨q1, q2⟩ := hmem q (by simp)
   have q3 := hw q q1 q2
   have hqf := H.fine q q1
   have hfr := hqf.1.front
   have hqr : RootG lo l (q.at_ + (16 + 8 * wd)) := .inr ⟨q, q1, wd, q3, rfl⟩
   have hqn := hlast q (by simp)
   have e1 : (L' ++ [q] ++ [n]).map (stP (q.at_ + (16 + 8 * wd)) (n.at_ : Nat)) = (L' ++ [q]).map (stP (q.at_ + (16 + 8 * wd)) (n.at_ : Nat)) ++ [n] := by
     rw [List.map_append]
     congr 1
     show [stP (q.at_ + (16 + 8 * wd)) (n.at_ : Nat) n] = [n]
     unfold stP
     rw [if_neg (by omega)]
   rw [e1]
   have hpq : p ≠ q.at_ + (16 + 8 * wd) := by
     intro e2
     have h9 := H.word q1 q3
     rw [<- e2, Lk.last h] at h9
     cases L' with
     | nil => have h3 := h.1; rw [h9] at h3; have := hqf.2.1; omega
     | cons r L' => have h3 := h.1; rw [h9] at h3; have := (H.fine r (hmem r (by simp)).1).2.1; omega
   rw [H.far hp hqr hpq]
   refine h.snoc (fun r _ => stP_at _ _ _) (fun r hr => ?_) ?_ h0
   · have hrl := (hmem r (by simp [hr])).1
     refine H.setP_far hqr hrl fun e2 => ?_
     have hlt := (List.pairwise_append.1 hrise).2.2 r hr q (by simp)
     have := (H.fine r hrl).1.front
     omega
   · rw [H.setP_word q1 q3 _ q1, setW_eq rfl]
     show (q.ws.set wd _).getD wd 0 = _
     rw [List.getD_eq_getElem?_getD, List.getElem?_set_self q3]; rfl
theorem Ch.setI (H : GB lo b l) {q : GO} (hq : q ∈ l) (hraw : q.raw = []) {i : Nat} (hi : i < q.its.length) {v : Int} (hv : IsU v) {p wd : Nat} {pred : GO -> Bool} (hs : ∀ j i v r, pred (setI j i v r) = pred r) (h : Ch b l p wd pred) (hp : RootG lo l p) :
 Ch (splice b (q.at_ + (16 + 8 * q.ws.length + 8 * i)) (bts v 8)) (l.map (setI q.at_ i v)) p wd pred := by
 have hr : gnum (splice b (q.at_ + (16 + 8 * q.ws.length + 8 * i)) (bts v 8)) (p : Nat) 8 = gnum b (p : Nat) 8 := by
   rcases hp with hh | ⟨o, ho, k, hk, rfl⟩
   · exact H.root_setI hq hi hh.2.2
   · rw [H.word ho hk]
     have h2 := (H.setI hq hraw hi hv).word (q := Go.Proofs.YtgcmbgniaffdlaaGreat.setI q.at_ i v o) (i := k) (List.mem_map.2 ⟨o, ho, rfl⟩) (by rw [setI_ws]; exact hk)
     rw [setI_at, setI_ws] at h2
     exact h2
 unfold Ch at h ⊢
 rw [hr, List.filter_map, show l.filter (pred ∘ Go.Proofs.YtgcmbgniaffdlaaGreat.setI q.at_ i v) = l.filter pred from List.filter_congr fun r _ => hs _ _ _ r]
 exact h.map fun r _ => ⟨setI_at _ _ _ _, by rw [setI_ws]⟩
theorem Ch.follow {D F : Int} {m : IM} (hv : 256 + 8 * (D + F) = (lo : Nat)) (hlo : 0 < lo) (H : GB lo m.b l) {kd wd p : Nat} {pred : GO -> Bool} (h : Ch m.b l p wd pred) (hk : ∀ r ∈ l, pred r = true -> r.k = kd) :
 chainAt m D F kd wd 0 (m.word (p : Nat)) ((l.filter pred).map GO.it) := by
 refine GB.follow hv H (by omega) (fun r hr => ?_) (H.rise.filter _) h
 obtain ⟨h1, h2⟩ := List.mem_filter.1 hr
 exact ⟨h1, hk r h1 h2, by have := (H.fine r h1).2.1; omega⟩
theorem Ch.isU (H : GB lo b l) {p wd : Nat} {pred : GO -> Bool} (h : Ch b l p wd pred) : IsU (gnum b (p : Nat) 8) := by
 refine Lk.isU h fun r hr => ?_
 have := (H.fine r (List.mem_filter.1 hr).1).2.2
 have := H.most
 omega
end
def pBk (key D F : Int) (kd i nl : Nat) (r : GO) : Bool := r.k == kd && bucket (hsh key r.raw) (nb D F kd) == (i : Int) && r.at_ != nl
def pFld (fld : List Int -> List Int) (f : List Int) (ex : Nat) (r : GO) : Bool := r.k == 1 && fld r.raw == f && r.at_ != ex
def pArr (p nl : Nat) (r : GO) : Bool := r.k == 4 && r.t == p && r.at_ != nl
theorem pBk_still (key D F : Int) (kd i nl : Nat) : Still (pBk key D F kd i nl) := fun p v r => by unfold pBk; rw [stP_k, stP_raw, stP_at]
theorem pFld_still (fld : List Int -> List Int) (f : List Int) (ex : Nat) : Still (pFld fld f ex) := fun p v r => by unfold pFld; rw [stP_k, stP_raw, stP_at]
theorem pArr_still (p nl : Nat) : Still (pArr p nl) := fun q v r => by unfold pArr; rw [stP_k, stP_t, stP_at]
theorem pBk_iff {key D F : Int} {kd i nl : Nat} {r : GO} : pBk key D F kd i nl r = true ↔ (r.k = kd /\ bucket (hsh key r.raw) (nb D F kd) = (i : Int)) /\ r.at_ ≠ nl := by simp [pBk]
theorem pFld_iff {fld : List Int -> List Int} {f : List Int} {ex : Nat} {r : GO} : pFld fld f ex r = true ↔ (r.k = 1 /\ fld r.raw = f) /\ r.at_ ≠ ex := by simp [pFld]
theorem pArr_iff {p nl : Nat} {r : GO} : pArr p nl r = true ↔ (r.k = 4 /\ r.t = p) /\ r.at_ ≠ nl := by simp [pArr]
theorem GO.Fine.wl {r : GO} (h : r.Fine) : r.ws.length = kwN r.k := (rightN_len h.right).1
theorem GO.Fine.kk {r : GO} (h : r.Fine) : 1 <= r.ws.length /\ (r.k = 1 -> r.ws.length = 5) /\ (r.k = 2 -> r.ws.length = 3) /\ (r.k = 4 -> r.ws.length = 1) := by
 have hw := h.wl
 have h0 : kwN r.k ≠ 0 := by
   intro e
   have := h.right
   unfold rightN at this
   simp [e] at this
   have hm : mostN (r.k : Int) = 0 := by
     by_cases h1 : (r.k : Int) = 1
     · rw [h1] at e; exact absurd e (by decide)
     · by_cases h2 : (r.k : Int) = 2
       · rw [h2] at e; exact absurd e (by decide)
       · by_cases h3 : (r.k : Int) = 3
         · rw [h3] at e; exact absurd e (by decide)
         · by_cases h4 : (r.k : Int) = 4
           · rw [h4] at e; exact absurd e (by decide)
           · unfold mostN; rw [if_neg h1, if_neg h2, if_neg h3, if_neg h4]
   rw [hm] at this
   split at this <;> omega
 refine ⟨by omega, fun e => by rw [hw, e]; rfl, fun e => by rw [hw, e]; rfl, fun e => by rw [hw, e]; rfl⟩
def ArRoot (l : List GO) (p : Nat) : Prop := p = 192 ∨ ∃ d ∈ l, d.k = 1 /\ p = d.at_ + 48
structure DB (fld : List Int -> List Int) (key D F : Int) (nl ex : Nat) (b : List Int) (l : List GO) : Prop where
 hD : 1 <= D /\ D <= 256
 hF : 1 <= F /\ F <= 256
 gb : GB (newK D F) b l
 bks : ∀ kd, (kd = 1 ∨ kd = 2) -> ∀ i : Nat, (i : Int) < nb D F kd -> Ch b l (tb D kd + 8 * i) 1 (pBk key D F kd i nl)
 sum : ∀ r ∈ l, r.k = 1 ∨ r.k = 2 -> r.ws.getD 0 0 = hsh key r.raw
 uniq : ∀ r ∈ l, ∀ q ∈ l, r.k = q.k -> (r.k = 1 ∨ r.k = 2) -> r.raw = q.raw -> r = q
 flds : ∀ f ∈ l, f.k = 2 -> Ch b l (f.at_ + 32) 2 (pFld fld f.raw ex)
 own : ∀ r ∈ l, r.k = 1 -> r.at_ ≠ ex -> ∃ f ∈ l, f.k = 2 /\ f.raw = fld r.raw
 arrs : ∀ p, ArRoot l p -> Ch b l p 0 (pArr p nl)
 ats : ∀ r ∈ l, r.k = 4 -> r.t + 8 <= b.length
 exl : ex = 0 ∨ ∃ l1 d l2, l = l1 ++ d :: l2 /\ d.at_ = ex /\ d.k = 1 /\ d.ws.getD 2 0 = 0 /\ ∀ r ∈ l2, r.k ≠ 1
 nll : nl = 0 ∨ ∃ l1 n, l = l1 ++ [n] /\ n.at_ = nl /\ (n.k = 1 ∨ n.k = 2 -> n.ws.getD 1 0 = 0) /\ (n.k = 4 -> n.ws.getD 0 0 = 0)
section
variable {fld : List Int -> List Int} {key D F : Int} {nl ex : Nat} {b : List Int} {l : List GO}
theorem newK_low (D F : Int) (hD : 1 <= D /\ D <= 256) (hF : 1 <= F /\ F <= 256) : 256 <= newK D F /\ 0 < newK D F := by have := newK_val hD hF; omega
theorem bk_root (hD : 1 <= D /\ D <= 256) (hF : 1 <= F /\ F <= 256) {kd i : Nat} (hi : (i : Int) < nb D F kd) (l : List GO) : RootG (newK D F) l (tb D kd + 8 * i) := by
 have := tb_low hD hF hi
 exact .inl ⟨by omega, by omega, this.1⟩
theorem DB.fd_root (H : DB fld key D F nl ex b l) {f : GO} (hf : f ∈ l) (hk : f.k = 2) : RootG (newK D F) l (f.at_ + 32) :=
 .inr ⟨f, hf, 2, by have := (H.gb.fine f hf).1.kk.2.2.1 hk; omega, rfl⟩
theorem DB.ar_root (H : DB fld key D F nl ex b l) {p : Nat} (hp : ArRoot l p) : RootG (newK D F) l p := by
 have h0 := newK_low D F H.hD H.hF
 rcases hp with rfl | ⟨d, hd, hk, rfl⟩
 · exact .inl ⟨by decide, by decide, by omega⟩
 · exact .inr ⟨d, hd, 4, by have := (H.gb.fine d hd).1.kk.2.1 hk; omega, rfl⟩
theorem DB.bk_w (H : DB fld key D F nl ex b l) {kd i : Nat} (hkd : kd = 1 ∨ kd = 2) : ∀ r ∈ l, pBk key D F kd i nl r = true -> 1 < r.ws.length := fun r hr h => by
 have h1 := (pBk_iff.1 h).1.1
 have h2 := (H.gb.fine r hr).1.kk
 rcases hkd with rfl | rfl
 · have := h2.2.1 h1; omega
 · have := h2.2.2.1 h1; omega
theorem DB.fd_w (H : DB fld key D F nl ex b l) {f : List Int} {e : Nat} : ∀ r ∈ l, pFld fld f e r = true -> 2 < r.ws.length := fun r hr h => by
 have := (H.gb.fine r hr).1.kk.2.1 (pFld_iff.1 h).1.1; omega
theorem DB.ar_w (H : DB fld key D F nl ex b l) {p : Nat} : ∀ r ∈ l, pArr p nl r = true -> 0 < r.ws.length := fun r hr h => by
 have := (H.gb.fine r hr).1.kk; omega
theorem DB.bk_LP (H : DB fld key D F nl ex b l) {kd i : Nat} (hkd : kd = 1 ∨ kd = 2) (hi : (i : Int) < nb D F kd) {x : Nat} (hx : LP l (tb D kd + 8 * i) 1 (pBk key D F kd i nl) x) : (x = tb D kd + 8 * i /\ x + 8 <= newK D F) ∨ ∃ r ∈ l, (r.k = kd /\ bucket (hsh key r.raw) (nb D F kd) = (i : Int)) /\ 1 < r.ws.length /\ x = r.at_ + (16 + 8 * 1) := by
 rcases hx with rfl | ⟨r, hr, hp, rfl⟩
 · exact .inl ⟨rfl, (tb_low H.hD H.hF hi).1⟩
 · exact .inr ⟨r, hr, (pBk_iff.1 hp).1, H.bk_w hkd r hr hp, rfl⟩
theorem DB.fd_LP (H : DB fld key D F nl ex b l) {f : GO} {e : Nat} (hf : f ∈ l) (hk : f.k = 2) {x : Nat} (hx : LP l (f.at_ + 32) 2 (pFld fld f.raw e) x) : ∃ r ∈ l, ((r.k = 1 /\ fld r.raw = f.raw) ∨ r = f) /\ 2 < r.ws.length /\ x = r.at_ + (16 + 8 * 2) := by
 rcases hx with rfl | ⟨r, hr, hp, rfl⟩
 · exact ⟨f, hf, .inr rfl, by have := (H.gb.fine f hf).1.kk.2.2.1 hk; omega, rfl⟩
 · exact ⟨r, hr, .inl (pFld_iff.1 hp).1, H.fd_w r hr hp, rfl⟩
theorem DB.ar_LP (H : DB fld key D F nl ex b l) {p : Nat} (hp : ArRoot l p) {x : Nat} (hx : LP l p 0 (pArr p nl) x) : (x = 192 /\ p = 192) ∨ (∃ d ∈ l, d.k = 1 /\ p = d.at_ + 48 /\ x = d.at_ + (16 + 8 * 4) /\ 4 < d.ws.length) ∨ ∃ r ∈ l, (r.k = 4 /\ r.t = p) /\ 0 < r.ws.length /\ x = r.at_ + (16 + 8 * 0) := by
 rcases hx with rfl | ⟨r, hr, hq, rfl⟩
 · rcases hp with h | ⟨d, hd, hk, h⟩
   · exact .inl ⟨h, h⟩
   · exact .inr (.inl ⟨d, hd, hk, h, h, by have := (H.gb.fine d hd).1.kk.2.1 hk; omega⟩)
 · exact .inr (.inr ⟨r, hr, (pArr_iff.1 hq).1, H.ar_w r hr hq, rfl⟩)
theorem GB.above {lo : Nat} (H : GB lo b l) {r : GO} (hr : r ∈ l) {x i : Nat} (h1 : x + 8 <= lo) (h2 : x = r.at_ + (16 + 8 * i)) : False := by
 have := (H.fine r hr).2.1; omega
theorem DB.bk_bk (H : DB fld key D F nl ex b l) {kd i kd' i' : Nat} (hkd : kd = 1 ∨ kd = 2) (hi : (i : Int) < nb D F kd) (hkd' : kd' = 1 ∨ kd' = 2) (hi' : (i' : Int) < nb D F kd') (hne : kd ≠ kd' ∨ i ≠ i') {x : Nat} (hx : LP l (tb D kd + 8 * i) 1 (pBk key D F kd i nl) x) : ¬ LP l (tb D kd' + 8 * i') 1 (pBk key D F kd' i' nl) x := fun hy => by
 rcases H.bk_LP hkd hi hx with ⟨e1, h1⟩ | ⟨r, hr, ⟨rk, rb⟩, rw_, e1⟩
 · rcases H.bk_LP hkd' hi' hy with ⟨e2, h2⟩ | ⟨q, hq, -, -, e2⟩
   · have := tb_apart (F := F) H.hD hkd hkd' hi hi' hne
     omega
   · exact H.gb.above hq h1 e2
 · rcases H.bk_LP hkd' hi' hy with ⟨e2, h2⟩ | ⟨q, hq, ⟨qk, qb⟩, qw, e2⟩
   · exact H.gb.above hr h2 e1
   · have e3 := (H.gb.word_inj hr hq rw_ qw (e1.symm.trans e2)).1
     subst e3
     have e4 : kd = kd' := rk.symm.trans qk
     subst e4
     rcases hne with h | h
     · exact h rfl
     · exact h (by rw [rb] at qb; omega)
theorem DB.bk_fd (H : DB fld key D F nl ex b l) {kd i : Nat} (hkd : kd = 1 ∨ kd = 2) (hi : (i : Int) < nb D F kd) {f : GO} {e : Nat} (hf : f ∈ l) (hk : f.k = 2) {x : Nat} (hx : LP l (tb D kd + 8 * i) 1 (pBk key D F kd i nl) x) : ¬ LP l (f.at_ + 32) 2 (pFld fld f.raw e) x := fun hy => by
 obtain ⟨q, hq, -, qw, e2⟩ := H.fd_LP hf hk hy
 rcases H.bk_LP hkd hi hx with ⟨e1, h1⟩ | ⟨r, hr, -, rw_, e1⟩
 · exact H.gb.above hq h1 e2
 · have := (H.gb.word_inj hr hq rw_ qw (e1.symm.trans e2)).2; omega
theorem DB.bk_ar (H : DB fld key D F nl ex b l) {kd i : Nat} (hkd : kd = 1 ∨ kd = 2) (hi : (i : Int) < nb D F kd) {p : Nat} (hp : ArRoot l p) {x : Nat} (hx : LP l (tb D kd + 8 * i) 1 (pBk key D F kd i nl) x) : ¬ LP l p 0 (pArr p nl) x := fun hy => by
 have h0 := newK_low D F H.hD H.hF
 have ht := tb_low H.hD H.hF hi
 rcases H.bk_LP hkd hi hx with ⟨e1, h1⟩ | ⟨r, hr, -, rw_, e1⟩
 · rcases H.ar_LP hp hy with ⟨e2, -⟩ | ⟨d, hd, -, -, e2, -⟩ | ⟨q, hq, -, -, e2⟩
   · omega
   · exact H.gb.above hd h1 e2
   · exact H.gb.above hq h1 e2
 · rcases H.ar_LP hp hy with ⟨e2, -⟩ | ⟨d, hd, -, -, e2, qw⟩ | ⟨q, hq, -, qw, e2⟩
   · exact H.gb.above hr (by omega) e1
   · have := (H.gb.word_inj hr hd rw_ qw (e1.symm.trans e2)).2; omega
   · have := (H.gb.word_inj hr hq rw_ qw (e1.symm.trans e2)).2; omega
theorem DB.fd_fd (H : DB fld key D F nl ex b l) {f f' : GO} {e e' : Nat} (hf : f ∈ l) (hk : f.k = 2) (hf' : f' ∈ l) (hk' : f'.k = 2) (hne : f ≠ f') {x : Nat} (hx : LP l (f.at_ + 32) 2 (pFld fld f.raw e) x) : ¬ LP l (f'.at_ + 32) 2 (pFld fld f'.raw e') x := fun hy => by
 obtain ⟨r, hr, h1, rw_, e1⟩ := H.fd_LP hf hk hx
 obtain ⟨q, hq, h2, qw, e2⟩ := H.fd_LP hf' hk' hy
 have e3 := (H.gb.word_inj hr hq rw_ qw (e1.symm.trans e2)).1
 subst e3
 have hraw : f.raw ≠ f'.raw := fun e4 => hne (H.uniq f hf f' hf' (hk.trans hk'.symm) (.inr hk) e4)
 rcases h1 with ⟨k1, r1⟩ | rfl
 · rcases h2 with ⟨k2, r2⟩ | rfl
   · exact hraw (r1.symm.trans r2)
   · omega
 · rcases h2 with ⟨k2, r2⟩ | rfl
   · omega
   · exact hne rfl
theorem DB.fd_ar (H : DB fld key D F nl ex b l) {f : GO} {e : Nat} (hf : f ∈ l) (hk : f.k = 2) {p : Nat} (hp : ArRoot l p) {x : Nat} (hx : LP l (f.at_ + 32) 2 (pFld fld f.raw e) x) : ¬ LP l p 0 (pArr p nl) x := fun hy => by
 have h0 := newK_low D F H.hD H.hF
 obtain ⟨r, hr, h1, rw_, e1⟩ := H.fd_LP hf hk hx
 rcases H.ar_LP hp hy with ⟨e2, -⟩ | ⟨d, hd, -, -, e2, qw⟩ | ⟨q, hq, -, qw, e2⟩
 · exact H.gb.above hr (by omega) e1
 · have := (H.gb.word_inj hr hd rw_ qw (e1.symm.trans e2)).2; omega
 · have := (H.gb.word_inj hr hq rw_ qw (e1.symm.trans e2)).2; omega
theorem DB.ar_ar (H : DB fld key D F nl ex b l) {p p' : Nat} (hp : ArRoot l p) (hp' : ArRoot l p') (hne : p ≠ p') {x : Nat} (hx : LP l p 0 (pArr p nl) x) : ¬ LP l p' 0 (pArr p' nl) x := fun hy => by
 have h0 := newK_low D F H.hD H.hF
 rcases H.ar_LP hp hx with ⟨e1, g1⟩ | ⟨d, hd, -, g1, e1, rw_⟩ | ⟨r, hr, ⟨rk, rt⟩, rw_, e1⟩
 · rcases H.ar_LP hp' hy with ⟨e2, g2⟩ | ⟨d', hd', -, g2, e2, qw⟩ | ⟨q, hq, -, qw, e2⟩
   · omega
   · exact H.gb.above hd' (by omega) e2
   · exact H.gb.above hq (by omega) e2
 · rcases H.ar_LP hp' hy with ⟨e2, g2⟩ | ⟨d', hd', -, g2, e2, qw⟩ | ⟨q, hq, -, qw, e2⟩
   · exact H.gb.above hd (by omega) e1
   · omega
   · have := (H.gb.word_inj hd hq rw_ qw (e1.symm.trans e2)).2; omega
 · rcases H.ar_LP hp' hy with ⟨e2, g2⟩ | ⟨d', hd', -, g2, e2, qw⟩ | ⟨q, hq, ⟨qk, qt⟩, qw, e2⟩
   · exact H.gb.above hr (by omega) e1
   · have := (H.gb.word_inj hr hd' rw_ qw (e1.symm.trans e2)).2; omega
   · have e3 := (H.gb.word_inj hr hq rw_ qw (e1.symm.trans e2)).1
     subst e3; omega
theorem ArRoot.add {p : Nat} (h : ArRoot l p) (n : GO) : ArRoot (l ++ [n]) p := by
 rcases h with h | ⟨d, hd, hk, h⟩
 · exact .inl h
 · exact .inr ⟨d, List.mem_append_left _ hd, hk, h⟩
theorem ArRoot.of_add {p : Nat} {n : GO} (h : ArRoot (l ++ [n]) p) : ArRoot l p ∨ (n.k = 1 /\ p = n.at_ + 48) := by
 rcases h with h | ⟨d, hd, hk, h⟩
 · exact .inl (.inl h)
 · rcases List.mem_append.1 hd with h2 | h2
   · exact .inl (.inr ⟨d, h2, hk, h⟩)
   · rw [List.mem_singleton.1 h2] at hk h; exact .inr ⟨hk, h⟩
theorem ArRoot.of_map {p : Nat} {f : GO -> GO} (hf : ∀ r, (f r).k = r.k /\ (f r).at_ = r.at_) (h : ArRoot (l.map f) p) : ArRoot l p := by
 rcases h with h | ⟨d', hd', hk, h⟩
 · exact .inl h
 · obtain ⟨d, hd, rfl⟩ := List.mem_map.1 hd'
   rw [(hf d).1] at hk
   rw [(hf d).2] at h
   exact .inr ⟨d, hd, hk, h⟩
end
section
variable {fld : List Int -> List Int} {key D F : Int} {nl ex ex' : Nat} {b : List Int} {l : List GO}
theorem bne_t {a b : Nat} (h : a ≠ b) : (a != b) = true := by simpa using h
theorem DB.mapped (H : DB fld key D F nl ex b l) {q : Nat} {v : Int} (hq : RootG (newK D F) l q) (hv : IsU v)
   (bks : ∀ kd, (kd = 1 ∨ kd = 2) -> ∀ i : Nat, (i : Int) < nb D F kd -> Ch (splice b q (bts v 8)) (l.map (stP q v)) (tb D kd + 8 * i) 1 (pBk key D F kd i 0))
   (flds : ∀ f ∈ l, f.k = 2 -> Ch (splice b q (bts v 8)) (l.map (stP q v)) (f.at_ + 32) 2 (pFld fld f.raw ex'))
   (arrs : ∀ p, ArRoot l p -> Ch (splice b q (bts v 8)) (l.map (stP q v)) p 0 (pArr p 0))
   (hsum : ∀ r ∈ l, r.k = 1 ∨ r.k = 2 -> q ≠ r.at_ + (16 + 8 * 0))
   (own : ∀ r ∈ l, r.k = 1 -> r.at_ ≠ ex' -> ∃ f ∈ l, f.k = 2 /\ f.raw = fld r.raw)
   (exl : ex' = 0 ∨ (ex' = ex /\ ∀ d ∈ l, d.k = 1 -> q ≠ d.at_ + (16 + 8 * 2))) :
   DB fld key D F 0 ex' (splice b q (bts v 8)) (l.map (stP q v)) where
 hD := H.hD
 hF := H.hF
 gb := H.gb.setP hq hv
 bks := bks
 sum := fun r' hr' hk => by
   obtain ⟨r, hr, rfl⟩ := List.mem_map.1 hr'
   rw [stP_k] at hk
   rw [H.gb.setP_far hq hr (hsum r hr hk), stP_raw]
   exact H.sum r hr hk
 uniq := fun r' hr' q' hq' hk h12 hraw => by
   obtain ⟨r, hr, rfl⟩ := List.mem_map.1 hr'
   obtain ⟨t, ht, rfl⟩ := List.mem_map.1 hq'
   rw [stP_k] at hk h12
   rw [stP_k] at hk
   rw [stP_raw, stP_raw] at hraw
   rw [H.uniq r hr t ht hk h12 hraw]
 flds := fun f' hf' hk => by
   obtain ⟨f, hf, rfl⟩ := List.mem_map.1 hf'
   rw [stP_k] at hk
   rw [stP_at, stP_raw]
   exact flds f hf hk
 own := fun r' hr' hk hne => by
   obtain ⟨r, hr, rfl⟩ := List.mem_map.1 hr'
   rw [stP_k] at hk
   rw [stP_at] at hne
   obtain ⟨f, hf, f1, f2⟩ := own r hr hk hne
   exact ⟨stP q v f, List.mem_map.2 ⟨f, hf, rfl⟩, by rw [stP_k]; exact f1, by rw [stP_raw, stP_raw]; exact f2⟩
 arrs := fun p hp => arrs p (hp.of_map fun r => ⟨stP_k _ _ _, stP_at _ _ _⟩)
 ats := fun r' hr' hk => by
   obtain ⟨r, hr, rfl⟩ := List.mem_map.1 hr'
   rw [stP_k] at hk
   rw [stP_t, splice_len _ _ _ (by rw [bts8_length]; exact (H.gb.root_fit hq).1)]
   exact H.ats r hr hk
 exl := by
   rcases exl with e | ⟨e, hne⟩
   · exact .inl e
   · rcases H.exl with e2 | ⟨l1, d, l2, e1, e2, e3, e4, e5⟩
     · exact .inl (e.trans e2)
     · have hd : d ∈ l := by rw [e1]; simp
       refine .inr ⟨l1.map (stP q v), stP q v d, l2.map (stP q v), by rw [e1]; simp, by rw [stP_at, e2, e], by rw [stP_k]; exact e3, ?_, ?_⟩
       · rw [H.gb.setP_far hq hd (hne d hd e3)]; exact e4
       · intro r' hr'
         obtain ⟨r, hr, rfl⟩ := List.mem_map.1 hr'
         rw [stP_k]; exact e5 r hr
 nll := .inl rfl
theorem DB.at_pos (H : DB fld key D F nl ex b l) {r : GO} (hr : r ∈ l) : 0 < r.at_ /\ r.at_ < b.length := by
 have h1 := newK_low D F H.hD H.hF
 have h2 := H.gb.fine r hr
 have h3 := h2.1.front
 exact ⟨by omega, by omega⟩
theorem DB.add (H : DB fld key D F 0 ex b l) {n : GO} (hn : n.Fine) (hat : n.at_ = b.length) (hm : b.length + n.len <= 1099511627776)
 (h12 : n.k = 1 ∨ n.k = 2 -> n.ws.getD 0 0 = hsh key n.raw /\ n.ws.getD 1 0 = 0 /\ n.ws.getD 2 0 = 0 /\ ∀ r ∈ l, r.k = n.k -> r.raw ≠ n.raw)
 (h1 : n.k = 1 -> ex = 0 /\ ex' = n.at_ /\ n.ws.getD 4 0 = 0) (h2 : n.k ≠ 1 -> ex' = ex) (h4 : n.k = 4 -> n.t + 8 <= b.length /\ n.ws.getD 0 0 = 0) :
 DB fld key D F n.at_ ex' (b ++ n.bs) (l ++ [n]) := by
 have G := H.gb.add hn hat hm
 have hpos := fun r hr => H.at_pos (r := r) hr
 have hne : ∀ r ∈ l, r.at_ ≠ n.at_ /\ r.at_ ≠ 0 := fun r hr => by have := hpos r hr; exact ⟨by omega, by omega⟩
 have hxe : ∀ r ∈ l, (r.at_ ≠ ex' ↔ r.at_ ≠ ex) := fun r hr => by
   by_cases e : n.k = 1
   · obtain ⟨e1, e2, -⟩ := h1 e
     rw [e1, e2]
     exact ⟨fun _ => (hne r hr).2, fun _ => (hne r hr).1⟩
   · rw [h2 e]
 refine ⟨H.hD, H.hF, G, ?_, ?_, ?_, ?_, ?_, ?_, ?_, ?_, ?_⟩
 · intro kd hkd i hi
   refine ((H.bks kd hkd i hi).congr fun r hr => ?_).add H.gb (bk_root H.hD H.hF hi l) _ ?_
   · have := hne r hr
     unfold pBk
     rw [bne_t this.1, bne_t this.2]
   · simp [pBk]
 · intro r hr hk'
   rcases List.mem_append.1 hr with h | h
   · exact H.sum r h hk'
   · rw [List.mem_singleton.1 h] at hk' ⊢; exact (h12 hk').1
 · intro r hr q hq hk' h12' hraw
   rcases List.mem_append.1 hr with h | h
   · rcases List.mem_append.1 hq with h' | h'
     · exact H.uniq r h q h' hk' h12' hraw
     · rw [List.mem_singleton.1 h'] at hk' hraw
       exact absurd hraw ((h12 (hk' ▸ h12')).2.2.2 r h hk')
   · rw [List.mem_singleton.1 h] at hk' hraw h12'
     rcases List.mem_append.1 hq with h' | h'
     · exact absurd hraw.symm ((h12 h12').2.2.2 q h' hk'.symm)
     · rw [List.mem_singleton.1 h, List.mem_singleton.1 h']
 · intro f hf hk'
   rcases List.mem_append.1 hf with h | h
   · refine ((H.flds f h hk').congr fun r hr => ?_).add H.gb (H.fd_root h hk') _ ?_
     · have := hxe r hr
       by_cases e : r.at_ = ex'
       · have e2 : r.at_ = ex := Decidable.byContradiction fun e2 => (this.2 e2) e
         unfold pFld
         rw [show (r.at_ != ex) = (r.at_ != ex') by rw [<- e2, <- e]]
       · have e2 := this.1 e
         unfold pFld
         rw [bne_t e, bne_t e2]
     · by_cases e : n.k = 1
       · simp [pFld, (h1 e).2.1]
       · simp [pFld, e]
   · have e := List.mem_singleton.1 h
     subst e
     obtain ⟨-, -, hz, hnew⟩ := h12 (.inr hk')
     refine Ch.none ?_ ?_
     · have := G.word (q := f) (i := 2) (by simp) (by have := hn.kk.2.2.1 hk'; omega)
       rw [show f.at_ + (16 + 8 * 2) = f.at_ + 32 by omega] at this
       rw [this, hz]
     · intro r hr
       rcases List.mem_append.1 hr with h3 | h3
       · cases hp : pFld fld f.raw ex' r with
         | false => rfl
         | true =>
           obtain ⟨⟨p1, p2⟩, p3⟩ := pFld_iff.1 hp
           obtain ⟨g, g1, g2, g3⟩ := H.own r h3 p1 ((hxe r h3).1 p3)
           exact absurd (g3.trans p2) (hnew g g1 (g2.trans hk'.symm))
       · rw [List.mem_singleton.1 h3]; simp [pFld, hk']
 · intro r hr hk' hne'
   rcases List.mem_append.1 hr with h | h
   · obtain ⟨f, f1, f2, f3⟩ := H.own r h hk' ((hxe r h).1 hne')
     exact ⟨f, List.mem_append_left _ f1, f2, f3⟩
   · rw [List.mem_singleton.1 h] at hk' hne'
     exact absurd (h1 hk').2.1.symm hne'
 · intro p hp
   rcases hp.of_add with h | ⟨hk', h⟩
   · refine ((H.arrs p h).congr fun r hr => ?_).add H.gb (H.ar_root h) _ ?_
     · have := hne r hr
       unfold pArr
       rw [bne_t this.1, bne_t this.2]
     · simp [pArr]
   · subst h
     obtain ⟨-, -, hz⟩ := h1 hk'
     refine Ch.none ?_ ?_
     · have := G.word (q := n) (i := 4) (by simp) (by have := hn.kk.2.1 hk'; omega)
       rw [show n.at_ + (16 + 8 * 4) = n.at_ + 48 by omega] at this
       rw [this, hz]
     · intro r hr
       rcases List.mem_append.1 hr with h3 | h3
       · cases hp : pArr (n.at_ + 48) n.at_ r with
         | false => rfl
         | true =>
           obtain ⟨⟨p1, p2⟩, p3⟩ := pArr_iff.1 hp
           have := H.ats r h3 p1
           omega
       · rw [List.mem_singleton.1 h3]; simp [pArr]
 · intro r hr hk'
   rw [List.length_append]
   rcases List.mem_append.1 hr with h | h
   · have := H.ats r h hk'; omega
   · rw [List.mem_singleton.1 h] at hk' ⊢
     have := (h4 hk').1; omega
 · by_cases e : n.k = 1
   · obtain ⟨e1, e2, -⟩ := h1 e
     exact .inr ⟨l, n, [], by simp, e2.symm, e, (h12 (.inl e)).2.2.1, by simp⟩
   · rw [h2 e]
     rcases H.exl with h | ⟨l1, d, l2, e1, e2, e3, e4, e5⟩
     · exact .inl h
     · refine .inr ⟨l1, d, l2 ++ [n], by rw [e1]; simp, e2, e3, e4, fun r hr => ?_⟩
       rcases List.mem_append.1 hr with h | h
       · exact e5 r h
       · rw [List.mem_singleton.1 h]; exact e
 · exact .inr ⟨l, n, rfl, rfl, fun h => (h12 h).2.1, fun h => (h4 h).2⟩
theorem DB.last (H : DB fld key D F nl ex b l) {n : GO} (hn : n ∈ l) (hat : n.at_ = nl) : (∃ l1, l = l1 ++ [n] /\ ∀ r ∈ l1, r.at_ ≠ nl /\ r.at_ ≠ 0) /\ (n.k = 1 ∨ n.k = 2 -> n.ws.getD 1 0 = 0) /\ (n.k = 4 -> n.ws.getD 0 0 = 0) := by
 have hp := H.at_pos hn
 rcases H.nll with h | ⟨l1, m, e1, e2, e3, e4⟩
 · omega
 · have hm : m ∈ l := by rw [e1]; simp
   have e5 := H.gb.one hm hn (e2.trans hat.symm)
   subst e5
   refine ⟨⟨l1, e1, fun r hr => ?_⟩, e3, e4⟩
   have hrl : r ∈ l := by rw [e1]; simp [hr]
   have h1 := H.gb.rise
   rw [e1] at h1
   have h2 := (List.pairwise_append.1 h1).2.2 r hr m (by simp)
   have h3 := (H.gb.fine r hrl).1.front
   have h4 := H.at_pos hrl
   exact ⟨by omega, by omega⟩
theorem DB.free (H : DB fld key D F nl ex b l) {n : GO} (hn : n ∈ l) (hat : n.at_ = nl) (h12 : n.k ≠ 1 /\ n.k ≠ 2) (h4 : n.k ≠ 4) : DB fld key D F 0 ex b l := by
 have hsame : ∀ r ∈ l, r ≠ n -> r.at_ ≠ nl /\ r.at_ ≠ 0 := fun r hr hne => ⟨fun e => hne (H.gb.one hr hn (e.trans hat.symm)), by have := (H.at_pos hr).1; omega⟩
 refine { H with bks := fun kd hkd i hi => (H.bks kd hkd i hi).congr fun r hr => ?_, arrs := fun p hp => (H.arrs p hp).congr fun r hr => ?_, nll := .inl rfl }
 · by_cases e : r = n
   · subst e
     have e9 : (r.k == kd) = false := by
       have : r.k ≠ kd := by
         rcases hkd with rfl | rfl
         · exact h12.1
         · exact h12.2
       simpa using this
     unfold pBk
     rw [e9]; rfl
   · have := hsame r hr e
     unfold pBk
     rw [bne_t this.1, bne_t this.2]
 · by_cases e : r = n
   · subst e
     have e9 : (r.k == 4) = false := by simpa using h4
     unfold pArr
     rw [e9]; rfl
   · have := hsame r hr e
     unfold pArr
     rw [bne_t this.1, bne_t this.2]
theorem DB.link_bk (H : DB fld key D F nl ex b l) {n : GO} (hn : n ∈ l) (hat : n.at_ = nl) (hk : n.k = 1 ∨ n.k = 2) {i : Nat} (hi : bucket (hsh key n.raw) (nb D F n.k) = (i : Int)) (hlt : (i : Int) < nb D F n.k) {x : Nat}
 (hx : x = lkG (tb D n.k + 8 * i) 1 (l.filter (pBk key D F n.k i nl))) : DB fld key D F 0 ex (splice b x (bts (nl : Nat) 8)) (l.map (stP x (nl : Nat))) := by
 obtain ⟨⟨l1, e1, hl1⟩, hz, -⟩ := H.last hn hat
 have h0 := newK_low D F H.hD H.hF
 have hkw := (H.gb.fine n hn).1.kk
 have hxl : LP l (tb D n.k + 8 * i) 1 (pBk key D F n.k i nl) x := by rw [hx]; exact lkG_LP _ _ _
 have hxr : RootG (newK D F) l x := by rw [hx]; exact ((H.bks n.k hk i hlt).link_at H.gb (bk_root H.hD H.hF hlt l) (H.bk_w hk)).1
 have hv : IsU (nl : Nat) := by have := H.at_pos hn; have := H.gb.most; exact ⟨by omega, by omega⟩
 have hsame : ∀ r ∈ l, r ≠ n -> r.at_ ≠ nl /\ r.at_ ≠ 0 := fun r hr hne => by
   rw [e1] at hr
   rcases List.mem_append.1 hr with h | h
   · exact hl1 r h
   · exact absurd (List.mem_singleton.1 h) hne
 refine H.mapped hxr hv ?_ ?_ ?_ ?_ H.own (.inr ⟨rfl, ?_⟩)
 · intro kd hkd j hj
   by_cases e : n.k = kd /\ i = j
   · obtain ⟨rfl, rfl⟩ := e
     rw [hx, <- hat]
     rw [<- hat] at hx
     refine Ch.link h0.2 H.gb (pBk_still _ _ _ _ _ _) (pBk_still _ _ _ _ _ _) (hat ▸ H.bks n.k hk i hlt) (bk_root H.hD H.hF hlt l) (hat ▸ H.bk_w hk) hn ?_ (hz hk) ?_
     · rw [e1, List.filter_append, List.filter_append]
       have e2 : [n].filter (pBk key D F n.k i 0) = [n] := by
         have := (H.at_pos hn).1
         simp [pBk, hi]; omega
       have e3 : [n].filter (pBk key D F n.k i n.at_) = [] := by simp [pBk]
       rw [e2, e3, List.append_nil]
       congr 1
       refine List.filter_congr fun r hr => ?_
       have := hl1 r hr
       unfold pBk
       rw [hat, bne_t this.1, bne_t this.2]
     · intro e4
       exact H.gb.above hn (tb_low H.hD H.hF hlt).1 e4
   · have hne : n.k ≠ kd ∨ i ≠ j := (Decidable.em (n.k = kd)).elim (fun h => .inr fun h' => e ⟨h, h'⟩) .inl
     refine ((H.bks kd hkd j hj).setLP H.gb (pBk_still _ _ _ _ _ _) (bk_root H.hD H.hF hj l) hxr (H.bk_bk hk hlt hkd hj hne hxl)).congr fun r' hr' => ?_
     obtain ⟨r, hr, rfl⟩ := List.mem_map.1 hr'
     rw [pBk_still, pBk_still]
     by_cases e2 : r = n
     · subst e2
       have : ¬ (r.k = kd /\ bucket (hsh key r.raw) (nb D F kd) = (j : Int)) := by
         rintro ⟨a1, a2⟩
         subst a1
         rw [hi] at a2
         rcases hne with h | h
         · exact h rfl
         · exact h (by omega)
       have e5 : (r.k == kd && bucket (hsh key r.raw) (nb D F kd) == (j : Int)) = false := by
         rw [Bool.eq_false_iff]; intro h; exact this (by simpa using h)
       unfold pBk
       rw [e5]; rfl
     · have := hsame r hr e2
       unfold pBk
       rw [bne_t this.1, bne_t this.2]
 · intro f hf hk'
   exact (H.flds f hf hk').setLP H.gb (pFld_still _ _ _) (H.fd_root hf hk') hxr (H.bk_fd hk hlt hf hk' hxl)
 · intro p hp
   refine ((H.arrs p hp).setLP H.gb (pArr_still _ _) (H.ar_root hp) hxr (H.bk_ar hk hlt hp hxl)).congr fun r' hr' => ?_
   obtain ⟨r, hr, rfl⟩ := List.mem_map.1 hr'
   rw [pArr_still, pArr_still]
   by_cases e2 : r = n
   · subst e2
     have e9 : (r.k == 4) = false := by simpa using (show r.k ≠ 4 by omega)
     unfold pArr
     rw [e9]; rfl
   · have := hsame r hr e2
     unfold pArr
     rw [bne_t this.1, bne_t this.2]
 · intro r hr _ e
   rcases H.bk_LP hk hlt hxl with ⟨-, h1⟩ | ⟨q, hq, -, qw, e2⟩
   · exact H.gb.above hr h1 e
   · have := (H.gb.word_inj hq hr qw (by have := (H.gb.fine r hr).1.kk; omega) (e2.symm.trans e)).2; omega
 · intro r hr hr1 e
   rcases H.bk_LP hk hlt hxl with ⟨-, h1⟩ | ⟨q, hq, -, qw, e2⟩
   · exact H.gb.above hr h1 e
   · have := (H.gb.word_inj hq hr qw (by have := (H.gb.fine r hr).1.kk.2.1 hr1; omega) (e2.symm.trans e)).2; omega
theorem DB.link_ar (H : DB fld key D F nl ex b l) {n : GO} {p : Nat} (hn : n ∈ l) (hat : n.at_ = nl) (hk : n.k = 4) (hp : ArRoot l p) (ht : n.t = p) {x : Nat}
 (hx : x = lkG p 0 (l.filter (pArr p nl))) : DB fld key D F 0 ex (splice b x (bts (nl : Nat) 8)) (l.map (stP x (nl : Nat))) := by
 obtain ⟨⟨l1, e1, hl1⟩, -, hz⟩ := H.last hn hat
 have h0 := newK_low D F H.hD H.hF
 have hkw := (H.gb.fine n hn).1.kk
 have hxl : LP l p 0 (pArr p nl) x := by rw [hx]; exact lkG_LP _ _ _
 have hxr : RootG (newK D F) l x := by rw [hx]; exact ((H.arrs p hp).link_at H.gb (H.ar_root hp) H.ar_w).1
 have hv : IsU (nl : Nat) := by have := H.at_pos hn; have := H.gb.most; exact ⟨by omega, by omega⟩
 have hsame : ∀ r ∈ l, r ≠ n -> r.at_ ≠ nl /\ r.at_ ≠ 0 := fun r hr hne => by
   rw [e1] at hr
   rcases List.mem_append.1 hr with h | h
   · exact hl1 r h
   · exact absurd (List.mem_singleton.1 h) hne
 refine H.mapped hxr hv ?_ ?_ ?_ ?_ H.own (.inr ⟨rfl, ?_⟩)
 · intro kd hkd j hj
   refine ((H.bks kd hkd j hj).setLP H.gb (pBk_still _ _ _ _ _ _) (bk_root H.hD H.hF hj l) hxr (fun h => H.bk_ar hkd hj hp h hxl)).congr fun r' hr' => ?_
   obtain ⟨r, hr, rfl⟩ := List.mem_map.1 hr'
   rw [pBk_still, pBk_still]
   by_cases e2 : r = n
   · subst e2
     have e9 : (r.k == kd) = false := by simpa using (show r.k ≠ kd by omega)
     unfold pBk
     rw [e9]; rfl
   · have := hsame r hr e2
     unfold pBk
     rw [bne_t this.1, bne_t this.2]
 · intro f hf hk'
   exact (H.flds f hf hk').setLP H.gb (pFld_still _ _ _) (H.fd_root hf hk') hxr (fun h => H.fd_ar hf hk' hp h hxl)
 · intro g hg
   by_cases e : g = p
   · subst e
     rw [hx, <- hat]
     rw [<- hat] at hx
     refine Ch.link h0.2 H.gb (pArr_still _ _) (pArr_still _ _) (hat ▸ H.arrs g hg) (H.ar_root hg) (hat ▸ H.ar_w) hn ?_ (hz hk) ?_
     · rw [e1, List.filter_append, List.filter_append]
       have e2 : [n].filter (pArr g 0) = [n] := by
         have := (H.at_pos hn).1
         simp [pArr, hk, ht]; omega
       have e3 : [n].filter (pArr g n.at_) = [] := by simp [pArr]
       rw [e2, e3, List.append_nil]
       congr 1
       refine List.filter_congr fun r hr => ?_
       have := hl1 r hr
       unfold pArr
       rw [hat, bne_t this.1, bne_t this.2]
     · intro e4
       rcases hg with h5 | ⟨d, hd, hdk, h5⟩
       · exact H.gb.above hn (by omega) e4
       · have := (H.gb.word_inj hd hn (i := 4) (j := 0) (by have := (H.gb.fine d hd).1.kk.2.1 hdk; omega) (by omega) (by omega)).2
         omega
   · refine ((H.arrs g hg).setLP H.gb (pArr_still _ _) (H.ar_root hg) hxr (H.ar_ar hp hg (fun h => e h.symm) hxl)).congr fun r' hr' => ?_
     obtain ⟨r, hr, rfl⟩ := List.mem_map.1 hr'
     rw [pArr_still, pArr_still]
     by_cases e2 : r = n
     · subst e2
       have hne : r.t ≠ g := fun h => e (by omega)
       have e9 : (r.t == g) = false := by simpa using hne
       unfold pArr
       rw [e9, Bool.and_false]; rfl
     · have := hsame r hr e2
       unfold pArr
       rw [bne_t this.1, bne_t this.2]
 · intro r hr _ e
   rcases H.ar_LP hp hxl with ⟨e2, -⟩ | ⟨d, hd, -, -, e2, qw⟩ | ⟨q, hq, ⟨qk, -⟩, qw, e2⟩
   · exact H.gb.above hr (by omega) e
   · have := (H.gb.word_inj hd hr qw (by have := (H.gb.fine r hr).1.kk; omega) (e2.symm.trans e)).2; omega
   · have h3 := (H.gb.word_inj hq hr qw (by have := (H.gb.fine r hr).1.kk; omega) (e2.symm.trans e)).1
     subst h3; omega
 · intro r hr hr1 e
   rcases H.ar_LP hp hxl with ⟨e2, -⟩ | ⟨d, hd, -, -, e2, qw⟩ | ⟨q, hq, ⟨qk, -⟩, qw, e2⟩
   · exact H.gb.above hr (by omega) e
   · have := (H.gb.word_inj hd hr qw (by have := (H.gb.fine r hr).1.kk.2.1 hr1; omega) (e2.symm.trans e)).2; omega
   · have := (H.gb.word_inj hq hr qw (by have := (H.gb.fine r hr).1.kk.2.1 hr1; omega) (e2.symm.trans e)).2; omega
theorem DB.flink (H : DB fld key D F 0 ex b l) {d f : GO} (hd : d ∈ l) (hat : d.at_ = ex) (hf : f ∈ l) (hfk : f.k = 2) (hfr : f.raw = fld d.raw) {x : Nat}
 (hx : x = lkG (f.at_ + 32) 2 (l.filter (pFld fld f.raw ex))) : DB fld key D F 0 0 (splice b x (bts (ex : Nat) 8)) (l.map (stP x (ex : Nat))) := by
 have hdp := H.at_pos hd
 obtain ⟨l1, d', l2, e1, e2, e3, e4, e5⟩ : ∃ l1 d' l2, l = l1 ++ d' :: l2 /\ d'.at_ = ex /\ d'.k = 1 /\ d'.ws.getD 2 0 = 0 /\ ∀ r ∈ l2, r.k ≠ 1 := H.exl.resolve_left (by omega)
 have hd'l : d' ∈ l := by rw [e1]; simp
 have e6 := H.gb.one hd'l hd (e2.trans hat.symm)
 subst e6
 have h0 := newK_low D F H.hD H.hF
 have hxl : LP l (f.at_ + 32) 2 (pFld fld f.raw ex) x := by rw [hx]; exact lkG_LP _ _ _
 have hxr : RootG (newK D F) l x := by rw [hx]; exact ((H.flds f hf hfk).link_at H.gb (H.fd_root hf hfk) H.fd_w).1
 have hv : IsU (ex : Nat) := by have := H.gb.most; exact ⟨by omega, by omega⟩
 have hsame : ∀ r ∈ l, r ≠ d' -> r.at_ ≠ ex /\ r.at_ ≠ 0 := fun r hr hne => ⟨fun e => hne (H.gb.one hr hd (e.trans hat.symm)), by have := (H.at_pos hr).1; omega⟩
 refine H.mapped hxr hv ?_ ?_ ?_ ?_ ?_ (.inl rfl)
 · intro kd hkd j hj
   exact (H.bks kd hkd j hj).setLP H.gb (pBk_still _ _ _ _ _ _) (bk_root H.hD H.hF hj l) hxr (fun h => H.bk_fd hkd hj hf hfk h hxl)
 · intro g hg hgk
   by_cases e : g = f
   · subst e
     rw [hx, <- hat]
     rw [<- hat] at hx
     refine Ch.link h0.2 H.gb (pFld_still _ _ _) (pFld_still _ _ _) (hat ▸ H.flds g hg hgk) (H.fd_root hg hgk) H.fd_w hd ?_ e4 ?_
     · have hone : ∀ r ∈ l1, r ≠ d' := fun r hr h => by
         have h1 := H.gb.rise
         rw [e1] at h1
         have h2 := (List.pairwise_append.1 h1).2.2 r hr d' (by simp)
         have h3 := (H.gb.fine d' hd).1.front
         rw [h] at h2; omega
       have e7 : l1.filter (pFld fld g.raw 0) = l1.filter (pFld fld g.raw d'.at_) := List.filter_congr fun r hr => by
         have := hsame r (by rw [e1]; simp [hr]) (hone r hr)
         unfold pFld
         rw [hat, bne_t this.1, bne_t this.2]
       have e8 : ∀ z, l2.filter (pFld fld g.raw z) = [] := fun z => List.filter_eq_nil_iff.2 fun r hr h => e5 r hr (pFld_iff.1 h).1.1
       have e9 : pFld fld g.raw 0 d' = true := pFld_iff.2 ⟨⟨e3, hfr.symm⟩, by omega⟩
       have e10 : ¬ pFld fld g.raw d'.at_ d' = true := fun h => (pFld_iff.1 h).2 rfl
       rw [e1, List.filter_append, List.filter_append, List.filter_cons_of_pos e9, List.filter_cons_of_neg e10, e8, e8, e7, List.append_nil]
     · intro e4'
       have := (H.gb.word_inj hg hd (i := 2) (j := 2) (by have := (H.gb.fine g hg).1.kk.2.2.1 hgk; omega) (by have := (H.gb.fine d' hd).1.kk.2.1 e3; omega) (by omega)).1
       subst this; omega
   · refine ((H.flds g hg hgk).setLP H.gb (pFld_still _ _ _) (H.fd_root hg hgk) hxr (H.fd_fd hf hfk hg hgk (fun h => e h.symm) hxl)).congr fun r' hr' => ?_
     obtain ⟨r, hr, rfl⟩ := List.mem_map.1 hr'
     rw [pFld_still, pFld_still]
     by_cases e7 : r = d'
     · subst e7
       have hne : fld r.raw ≠ g.raw := fun h => e (H.uniq g hg f hf (hgk.trans hfk.symm) (.inr hgk) (h.symm.trans hfr.symm))
       have e9 : (fld r.raw == g.raw) = false := by simpa using hne
       unfold pFld
       rw [e9, Bool.and_false]; rfl
     · have := hsame r hr e7
       unfold pFld
       rw [bne_t this.1, bne_t this.2]
 · intro g hg
   exact (H.arrs g hg).setLP H.gb (pArr_still _ _) (H.ar_root hg) hxr (H.fd_ar hf hfk hg hxl)
 · intro r hr _ e
   obtain ⟨q, hq, -, qw, e7⟩ := H.fd_LP hf hfk hxl
   have := (H.gb.word_inj hq hr qw (by have := (H.gb.fine r hr).1.kk; omega) (e7.symm.trans e)).2; omega
 · intro r hr hk' _
   by_cases e7 : r = d'
   · rw [e7]; exact ⟨f, hf, hfk, hfr⟩
   · exact H.own r hr hk' (hsame r hr e7).1
theorem DB.first (H : DB fld key D F 0 ex b l) {d : GO} (hd : d ∈ l) (hdk : d.k = 1) {v : Int} (hv : IsU v) : DB fld key D F 0 ex (splice b (d.at_ + 40) (bts v 8)) (l.map (stP (d.at_ + 40) v)) := by
  have hw : 3 < d.ws.length := by have := (H.gb.fine d hd).1.kk.2.1 hdk; omega
  have hxr : RootG (newK D F) l (d.at_ + 40) := .inr ⟨d, hd, 3, hw, rfl⟩
  have hno : ∀ r ∈ l, ∀ i, i < r.ws.length -> i ≠ 3 -> d.at_ + 40 ≠ r.at_ + (16 + 8 * i) := fun r hr i hi hne e => hne (H.gb.word_inj hd hr hw hi e).2.symm
  refine H.mapped hxr hv ?_ ?_ ?_ ?_ H.own (.inr ⟨rfl, ?_⟩)
  · intro kd hkd j hj
    refine (H.bks kd hkd j hj).setLP H.gb (pBk_still _ _ _ _ _ _) (bk_root H.hD H.hF hj l) hxr (fun h => ?_)
    rcases H.bk_LP hkd hj h with ⟨-, h1⟩ | ⟨q, hq, -, qw, e2⟩
    · exact H.gb.above hd (i := 3) h1 rfl
    · exact hno q hq 1 qw (by omega) e2
  · intro f hf hk'
    refine (H.flds f hf hk').setLP H.gb (pFld_still _ _ _) (H.fd_root hf hk') hxr (fun h => ?_)
    obtain ⟨q, hq, -, qw, e2⟩ := H.fd_LP hf hk' h
    exact hno q hq 2 qw (by omega) e2
  · intro g hg
    refine (H.arrs g hg).setLP H.gb (pArr_still _ _) (H.ar_root hg) hxr (fun h => ?_)
    rcases H.ar_LP hg h with ⟨e2, -⟩ | ⟨d', hd', -, -, e2, qw⟩ | ⟨q, hq, -, qw, e2⟩
    · have := newK_low D F H.hD H.hF; exact H.gb.above hd (i := 3) (x := d.at_ + 40) (by omega) rfl
    · exact hno d' hd' 4 qw (by omega) e2
    · exact hno q hq 0 qw (by omega) e2
  · intro r hr _
    exact hno r hr 0 (by have := (H.gb.fine r hr).1.kk; omega) (by omega)
  · intro r hr hr1
    exact hno r hr 2 (by have := (H.gb.fine r hr).1.kk.2.1 hr1; omega) (by omega)
end
section
variable {fld : List Int -> List Int} {key D F : Int} {nl ex ex' : Nat} {b : List Int} {l : List GO}
theorem GO.Fine.arr {r : GO} (h : r.Fine) (hk : r.k = 4) : r.raw = [] /\ 1 <= r.its.length /\ r.its.length <= 1024 /\ r.ws.length = 1 := by
 have h1 := h.right
 have h2 := h.kk.2.2.2 hk
 have hi : hasI (r.k : Int) = true := by rw [hk]; rfl
 have hm : mostN (r.k : Int) = 1024 := by rw [hk]; rfl
 unfold rightN at h1
 rw [hi, hm] at h1
 simp at h1
 refine ⟨?_, by omega, by omega, h2⟩
 have : r.raw.length = 0 := by
   have := h1
   simp_all
 exact List.length_eq_zero_iff.1 this
theorem DB.setI (H : DB fld key D F nl ex b l) {q : GO} (hq : q ∈ l) (hk : q.k = 4) {i : Nat} (hi : i < q.its.length) {v : Int} (hv : IsU v) : DB fld key D F nl ex (splice b (q.at_ + 24 + 8 * i) (bts v 8)) (l.map (setI q.at_ i v)) := by
 have hqf := H.gb.fine q hq
 obtain ⟨h0, -, -, hw1⟩ := hqf.1.arr hk
 have hfr := hqf.1.front
 have ep : q.at_ + 24 + 8 * i = q.at_ + (16 + 8 * q.ws.length + 8 * i) := by rw [hw1]; omega
 rw [ep]
 have hbl : (splice b (q.at_ + (16 + 8 * q.ws.length + 8 * i)) (bts v 8)).length = b.length := splice_len _ _ _ (by rw [bts8_length]; omega)
 have sb : ∀ (kd i' nl : Nat), ∀ j i v r, pBk key D F kd i' nl (Go.Proofs.YtgcmbgniaffdlaaGreat.setI j i v r) = pBk key D F kd i' nl r := fun kd i' nl j i v r => by unfold pBk; rw [setI_k, setI_raw, setI_at]
 have sf : ∀ (f : List Int) (ex : Nat), ∀ j i v r, pFld fld f ex (Go.Proofs.YtgcmbgniaffdlaaGreat.setI j i v r) = pFld fld f ex r := fun f ex j i v r => by unfold pFld; rw [setI_k, setI_raw, setI_at]
 have sa : ∀ (p nl : Nat), ∀ j i v r, pArr p nl (Go.Proofs.YtgcmbgniaffdlaaGreat.setI j i v r) = pArr p nl r := fun p nl j i v r => by unfold pArr; rw [setI_k, setI_t, setI_at]
 refine ⟨H.hD, H.hF, H.gb.setI hq h0 hi hv, ?_, ?_, ?_, ?_, ?_, ?_, ?_, ?_, ?_⟩
 · intro kd hkd j hj
   exact (H.bks kd hkd j hj).setI H.gb hq h0 hi hv (sb _ _ _) (bk_root H.hD H.hF hj l)
 · intro r' hr' hk'
   obtain ⟨r, hr, rfl⟩ := List.mem_map.1 hr'
   rw [setI_k] at hk'
   rw [setI_ws, setI_raw]
   exact H.sum r hr hk'
 · intro r' hr' t' ht' hk' h12 hraw
   obtain ⟨r, hr, rfl⟩ := List.mem_map.1 hr'
   obtain ⟨t, ht, rfl⟩ := List.mem_map.1 ht'
   rw [setI_k] at hk' h12
   rw [setI_k] at hk'
   rw [setI_raw, setI_raw] at hraw
   rw [H.uniq r hr t ht hk' h12 hraw]
 · intro f' hf' hk'
   obtain ⟨f, hf, rfl⟩ := List.mem_map.1 hf'
   rw [setI_k] at hk'
   rw [setI_at, setI_raw]
   exact (H.flds f hf hk').setI H.gb hq h0 hi hv (sf _ _) (H.fd_root hf hk')
 · intro r' hr' hk' hne
   obtain ⟨r, hr, rfl⟩ := List.mem_map.1 hr'
   rw [setI_k] at hk'
   rw [setI_at] at hne
   obtain ⟨f, hf, f1, f2⟩ := H.own r hr hk' hne
   exact ⟨Go.Proofs.YtgcmbgniaffdlaaGreat.setI q.at_ i v f, List.mem_map.2 ⟨f, hf, rfl⟩, by rw [setI_k]; exact f1, by rw [setI_raw, setI_raw]; exact f2⟩
 · intro p hp
   have hp' : ArRoot l p := hp.of_map fun r => ⟨setI_k _ _ _ _, setI_at _ _ _ _⟩
   exact (H.arrs p hp').setI H.gb hq h0 hi hv (sa _ _) (H.ar_root hp')
 · intro r' hr' hk'
   obtain ⟨r, hr, rfl⟩ := List.mem_map.1 hr'
   rw [setI_k] at hk'
   rw [setI_t, hbl]
   exact H.ats r hr hk'
 · rcases H.exl with e2 | ⟨l1, d, l2, e1, e2, e3, e4, e5⟩
   · exact .inl e2
   · refine .inr ⟨l1.map (Go.Proofs.YtgcmbgniaffdlaaGreat.setI q.at_ i v), Go.Proofs.YtgcmbgniaffdlaaGreat.setI q.at_ i v d, l2.map (Go.Proofs.YtgcmbgniaffdlaaGreat.setI q.at_ i v), by rw [e1]; simp, by rw [setI_at, e2], by rw [setI_k]; exact e3, by rw [setI_ws]; exact e4, ?_⟩
     intro r' hr'
     obtain ⟨r, hr, rfl⟩ := List.mem_map.1 hr'
     rw [setI_k]; exact e5 r hr
 · rcases H.nll with e2 | ⟨l1, n, e1, e2, e3, e4⟩
   · exact .inl e2
   · exact .inr ⟨l1.map (Go.Proofs.YtgcmbgniaffdlaaGreat.setI q.at_ i v), Go.Proofs.YtgcmbgniaffdlaaGreat.setI q.at_ i v n, by rw [e1]; simp, by rw [setI_at, e2], by rw [setI_k, setI_ws]; exact e3, by rw [setI_k, setI_ws]; exact e4⟩
theorem DB.nothing (hD : 1 <= D /\ D <= 256) (hF : 1 <= F /\ F <= 256) (hl : b.length = newK D F) (hz : ∀ j, 192 <= j -> nz b j = 0) : DB fld key D F 0 0 b [] := by
 have hv := newK_val hD hF
 refine ⟨hD, hF, ⟨by omega, by omega, by omega, by omega, by simp, .nil, by simp, hl.symm⟩, ?_, by simp, by simp, by simp, by simp, ?_, by simp, .inl rfl, .inl rfl⟩
 rotate_left
 · intro p hp
   rcases hp with rfl | ⟨d, hd, -⟩
   · exact Ch.none (gnum_nought (by omega) hz) (by simp)
   · cases hd
 intro kd hkd i hi
 have h1 := tb_low hD hF hi
 exact Ch.none (gnum_nought (by omega) (fun j hj => hz j (by omega))) (by simp)
def GO.arow (r : GO) : ARow := ⟨r.t, r.its, r.at_⟩
def arrsG (l : List GO) (p : Nat) : List GO := l.filter (pArr p 0)
def Ents (l : List GO) (d : GO) (L : List Int) : Prop := ∃ Ld, LI ((arrsG l (d.at_ + 48)).map GO.arow) Ld /\ ((d.ws.getD 3 0 = 0 /\ Ld = [] /\ L = []) ∨ (¬ d.ws.getD 3 0 = 0 /\ L = d.ws.getD 3 0 :: Ld))
theorem Ents.map {f : GO -> GO} {d : GO} {L : List Int} (h : Ents l d L) (hs : ∀ r, pArr (d.at_ + 48) 0 (f r) = pArr (d.at_ + 48) 0 r) (hi : ∀ r ∈ l, pArr (d.at_ + 48) 0 r = true -> (f r).arow = r.arow) (hd : (f d).at_ = d.at_) (hd3 : (f d).ws.getD 3 0 = d.ws.getD 3 0) : Ents (l.map f) (f d) L := by
 obtain ⟨Ld, h1, h2⟩ := h
 refine ⟨Ld, ?_, by rw [hd3]; exact h2⟩
 have e : (arrsG (l.map f) ((f d).at_ + 48)).map GO.arow = (arrsG l (d.at_ + 48)).map GO.arow := by
   unfold arrsG
   rw [hd, List.filter_map, show l.filter (pArr (d.at_ + 48) 0 ∘ f) = l.filter (pArr (d.at_ + 48) 0) from List.filter_congr fun r _ => hs r, List.map_map]
   refine List.map_congr_left fun r hr => ?_
   obtain ⟨a1, a2⟩ := List.mem_filter.1 hr
   exact hi r a1 a2
 rw [e]; exact h1
theorem Ents.setP {d : GO} {L : List Int} (H : DB fld key D F nl ex b l) (hd : d ∈ l) (h : Ents l d L) {q : Nat} {v : Int} (hq : RootG (newK D F) l q) (hne : q ≠ d.at_ + 40) : Ents (l.map (stP q v)) (stP q v d) L :=
 h.map (fun r => pArr_still _ _ _ _ _) (fun r _ _ => by unfold GO.arow; rw [stP_t, stP_at, stP_its]) (stP_at _ _ _) (H.gb.setP_far hq hd hne)
theorem Ents.add {d n : GO} {L : List Int} (h : Ents l d L) (hn : n.k = 4 -> n.t ≠ d.at_ + 48) : Ents (l ++ [n]) d L := by
 obtain ⟨Ld, h1, h2⟩ := h
 refine ⟨Ld, ?_, h2⟩
 have e : arrsG (l ++ [n]) (d.at_ + 48) = arrsG l (d.at_ + 48) := by
   unfold arrsG
   rw [List.filter_append, List.filter_cons_of_neg (fun h => hn (pArr_iff.1 h).1.1 (pArr_iff.1 h).1.2)]
   simp
 rw [e]; exact h1
theorem Ents.new (H : DB fld key D F 0 ex b l) {n : GO} (hat : n.at_ = b.length) (hk : n.k = 1) (h3 : n.ws.getD 3 0 = 0) : Ents (l ++ [n]) n [] := by
 refine ⟨[], ?_, .inl ⟨h3, rfl, rfl⟩⟩
 have e : arrsG (l ++ [n]) (n.at_ + 48) = [] := by
   refine List.filter_eq_nil_iff.2 fun r hr h => ?_
   obtain ⟨⟨h1, h2⟩, -⟩ := pArr_iff.1 h
   rcases List.mem_append.1 hr with h4 | h4
   · have := H.ats r h4 h1; omega
   · rw [List.mem_singleton.1 h4] at h1; omega
 rw [e]; exact LI.nil_
theorem Ents.first {d : GO} (H : DB fld key D F nl ex b l) (hd : d ∈ l) (hdk : d.k = 1) (h : Ents l d []) {x : Int} (hx : ¬ x = 0) : Ents (l.map (stP (d.at_ + 40) x)) (stP (d.at_ + 40) x d) [x] := by
  obtain ⟨Ld, h1, h2⟩ := h
  have hw : 3 < d.ws.length := by have := (H.gb.fine d hd).1.kk.2.1 hdk; omega
  have e3 : (stP (d.at_ + 40) x d).ws.getD 3 0 = x := by
    rw [H.gb.setP_word hd hw x hd, setW_eq rfl]
    show (d.ws.set 3 _).getD 3 0 = _
    rw [List.getD_eq_getElem?_getD, List.getElem?_set_self hw]; rfl
  obtain ⟨-, rfl, -⟩ : d.ws.getD 3 0 = 0 /\ Ld = [] /\ ([] : List Int) = [] := h2.resolve_right (fun h => by cases h.2)
  refine ⟨[], ?_, .inr ⟨by rw [e3]; exact hx, by rw [e3]⟩⟩
  have e : (arrsG (l.map (stP (d.at_ + 40) x)) ((stP (d.at_ + 40) x d).at_ + 48)).map GO.arow = (arrsG l (d.at_ + 48)).map GO.arow := by
    unfold arrsG
    rw [stP_at, filter_setP (pArr_still _ _), List.map_map]
    refine List.map_congr_left fun r _ => ?_
    show (stP _ _ r).arow = _
    unfold GO.arow; rw [stP_t, stP_at, stP_its]
  rw [e]; exact h1
end
section
variable {fld : List Int -> List Int} {key D F : Int} {ex : Nat} {b : List Int} {l : List GO}
theorem arrsG_mem {p : Nat} {r : GO} (h : r ∈ arrsG l p) : r ∈ l /\ r.k = 4 /\ r.t = p := by
 obtain ⟨h1, h2⟩ := List.mem_filter.1 h
 exact ⟨h1, (pArr_iff.1 h2).1.1, (pArr_iff.1 h2).1.2⟩
theorem arrsG_setI (p j i : Nat) (v : Int) : arrsG (l.map (setI j i v)) p = (arrsG l p).map (setI j i v) := by
 unfold arrsG
 rw [List.filter_map]
 congr 1
 exact List.filter_congr fun r _ => by show pArr p 0 (setI j i v r) = _; unfold pArr; rw [setI_k, setI_t, setI_at]
theorem arrsG_setP (p q : Nat) (v : Int) : (arrsG (l.map (stP q v)) p).map GO.arow = (arrsG l p).map GO.arow := by
 unfold arrsG
 rw [filter_setP (pArr_still _ _), List.map_map]
 refine List.map_congr_left fun r _ => ?_
 show (stP _ _ r).arow = _
 unfold GO.arow; rw [stP_t, stP_at, stP_its]
theorem aputG (H : DB fld key D F 0 ex b l) {p : Nat} {c' : List GO} {q : GO} (hc : arrsG l p = c' ++ [q]) {n : Nat} {Ld : List Int}
 (hLI : LI ((arrsG l p).map GO.arow) Ld) (hn : n = Ld.length - roomC c'.length) (hfree : n < q.its.length) {x : Int} (hx0 : ¬ x = 0) (hx : IsU x) :
 (gnum b (q.at_ + 24 + 8 * n : Nat) 8 = 0 /\ q.at_ + 24 + 8 * n + 8 <= b.length /\ (q.at_ + 24 + 8 * n) % 8 = 0) /\
 DB fld key D F 0 ex (splice b (q.at_ + 24 + 8 * n) (bts x 8)) (l.map (setI q.at_ n x)) /\ LI ((arrsG (l.map (setI q.at_ n x)) p).map GO.arow) (Ld ++ [x]) /\
 ∀ p', p' ≠ p -> (arrsG (l.map (setI q.at_ n x)) p').map GO.arow = (arrsG l p').map GO.arow := by
 have hq := arrsG_mem (show q ∈ arrsG l p by rw [hc]; simp)
 have hqf := H.gb.fine q hq.1
 obtain ⟨h0, -, -, hw1⟩ := hqf.1.arr hq.2.1
 have hfr := hqf.1.front
 have hcm : (arrsG l p).map GO.arow = c'.map GO.arow ++ [q.arow] := by rw [hc]; simp
 rw [hcm] at hLI
 have hlen : (c'.map GO.arow).length = c'.length := List.length_map ..
 have hz := (hLI.place (i := n) hfree).2 (by rw [hlen, hn]; exact Nat.le_refl _)
 have hg : gnum b (q.at_ + 24 + 8 * n : Nat) 8 = 0 := by
   have h9 := H.gb.held q hq.1
   unfold GO.bs at h9
   rw [h0] at h9
   have h10 := HoldsB.item h9 hfree hqf.1.is
   rw [hw1, show q.at_ + (16 + 8 * 1 + 8 * n) = q.at_ + 24 + 8 * n by omega] at h10
   rw [h10]; exact hz
 have hal := hqf.1.al
 have hLf : Ld.length < roomC c'.length + sizeC c'.length /\ roomC c'.length < Ld.length := by
   obtain ⟨a1, a2, -, -⟩ := hLI.last_at
   rw [hlen] at a1 a2
   have : q.arow.its.length = q.its.length := rfl
   omega
 refine ⟨⟨hg, by omega, by omega⟩, H.setI hq.1 hq.2.1 hfree hx, ?_, ?_⟩
 · rw [arrsG_setI, hc, List.map_append, List.map_append]
   have e1 : (c'.map (setI q.at_ n x)).map GO.arow = c'.map GO.arow := by
     rw [List.map_map]
     refine List.map_congr_left fun r hr => ?_
     have hr2 := arrsG_mem (show r ∈ arrsG l p by rw [hc]; simp [hr])
     have hp : (c' ++ [q]).Pairwise (fun r r' => r.at_ + r.len <= r'.at_) := by rw [<- hc]; exact H.gb.rise.filter _
     have h3 := (List.pairwise_append.1 hp).2.2 r hr q (by simp)
     have h4 := (H.gb.fine r hr2.1).1.front
     show (setI q.at_ n x r).arow = _
     rw [setI_ne (by omega)]
   rw [e1]
   exact hLI.put (by rw [hlen]; exact hLf.1) hx0 (by rw [hlen, <- hn]; show (setI q.at_ n x q).its = _; rw [setI_eq rfl]; rfl)
 · intro p' hne
   rw [arrsG_setI, List.map_map]
   refine List.map_congr_left fun r hr => ?_
   have hr2 := arrsG_mem hr
   show (setI q.at_ n x r).arow = _
   by_cases e : r.at_ = q.at_
   · have e2 := H.gb.one hr2.1 hq.1 e
     subst e2
     exact absurd (hr2.2.2.symm.trans hq.2.2) hne
   · rw [setI_ne e]
theorem anewG (H : DB fld key D F 0 ex b l) {p : Nat} (hp : ArRoot l p) {Ld : List Int} (hLI : LI ((arrsG l p).map GO.arow) Ld) (hfull : Ld.length = roomC (arrsG l p).length)
 {x : Int} (hx0 : ¬ x = 0) (hx : IsU x) {n : GO} (hn : n = ⟨p, b.length, 4, [0], [], x :: List.replicate (sizeC (arrsG l p).length - 1) 0⟩) (hm : b.length + n.len <= 1099511627776) {lk : Nat} (hlk : lk = lkG p 0 (arrsG l p)) :
 (RootG (newK D F) l lk /\ gnum b (lk : Nat) 8 = 0) /\
 DB fld key D F 0 ex (splice (b ++ n.bs) lk (bts (b.length : Nat) 8)) ((l ++ [n]).map (stP lk (b.length : Nat))) /\
 LI ((arrsG ((l ++ [n]).map (stP lk (b.length : Nat))) p).map GO.arow) (Ld ++ [x]) /\
 (∀ p', p' ≠ p -> (arrsG ((l ++ [n]).map (stP lk (b.length : Nat))) p').map GO.arow = (arrsG l p').map GO.arow) /\
 (∀ o ∈ l, ∀ i, i < o.ws.length -> (o.k = 1 -> i ≠ 4) -> o.k ≠ 4 -> (stP lk (b.length : Nat) o).ws.getD i 0 = o.ws.getD i 0) /\
 ∀ o ∈ l, o.k ≠ 1 -> o.k ≠ 4 -> stP lk (b.length : Nat) o = o := by
 have hlkr : RootG (newK D F) l lk /\ gnum b (lk : Nat) 8 = 0 := by rw [hlk]; exact (H.arrs p hp).link_at H.gb (H.ar_root hp) H.ar_w
 obtain ⟨s1, s2⟩ := sizeC_bd (arrsG l p).length
 have hil : n.its.length = sizeC (arrsG l p).length := by rw [hn]; simp; omega
 have hnf : n.Fine := by
   refine ⟨?_, ?_, ?_, ?_, ?_⟩
   · rw [hil, hn]
     show rightN ((4 : Nat) : Int) 1 0 _ = true
     unfold rightN
     have e1 : hasI ((4 : Nat) : Int) = true := rfl
     have e2 : mostN ((4 : Nat) : Int) = 1024 := rfl
     have e3 : kwN ((4 : Nat) : Int) = 1 := rfl
     rw [e1, e2, e3]
     simp; omega
   · rw [hn]; intro z hz; rw [List.mem_singleton.1 hz]; exact ⟨by omega, by omega⟩
   · rw [hn]; intro z hz; cases hz
   · rw [hn]; intro z hz
     rcases List.mem_cons.1 hz with e | e
     · rw [e]; exact hx
     · rw [(List.mem_replicate.1 e).2]; exact ⟨by omega, by omega⟩
   · rw [hn]; exact H.gb.al
 have hnk : n.k = 4 := by rw [hn]
 have hnt : n.t = p := by rw [hn]
 have hnat : n.at_ = b.length := by rw [hn]
 have hn0 : n.ws.getD 0 0 = 0 := by rw [hn]; rfl
 have hni : n.its = x :: List.replicate (sizeC (arrsG l p).length - 1) 0 := by rw [hn]
 have hfit := (H.gb.root_fit (H.ar_root hp)).1
 have h0 := newK_low D F H.hD H.hF
 have hlow := H.gb.low
 have A := DB.add (ex' := ex) H hnf hnat hm (fun e => by omega) (fun e => by omega) (fun _ => rfl) (fun _ => ⟨by rw [hnt]; exact hfit, hn0⟩)
 have hpos := fun r hr => H.at_pos (r := r) hr
 have hfil : (l ++ [n]).filter (pArr p n.at_) = arrsG l p := by
   rw [List.filter_append]
   have e3 : [n].filter (pArr p n.at_) = [] := by simp [pArr]
   rw [e3, List.append_nil]
   refine List.filter_congr fun r hr => ?_
   have := hpos r hr
   unfold pArr
   rw [bne_t (show r.at_ ≠ 0 by omega), bne_t (show r.at_ ≠ n.at_ by omega)]
 have B := A.link_ar (n := n) (p := p) (by simp) rfl hnk (hp.add n) hnt (x := lk) (by rw [hfil]; exact hlk)
 rw [hnat] at B A
 have hlk2 : RootG (newK D F) (l ++ [n]) lk := hlkr.1.add _
 have hxl : LP l p 0 (pArr p 0) lk := by rw [hlk]; exact lkG_LP _ _ _
 refine ⟨hlkr, B, ?_, ?_, ?_, ?_⟩
 · rw [arrsG_setP]
   have e6 : arrsG (l ++ [n]) p = arrsG l p ++ [n] := by
     unfold arrsG
     rw [List.filter_append]
     congr 1
     refine List.filter_cons_of_pos ?_
     exact pArr_iff.2 ⟨⟨hnk, hnt⟩, by omega⟩
   rw [e6, List.map_append]
   exact hLI.new (by rw [List.length_map]; exact hfull) hx0 (by rw [List.length_map]; exact hni)
 · intro p' hne
   rw [arrsG_setP]
   have e6 : arrsG (l ++ [n]) p' = arrsG l p' := by
     unfold arrsG
     rw [List.filter_append, List.filter_cons_of_neg (fun h => hne ((pArr_iff.1 h).1.2.symm.trans hnt))]
     simp
   rw [e6]
 · intro o ho i hi h1 h4
   refine A.gb.setP_far hlk2 (List.mem_append_left _ ho) fun e => ?_
   rcases H.ar_LP hp hxl with ⟨e2, -⟩ | ⟨d, hd, dk, -, e2, qw⟩ | ⟨q, hq, ⟨qk, -⟩, qw, e2⟩
   · exact H.gb.above ho (by omega) e
   · obtain ⟨a1, a2⟩ := H.gb.word_inj hd ho qw hi (e2.symm.trans e)
     subst a1; exact h1 dk a2.symm
   · obtain ⟨a1, a2⟩ := H.gb.word_inj hq ho qw hi (e2.symm.trans e)
     subst a1; exact h4 qk
 · intro o ho h1 h4
   rcases H.ar_LP hp hxl with ⟨e2, -⟩ | ⟨d, hd, dk, -, e2, qw⟩ | ⟨q, hq, ⟨qk, -⟩, qw, e2⟩
   · exact H.gb.setP_low (by omega) _ ho
   · rw [e2, H.gb.setP_word hd qw _ ho, setW_ne fun e => h1 (by rw [H.gb.one ho hd e]; exact dk)]
   · rw [e2, H.gb.setP_word hq qw _ ho, setW_ne fun e => h4 (by rw [H.gb.one ho hq e]; exact qk)]
end
structure DR where
 item : List Int
 at_ : Nat
 L : List Int
def datG (l : List GO) : List GO := l.filter fun r => r.k == 1
structure Rows (l : List GO) (R : List DR) : Prop where
 len : (datG l).length = R.length
 row : ∀ (i : Nat) (o : GO) (r : DR), (datG l)[i]? = some o -> R[i]? = some r -> o.raw = r.item /\ o.at_ = r.at_ /\ Ents l o r.L
theorem datG_mem {l : List GO} {o : GO} : o ∈ datG l ↔ o ∈ l /\ o.k = 1 := by simp [datG]
theorem datG_map {l : List GO} {f : GO -> GO} (hf : ∀ r ∈ l, (f r).k = r.k) : datG (l.map f) = (datG l).map f := by
 unfold datG
 rw [List.filter_map]
 congr 1
 exact List.filter_congr fun r hr => by show ((f r).k == 1) = (r.k == 1); rw [hf r hr]
theorem datG_snoc {l : List GO} {n : GO} : datG (l ++ [n]) = if n.k = 1 then datG l ++ [n] else datG l := by
 unfold datG
 rw [List.filter_append]
 by_cases h : n.k = 1
 · rw [if_pos h]; simp [h]
 · rw [if_neg h]; simp [h]
section
variable {fld : List Int -> List Int} {key D F : Int} {nl ex : Nat} {b : List Int} {l : List GO} {R : List DR}
theorem Rows.nothing : Rows [] [] := ⟨rfl, fun i o r h => by simp [datG] at h⟩
theorem Rows.obj (h : Rows l R) {i : Nat} {r : DR} (hr : R[i]? = some r) : ∃ o, (datG l)[i]? = some o /\ o ∈ l /\ o.k = 1 /\ o.raw = r.item /\ o.at_ = r.at_ /\ Ents l o r.L := by
 have hi := (List.getElem?_eq_some_iff.1 hr).1
 have e : (datG l)[i]? = some ((datG l)[i]'(by rw [h.len]; exact hi)) := List.getElem?_eq_getElem _
 obtain ⟨h1, h2, h3⟩ := h.row i _ r e hr
 have hm := datG_mem.1 (List.getElem_mem (show i < (datG l).length by rw [h.len]; exact hi))
 exact ⟨_, e, hm.1, hm.2, h1, h2, h3⟩
theorem Rows.map (h : Rows l R) {f : GO -> GO} {R' : List DR} (hf : ∀ r, (f r).k = r.k /\ (f r).raw = r.raw /\ (f r).at_ = r.at_) (hlen : R'.length = R.length)
 (hE : ∀ (i : Nat) (o : GO) (r r' : DR), (datG l)[i]? = some o -> R[i]? = some r -> R'[i]? = some r' -> o ∈ l -> o.k = 1 -> Ents l o r.L -> r'.item = r.item /\ r'.at_ = r.at_ /\ Ents (l.map f) (f o) r'.L) : Rows (l.map f) R' := by
 have hd := datG_map (l := l) (f := f) (fun r _ => (hf r).1)
 refine ⟨by rw [hd, List.length_map, h.len, hlen], fun i o r' ho hr' => ?_⟩
 rw [hd, List.getElem?_map] at ho
 have hi := (List.getElem?_eq_some_iff.1 hr').1
 obtain ⟨r, hr⟩ : ∃ r, R[i]? = some r := ⟨_, List.getElem?_eq_getElem (by omega)⟩
 obtain ⟨q, hq, h1, h2, h3, h4, h5⟩ := h.obj hr
 rw [hq] at ho
 have e : f q = o := by simpa using ho
 subst e
 obtain ⟨a1, a2, a3⟩ := hE i q r r' hq hr hr' h1 h2 h5
 exact ⟨by rw [(hf q).2.1, h3, a1], by rw [(hf q).2.2, h4, a2], a3⟩
theorem Rows.setP (H : DB fld key D F nl ex b l) (h : Rows l R) {q : Nat} {v : Int} (hq : RootG (newK D F) l q) (hne : ∀ o ∈ l, o.k = 1 -> q ≠ o.at_ + 40) : Rows (l.map (stP q v)) R := by
 refine h.map (fun r => ⟨stP_k _ _ _, stP_raw _ _ _, stP_at _ _ _⟩) rfl fun i o r r' _ hr hr' ho hk hE => ?_
 have e : r = r' := by rw [hr] at hr'; simpa using hr'
 subst e
 exact ⟨rfl, rfl, hE.setP H ho hq (hne o ho hk)⟩
theorem Rows.add_other (h : Rows l R) {n : GO} (hk : n.k ≠ 1) (hk4 : n.k ≠ 4) : Rows (l ++ [n]) R := by
 have hd : datG (l ++ [n]) = datG l := by rw [datG_snoc, if_neg hk]
 refine ⟨by rw [hd]; exact h.len, fun i o r ho hr => ?_⟩
 rw [hd] at ho
 obtain ⟨h1, h2, h3⟩ := h.row i o r ho hr
 exact ⟨h1, h2, h3.add fun e => absurd e hk4⟩
theorem Rows.add (H : DB fld key D F 0 ex b l) (h : Rows l R) {n : GO} (hk : n.k = 1) (hat : n.at_ = b.length) (h3 : n.ws.getD 3 0 = 0) : Rows (l ++ [n]) (R ++ [⟨n.raw, n.at_, []⟩]) := by
 have hd : datG (l ++ [n]) = datG l ++ [n] := by rw [datG_snoc, if_pos hk]
 refine ⟨by rw [hd, List.length_append, List.length_append, h.len]; rfl, fun i o r ho hr => ?_⟩
 rw [hd] at ho
 by_cases hi : i < R.length
 · rw [List.getElem?_append_left hi] at hr
   rw [List.getElem?_append_left (by rw [h.len]; exact hi)] at ho
   obtain ⟨h1, h2, h3⟩ := h.row i o r ho hr
   exact ⟨h1, h2, h3.add fun e => by omega⟩
 · have hi2 := (List.getElem?_eq_some_iff.1 hr).1
   rw [List.length_append] at hi2
   have e : i = R.length := by simp at hi2; omega
   subst e
   rw [List.getElem?_append_right (by omega), Nat.sub_self] at hr
   rw [List.getElem?_append_right (by rw [h.len]; exact Nat.le_refl _), h.len, Nat.sub_self] at ho
   have e1 : n = o := by simpa using ho
   have e2 : (⟨n.raw, n.at_, []⟩ : DR) = r := by simpa using hr
   subst e1
   subst e2
   exact ⟨rfl, rfl, Ents.new H hat hk h3⟩
theorem Rows.one (H : DB fld key D F nl ex b l) (h : Rows l R) {i : Nat} {r : DR} {o : GO} (hr : R[i]? = some r) (ho : (datG l)[i]? = some o) {f : GO -> GO} {L' : List Int} (hf : ∀ r, (f r).k = r.k /\ (f r).raw = r.raw /\ (f r).at_ = r.at_)
 (hE : Ents l o r.L -> Ents (l.map f) (f o) L') (hO : ∀ o' ∈ l, o'.k = 1 -> o' ≠ o -> ∀ L, Ents l o' L -> Ents (l.map f) (f o') L) : Rows (l.map f) (R.set i { r with L := L' }) := by
 refine h.map hf (List.length_set ..) fun j o' s s' ho' hs hs' hol hk hEs => ?_
 by_cases e : j = i
 · subst e
   have e1 : s = r := by rw [hr] at hs; exact (by simpa using hs.symm)
   have e2 : o' = o := by rw [ho] at ho'; exact (by simpa using ho'.symm)
   subst e1
   subst e2
   rw [List.getElem?_set_self (List.getElem?_eq_some_iff.1 hr).1] at hs'
   have e3 : ({ s with L := L' } : DR) = s' := by simpa using hs'
   subst e3
   exact ⟨rfl, rfl, hE hEs⟩
 · rw [List.getElem?_set_ne (fun e' => e e'.symm)] at hs'
   have e3 : s = s' := by rw [hs] at hs'; simpa using hs'
   subst e3
   refine ⟨rfl, rfl, hO o' hol hk (fun e' => ?_) _ hEs⟩
   subst e'
   have hp : (datG l).Pairwise (fun r r' => r.at_ + r.len <= r'.at_) := H.gb.rise.filter _
   have hlen := (H.gb.fine o' hol).1.front
   obtain ⟨hj1, hj2⟩ := List.getElem?_eq_some_iff.1 ho'
   obtain ⟨hi1, hi2⟩ := List.getElem?_eq_some_iff.1 ho
   have := List.pairwise_iff_getElem.1 hp
   rcases Nat.lt_or_ge j i with h1 | h1
   · have := this j i hj1 hi1 h1; rw [hj2, hi2] at this; omega
   · have := this i j hi1 hj1 (by omega); rw [hj2, hi2] at this; omega
def findD (R : List DR) (zs : List Int) : Option Nat := (R.find? (fun r => r.item == zs)).map (·.at_)
theorem Rows.raws (h : Rows l R) : (datG l).map (fun o => (o.raw, o.at_)) = R.map (fun r => (r.item, r.at_)) := by
 refine List.ext_getElem (by rw [List.length_map, List.length_map, h.len]) fun i h1 h2 => ?_
 rw [List.getElem_map, List.getElem_map]
 rw [List.length_map] at h1 h2
 obtain ⟨a1, a2, -⟩ := h.row i _ _ (List.getElem?_eq_getElem h1) (List.getElem?_eq_getElem h2)
 rw [a1, a2]
theorem Rows.find (h : Rows l R) (zs : List Int) : (l.find? (fun r => r.k == 1 && r.raw == zs)).map (·.at_) = findD R zs := by
 have e1 : l.find? (fun r => r.k == 1 && r.raw == zs) = (datG l).find? (fun o => o.raw == zs) := by
   unfold datG
   rw [List.find?_filter]
   congr 1
   funext r
   rw [Bool.eq_iff_iff]; simp
 have e2 := congrArg (List.find? (fun p : List Int × Nat => p.1 == zs)) h.raws
 rw [List.find?_map, List.find?_map] at e2
 have e3 := congrArg (Option.map Prod.snd) e2
 rw [Option.map_map, Option.map_map] at e3
 rw [e1]
 unfold findD
 exact e3
end
open Go.RowKit Go.Shelf
structure DS (fld : List Int -> List Int) (hI hM key D F : Int) (w : World) (base : Nat) (S : Nat -> Prop) (p lim : Nat) (R : List DR) (tl cnt : Nat) : Prop where
 ex : ∃ m bv sv l, IX w base S p hI key D F hM m bv sv /\ DB fld key D F 0 0 m.b l /\ Rows l R /\ AreB m.b /\ m.lim = lim /\ m.b.length <= tl /\ m.words.length <= cnt /\ m.was.length <= 1099511627776
 small : lim <= 1048576 /\ cnt <= 1000000
 key_ : IsU key
section
variable {fld : List Int -> List Int} {hI hM key D F : Int} {w w' : World} {base : Nat} {S : Nat -> Prop} {p lim : Nat} {R : List DR} {tl cnt : Nat}
end
def findG (l : List GO) (kd : Nat) (zs : List Int) : Option Nat := (l.find? (fun r => r.k == kd && r.raw == zs)).map (·.at_)
section
variable {fld : List Int -> List Int} {k d f : Int} {ex ex' : Nat} {m : IM} {l : List GO}
theorem lkIG_map (q : Nat) (L : List GO) : lkIG q (L.map GO.it) = lkG q 1 L := by
 unfold lkIG lkG
 rw [List.getLast?_map]
 cases L.getLast? <;> rfl
def bkG (l : List GO) (k d f : Int) (kd : Nat) (zs : List Int) : List GO := l.filter (pBk k d f kd (bktN d f kd (hsh k zs)) 0)
theorem DB.bkAt (H : DB fld k d f 0 ex m.b l) {kd : Nat} (hkd : kd = 1 ∨ kd = 2) (zs : List Int) : BkAt kd k d f m zs ((bkG l k d f kd zs).map GO.it) := by
 obtain ⟨h1, h2⟩ := bktN_eq H.hD H.hF (kd := kd) (hsh_isU k zs)
 have h0 := newK_low d f H.hD H.hF
 have hc := H.bks kd hkd _ h2
 have hr := bk_root H.hD H.hF h2 l
 obtain ⟨a1, a2⟩ := hc.link_at H.gb hr (H.bk_w hkd)
 have a3 := H.gb.root_fit a1
 have a4 := H.gb.root_low (by omega) a1
 refine ⟨H.hD, H.hF, H.gb.al, H.gb.most, hc.isU H.gb, hc.follow (newK_val H.hD H.hF).symm (by omega) H.gb (fun r _ hp => (pBk_iff.1 hp).1.1), ?_⟩
 rw [lkIG_map]
 exact ⟨a3.1, a3.2, a4, a2⟩
theorem DB.find_it (H : DB fld k d f 0 ex m.b l) {kd : Nat} (hkd : kd = 1 ∨ kd = 2) (zs : List Int) : findI ((bkG l k d f kd zs).map GO.it) zs = findG l kd zs := by
 obtain ⟨h1, h2⟩ := bktN_eq H.hD H.hF (kd := kd) (hsh_isU k zs)
 unfold findI findG bkG
 rw [List.find?_map, List.find?_filter, Option.map_map]
 have e : ∀ r ∈ l, (decide (pBk k d f kd (bktN d f kd (hsh k zs)) 0 r = true /\ ((fun t : It => decide (t.rs = zs)) ∘ GO.it) r = true)) = (r.k == kd && r.raw == zs) := fun r hr => by
   have hp := (H.at_pos hr).1
   rw [Bool.eq_iff_iff]
   simp only [decide_eq_true_eq, Bool.and_eq_true, beq_iff_eq, pBk_iff]
   constructor
   · rintro ⟨⟨⟨a1, a2⟩, a3⟩, a4⟩
     have a5 : decide (r.raw = zs) = true := a4
     exact ⟨a1, of_decide_eq_true a5⟩
   · rintro ⟨a1, a2⟩
     subst a2
     exact ⟨⟨⟨a1, h1⟩, by omega⟩, decide_eq_true (rfl : r.raw = r.raw)⟩
 have e2 : ∀ (P Q : GO -> Bool) (L : List GO), (∀ r ∈ L, P r = Q r) -> L.find? P = L.find? Q := fun P Q L => by
   induction L with
   | nil => intro _; rfl
   | cons x L ih => intro h; rw [List.find?_cons, List.find?_cons, h x (by simp), ih fun r hr => h r (by simp [hr])]
 rw [e2 _ _ l e]
 rfl
def newG (k : Int) (kd at_ : Nat) (zs : List Int) : GO := ⟨0, at_, kd, tW k ⟨kd, zs, at_⟩ 0, zs, []⟩
theorem newG_bs (k : Int) (kd at_ : Nat) (zs : List Int) : (newG k kd at_ zs).bs = tO k ⟨kd, zs, at_⟩ 0 := rfl
def lkT (l : List GO) (k d f : Int) (kd : Nat) (zs : List Int) : Nat := lkG (tb d kd + 8 * bktN d f kd (hsh k zs)) 1 (bkG l k d f kd zs)
def addG (l : List GO) (k d f : Int) (kd at_ : Nat) (zs : List Int) : List GO := (l ++ [newG k kd at_ zs]).map (stP (lkT l k d f kd zs) (at_ : Nat))
theorem findG_none {kd : Nat} {zs : List Int} (h : findG l kd zs = none) : ∀ r ∈ l, r.k = kd -> r.raw ≠ zs := fun r hr hk hraw => by
 unfold findG at h
 rw [Option.map_eq_none_iff, List.find?_eq_none] at h
 exact h r hr (by simp [hk, hraw])
theorem DB.tadd1 (H : DB fld k d f 0 ex m.b l) {kd : Nat} (hkd : kd = 1 ∨ kd = 2) {zs : List Int} (hz : AreB zs) (hrt : rightN kd (kwN kd) zs.length 0 = true) (hnew : findG l kd zs = none) (hm : m.b.length + tlen kd zs.length <= 1099511627776)
 (h1 : kd = 1 -> ex = 0 /\ ex' = m.b.length) (h2 : kd = 2 -> ex' = ex) :
 DB fld k d f m.b.length ex' (m.b ++ (newG k kd m.b.length zs).bs) (l ++ [newG k kd m.b.length zs]) := by
 have hfine : (⟨kd, zs, m.b.length⟩ : TRow).Fine := ⟨hkd, hrt, hz, H.gb.al⟩
 obtain ⟨n, hn⟩ : ∃ n, newG k kd m.b.length zs = n := ⟨_, rfl⟩
 have hnf : n.Fine := by
   rw [<- hn]
   exact ⟨hfine.rt k 0, tW_bd ⟨by omega, by omega⟩, hz, by simp [newG], H.gb.al⟩
 have hnl : n.len = tlen kd zs.length := by
   have h9 := tO_length (key := k) (z := 0) hfine
   rw [<- hn]
   unfold GO.len
   rw [newG_bs]
   exact h9
 have hnk : n.k = kd := by rw [<- hn]; rfl
 have hnat : n.at_ = m.b.length := by rw [<- hn]; rfl
 have hnraw : n.raw = zs := by rw [<- hn]; rfl
 have hkw := hfine.kw
 have w0 : n.ws.getD 0 0 = hsh k zs := by rw [<- hn]; rfl
 have w1 : n.ws.getD 1 0 = 0 := by rw [<- hn]; rfl
 have wz : ∀ i, n.ws.getD (i + 2) 0 = 0 := fun i => by
   rw [<- hn]
   show (hsh k zs :: 0 :: List.replicate (kwN kd - 2) 0).getD (i + 2) 0 = 0
   rw [List.getD_cons_succ, List.getD_cons_succ, List.getD_eq_getElem?_getD, List.getElem?_replicate]
   split <;> rfl
 have hne := findG_none hnew
 have A : DB fld k d f n.at_ ex' (m.b ++ n.bs) (l ++ [n]) := DB.add (ex' := ex') H hnf hnat (by rw [hnl]; exact hm) (fun _ => ⟨by rw [hnraw]; exact w0, w1, wz 0, fun r hr hk' => by rw [hnraw]; exact hne r hr (hk'.trans hnk)⟩) (fun e => by obtain ⟨a, b⟩ := h1 (hnk ▸ e); exact ⟨a, by rw [hnat]; exact b, wz 2⟩) (fun e => h2 (by omega)) (fun e => by omega)
 rw [hn]
 rw [hnat] at A
 exact A
theorem DB.tadd (H : DB fld k d f 0 ex m.b l) {kd : Nat} (hkd : kd = 1 ∨ kd = 2) {zs : List Int} (hz : AreB zs) (hrt : rightN kd (kwN kd) zs.length 0 = true) (hnew : findG l kd zs = none) (hm : m.b.length + tlen kd zs.length <= 1099511627776)
 (h1 : kd = 1 -> ex = 0 /\ ex' = m.b.length) (h2 : kd = 2 -> ex' = ex) :
 DB fld k d f 0 ex' ((m.add (tO k ⟨kd, zs, m.b.length⟩ 0)).put8 (lkT l k d f kd zs) (m.b.length : Nat)).b (addG l k d f kd m.b.length zs) := by
 obtain ⟨n, hn⟩ : ∃ n, newG k kd m.b.length zs = n := ⟨_, rfl⟩
 have hnk : n.k = kd := by rw [<- hn]; rfl
 have hnat : n.at_ = m.b.length := by rw [<- hn]; rfl
 have hnraw : n.raw = zs := by rw [<- hn]; rfl
 have A := H.tadd1 hkd hz hrt hnew hm h1 h2
 rw [hn, <- hnat] at A
 obtain ⟨g1, g2⟩ := bktN_eq H.hD H.hF (kd := kd) (hsh_isU k zs)
 have B := A.link_bk (n := n) (by simp) rfl (by omega) (i := bktN d f kd (hsh k zs)) (by rw [hnraw, hnk]; exact g1) (by rw [hnk]; exact g2) (x := lkT l k d f kd zs) (by
   unfold lkT bkG
   rw [hnk, List.filter_append]
   have e3 : [n].filter (pBk k d f kd (bktN d f kd (hsh k zs)) n.at_) = [] := by simp [pBk]
   rw [e3, List.append_nil]
   congr 1
   refine List.filter_congr fun r hr => ?_
   have := H.at_pos hr
   unfold pBk
   rw [bne_t (show r.at_ ≠ 0 by omega), bne_t (show r.at_ ≠ n.at_ by omega)])
 unfold addG
 rw [hn, <- hnat]
 have e4 : ((m.add (tO k ⟨kd, zs, m.b.length⟩ 0)).put8 (lkT l k d f kd zs) (n.at_ : Nat)).b = splice (m.b ++ n.bs) (lkT l k d f kd zs) (bts (n.at_ : Nat) 8) := by
   rw [<- newG_bs, hn]; rfl
 rw [hnat] at e4 ⊢
 rw [hnat] at B
 rw [e4]
 exact B
end
section
variable {fld : List Int -> List Int} {base p : Nat} {S : Nat -> Prop} {i k d f h : Int} {m : IM} {bv sv : Value} {ex : Nat} {l : List GO} {R : List DR}
theorem Rows.findG (h : Rows l R) (zs : List Int) : findG l 1 zs = findD R zs := h.find zs
theorem findG_some {kd : Nat} {zs : List Int} {a : Nat} (h : findG l kd zs = some a) : ∃ o ∈ l, o.k = kd /\ o.raw = zs /\ o.at_ = a := by
 unfold findG at h
 rw [Option.map_eq_some_iff] at h
 obtain ⟨o, h1, h2⟩ := h
 have h3 := List.find?_some h1
 simp at h3
 exact ⟨o, List.mem_of_find?_eq_some h1, h3.1, h3.2, h2⟩
theorem DB.lkT_ne (D : DB fld k d f 0 ex m.b l) {kd : Nat} (hkd : kd = 1 ∨ kd = 2) (zs : List Int) : RootG (newK d f) l (lkT l k d f kd zs) /\ ∀ o ∈ l, o.k = 1 -> lkT l k d f kd zs ≠ o.at_ + 40 := by
 obtain ⟨g1, g2⟩ := bktN_eq D.hD D.hF (kd := kd) (hsh_isU k zs)
 have hxl : LP l (tb d kd + 8 * bktN d f kd (hsh k zs)) 1 (pBk k d f kd (bktN d f kd (hsh k zs)) 0) (lkT l k d f kd zs) := lkG_LP _ _ _
 refine ⟨((D.bks kd hkd _ g2).link_at D.gb (bk_root D.hD D.hF g2 l) (D.bk_w hkd)).1, fun o ho hk' e => ?_⟩
 rcases D.bk_LP hkd g2 hxl with ⟨-, h1⟩ | ⟨q, hq, -, qw, e2⟩
 · exact D.gb.above ho (i := 3) h1 e
 · have := (D.gb.word_inj hq ho qw (j := 3) (by have := (D.gb.fine o ho).1.kk.2.1 hk'; omega) (e2.symm.trans e)).2; omega
theorem Rows.tadd (D : DB fld k d f 0 ex m.b l) (h : Rows l R) {zs : List Int} {ex' : Nat} (A : DB fld k d f m.b.length ex' (m.b ++ (newG k 1 m.b.length zs).bs) (l ++ [newG k 1 m.b.length zs])) : Rows (addG l k d f 1 m.b.length zs) (R ++ [⟨zs, m.b.length, []⟩]) := by
 obtain ⟨a1, a2⟩ := D.lkT_ne (.inl rfl) zs
 have hR := Rows.add D h (n := newG k 1 m.b.length zs) rfl rfl rfl
 refine Rows.setP A hR (a1.add _) fun o ho hk' => ?_
 rcases List.mem_append.1 ho with h3 | h3
 · exact a2 o h3 hk'
 · rw [List.mem_singleton.1 h3]
   have := (D.gb.root_fit a1).1
   show _ ≠ m.b.length + 40
   omega
theorem Rows.tadd2 (D : DB fld k d f 0 ex m.b l) (h : Rows l R) {zs : List Int} (A : DB fld k d f m.b.length ex (m.b ++ (newG k 2 m.b.length zs).bs) (l ++ [newG k 2 m.b.length zs])) : Rows (addG l k d f 2 m.b.length zs) R := by
 obtain ⟨a1, a2⟩ := D.lkT_ne (.inr rfl) zs
 have hR := Rows.add_other h (n := newG k 2 m.b.length zs) (by show (2 : Nat) ≠ 1; decide) (by show (2 : Nat) ≠ 4; decide)
 refine Rows.setP A hR (a1.add _) fun o ho hk' => ?_
 rcases List.mem_append.1 ho with h3 | h3
 · exact a2 o h3 hk'
 · rw [List.mem_singleton.1 h3] at hk'; exact absurd hk' (by show (2 : Nat) ≠ 1; decide)
def addIM (m : IM) (l : List GO) (k d f : Int) (kd : Nat) (zs : List Int) : IM := (m.add (tO k ⟨kd, zs, m.b.length⟩ 0)).put8 (lkT l k d f kd zs) (m.b.length : Nat)
theorem lkT_it (kd : Nat) (zs : List Int) : lkIG (tb d kd + 8 * bktN d f kd (hsh k zs)) ((bkG l k d f kd zs).map GO.it) = lkT l k d f kd zs := lkIG_map _ _
theorem gadd_any {B : Nat} (kd : Nat) (hkd : kd = 1 ∨ kd = 2) (A : Option Addr) (n c : Nat) (zs : List Int) (w : World) (D : DB fld k d f 0 ex m.b l) (H : IX w base S p i k d f h m bv sv) (hbm : AreB m.b) (hk : IsU k) (hlim : m.lim <= 1048576) (hN : m.words.length <= 1000000000) (hwl : m.was.length <= 1099511627776) (hr : Reads w B 1 A n (cellsOf .u8 zs)) (hB : B <= w.heap.size) (hz : AreB zs) (hl : n <= c) (hcap : c <= 9223372036854775807) (hn : n <= 140737488355328) (hrt : rightN kd (kwN kd) zs.length 0 = true) :
 Calls Tryz.prog 183 #[.pointer (some ⟨p, 0, none⟩), .int .i64 kd, .slice A n c] w fun e w' =>
 (∃ a, findG l kd zs = some a /\ e = .returned (.tuple #[.int .i64 (a : Nat), .bool false, .int .i64 0]) /\ Below w.heap.size w w') ∨
 (findG l kd zs = none /\ m.lim < m.b.length + tlen kd zs.length /\ e = .returned (.tuple #[.int .i64 0, .bool false, .int .i64 21]) /\ Below w.heap.size w w') ∨
 (findG l kd zs = none /\ m.b.length + tlen kd zs.length <= m.lim /\ e = .returned (.tuple #[.int .i64 (m.b.length : Nat), .bool true, .int .i64 0]) /\ IXT base S p i k d f h (addIM m l k d f kd zs) w w') := by
 have h9 := taddG_any kd hkd A n c zs w H hbm hk (D.bkAt hkd zs) hlim hN hwl hr hB hz hl hcap hn hrt
 rw [D.find_it hkd zs, lkT_it] at h9
 exact h9
theorem addIM_len (D : DB fld k d f 0 ex m.b l) {kd : Nat} (hkd : kd = 1 ∨ kd = 2) {zs : List Int} (hz : AreB zs) (hrt : rightN kd (kwN kd) zs.length 0 = true) : (addIM m l k d f kd zs).b.length = m.b.length + tlen kd zs.length /\ AreB (tO k ⟨kd, zs, m.b.length⟩ 0) := by
 have hfine : (⟨kd, zs, m.b.length⟩ : TRow).Fine := ⟨hkd, hrt, hz, D.gb.al⟩
 have h1 := tO_length (key := k) (z := 0) hfine
 have h2 := (D.gb.root_fit (D.lkT_ne hkd zs).1).1
 refine ⟨?_, ?_⟩
 · show (splice (m.b ++ tO k ⟨kd, zs, m.b.length⟩ 0) (lkT l k d f kd zs) (bts (m.b.length : Nat) 8)).length = _
   rw [splice_len _ _ _ (by rw [bts8_length, List.length_append]; omega), List.length_append, h1]
 · unfold tO; exact encO_bytes hz
theorem addIM_bytes (D : DB fld k d f 0 ex m.b l) (hb : AreB m.b) {kd : Nat} (hkd : kd = 1 ∨ kd = 2) {zs : List Int} (hz : AreB zs) (hrt : rightN kd (kwN kd) zs.length 0 = true) : AreB (addIM m l k d f kd zs).b :=
 splice_bytes (hb.append (addIM_len D hkd hz hrt).2) (bts_bytes _ _) _
theorem addIM_words {kd : Nat} {zs : List Int} : (addIM m l k d f kd zs).words.length <= m.words.length + 1 := by
 show (if _ then _ else _ : List Nat).length <= _
 split
 · rw [List.length_append]; exact Nat.le_refl _
 · show m.words.length <= _; omega
theorem DB.item (D : DB fld k d f 0 0 m.b l) (h : Rows l R) {zs : List Int} (hz : AreB zs) (hrt : rightN 1 (kwN 1) zs.length 0 = true) (hnew : findG l 1 zs = none) (hm : m.b.length + tlen 1 zs.length <= 1099511627776) :
 DB fld k d f 0 m.b.length (addIM m l k d f 1 zs).b (addG l k d f 1 m.b.length zs) /\ Rows (addG l k d f 1 m.b.length zs) (R ++ [⟨zs, m.b.length, []⟩]) :=
 ⟨D.tadd (.inl rfl) hz hrt hnew hm (fun _ => ⟨rfl, rfl⟩) (fun e => by cases e), h.tadd D (D.tadd1 (.inl rfl) hz hrt hnew hm (fun _ => ⟨rfl, rfl⟩) (fun e => by cases e))⟩
theorem DB.field (D : DB fld k d f 0 ex m.b l) (h : Rows l R) {zs : List Int} (hz : AreB zs) (hrt : rightN 2 (kwN 2) zs.length 0 = true) (hnew : findG l 2 zs = none) (hm : m.b.length + tlen 2 zs.length <= 1099511627776) :
 DB fld k d f 0 ex (addIM m l k d f 2 zs).b (addG l k d f 2 m.b.length zs) /\ Rows (addG l k d f 2 m.b.length zs) R /\ ∃ fo ∈ addG l k d f 2 m.b.length zs, fo.k = 2 /\ fo.raw = zs /\ fo.at_ = m.b.length :=
 ⟨D.tadd (.inr rfl) hz hrt hnew hm (fun e => by cases e) (fun _ => rfl), h.tadd2 D (D.tadd1 (.inr rfl) hz hrt hnew hm (fun e => by cases e) (fun _ => rfl)),
   stP (lkT l k d f 2 zs) (m.b.length : Nat) (newG k 2 m.b.length zs), List.mem_map.2 ⟨_, by simp, rfl⟩, by rw [stP_k]; rfl, by rw [stP_raw]; rfl, by rw [stP_at]; rfl⟩
theorem DB.linked (D : DB fld k d f 0 ex m.b l) (h : Rows l R) {o fo : GO} (ho : o ∈ l) (hat : o.at_ = ex) (hf : fo ∈ l) (hfk : fo.k = 2) (hfr : fo.raw = fld o.raw) :
 (RootG (newK d f) l (lkG (fo.at_ + 32) 2 (l.filter (pFld fld fo.raw ex))) /\ gnum m.b (lkG (fo.at_ + 32) 2 (l.filter (pFld fld fo.raw ex)) : Nat) 8 = 0) /\
 DB fld k d f 0 0 (m.put8 (lkG (fo.at_ + 32) 2 (l.filter (pFld fld fo.raw ex))) (ex : Nat)).b (l.map (stP (lkG (fo.at_ + 32) 2 (l.filter (pFld fld fo.raw ex))) (ex : Nat))) /\
 Rows (l.map (stP (lkG (fo.at_ + 32) 2 (l.filter (pFld fld fo.raw ex))) (ex : Nat))) R := by
 have hl := (D.flds fo hf hfk).link_at D.gb (D.fd_root hf hfk) D.fd_w
 have hxl : LP l (fo.at_ + 32) 2 (pFld fld fo.raw ex) (lkG (fo.at_ + 32) 2 (l.filter (pFld fld fo.raw ex))) := lkG_LP _ _ _
 refine ⟨hl, D.flink ho hat hf hfk hfr rfl, Rows.setP D h hl.1 fun q hq hk' e => ?_⟩
 obtain ⟨r, hr, -, rw_, e2⟩ := D.fd_LP hf hfk hxl
 have := (D.gb.word_inj hr hq rw_ (j := 3) (by have := (D.gb.fine q hq).1.kk.2.1 hk'; omega) (e2.symm.trans e)).2; omega
theorem DB.obAt (D : DB fld k d f 0 ex m.b l) {o : GO} (ho : o ∈ l) : m.obAt d f o.k o.it := by
 have hf := D.gb.fine o ho
 have hv := newK_val D.hD D.hF
 obtain ⟨s, d1, d2, d3, d4, d5, d6⟩ := HoldsB.dec (D.gb.held o ho) hf.1.al hf.1.right hf.1.us hf.1.is
 exact ⟨s, ⟨by have := hf.2.1; show _ <= ((o.at_ : Nat) : Int); omega, d1, d2⟩, d4, d5, d6⟩
theorem DB.firstIM (D : DB fld k d f 0 0 m.b l) (h : Rows l R) {j : Nat} {r : DR} {o : GO} (hr : R[j]? = some r) (ho : (datG l)[j]? = some o) (hL : r.L = []) {x : Int} (hx : IsU x) (hx0 : ¬ x = 0) :
 DB fld k d f 0 0 (m.put8 (o.at_ + 40) x).b (l.map (stP (o.at_ + 40) x)) /\ Rows (l.map (stP (o.at_ + 40) x)) (R.set j { r with L := [x] }) := by
 obtain ⟨o2, h1, h2, h3, h4, h5, h6⟩ := h.obj hr
 have e : o2 = o := by rw [ho] at h1; exact (by simpa using h1.symm)
 subst e
 have hw : 3 < o2.ws.length := by have := (D.gb.fine o2 h2).1.kk.2.1 h3; omega
 have hxr : RootG (newK d f) l (o2.at_ + 40) := .inr ⟨o2, h2, 3, hw, rfl⟩
 refine ⟨D.first h2 h3 hx, h.one D hr ho (fun r => ⟨stP_k _ _ _, stP_raw _ _ _, stP_at _ _ _⟩) (fun hE => ?_) (fun o' ho' hk' hne L hE => ?_)⟩
 · rw [hL] at hE; exact hE.first D h2 h3 hx0
 · exact hE.setP D ho' hxr fun e => hne ((D.gb.one h2 ho' (by omega)).symm)
end
def linkW (r : GO) (p : Nat) : Prop := (r.k = 1 /\ ∃ i, 1 <= i /\ i <= 4 /\ p = r.at_ + (16 + 8 * i)) ∨ (r.k = 2 /\ ∃ i, 1 <= i /\ i <= 2 /\ p = r.at_ + (16 + 8 * i)) ∨ (r.k = 4 /\ (p = r.at_ + (16 + 8 * 0) ∨ ∃ i, i < r.its.length /\ p = r.at_ + 24 + 8 * i))
def LinkG (lo : Nat) (l : List GO) (p : Nat) : Prop := p = 192 ∨ (256 <= p /\ p + 8 <= lo /\ p % 8 = 0) ∨ ∃ r ∈ l, linkW r p
theorem LinkG.add {lo : Nat} {l : List GO} {p : Nat} (h : LinkG lo l p) (l' : List GO) : LinkG lo (l ++ l') p := by
 rcases h with h | h | ⟨r, hr, h⟩
 · exact .inl h
 · exact .inr (.inl h)
 · exact .inr (.inr ⟨r, List.mem_append_left _ hr, h⟩)
def Shp (g : GO -> GO) (l : List GO) : Prop := ∀ r ∈ l, (g r).at_ = r.at_ /\ (g r).k = r.k /\ (g r).len = r.len /\ (g r).its.length = r.its.length /\ (g r).raw.length = r.raw.length
theorem linkW_map {g : GO -> GO} {r : GO} (h : (g r).at_ = r.at_ /\ (g r).k = r.k /\ (g r).len = r.len /\ (g r).its.length = r.its.length /\ (g r).raw.length = r.raw.length) (p : Nat) : linkW (g r) p ↔ linkW r p := by
 unfold linkW
 rw [h.1, h.2.1, h.2.2.2.1]
theorem LinkG.map {lo : Nat} {g : GO -> GO} {l : List GO} (hg : Shp g l) (p : Nat) : LinkG lo (l.map g) p ↔ LinkG lo l p := by
 unfold LinkG
 refine or_congr Iff.rfl (or_congr Iff.rfl ⟨fun ⟨r, hr, h⟩ => ?_, fun ⟨r, hr, h⟩ => ?_⟩)
 · obtain ⟨q, hq, rfl⟩ := List.mem_map.1 hr
   exact ⟨q, hq, (linkW_map (hg q hq) p).1 h⟩
 · exact ⟨g r, List.mem_map.2 ⟨r, hr, rfl⟩, (linkW_map (hg r hr) p).2 h⟩
theorem GB.shp_stP {lo : Nat} {b : List Int} {l : List GO} (H : GB lo b l) {p : Nat} {v : Int} (H2 : GB lo (splice b p (bts v 8)) (l.map (stP p v))) : Shp (stP p v) l := fun r hr => by
 refine ⟨stP_at _ _ _, stP_k _ _ _, ?_, by rw [stP_its], by rw [stP_raw]⟩
 have h1 := (H.fine r hr).1
 have h2 := (H2.fine _ (List.mem_map.2 ⟨r, hr, rfl⟩)).1
 rw [h2.len, h1.len, stP_k, stP_raw, stP_its]
theorem shp_setI {lo : Nat} {b : List Int} {l : List GO} (H : GB lo b l) {j i : Nat} {v : Int} (hv : IsU v) : Shp (setI j i v) l := fun r hr =>
 ⟨setI_at _ _ _ _, setI_k _ _ _ _, setI_len (H.fine r hr).1 hv, setI_ilen _ _ _ _, by rw [setI_raw]⟩
theorem GB.link_fit {lo : Nat} {b : List Int} {l : List GO} (H : GB lo b l) (hlo : 256 <= lo) {p : Nat} (h : LinkG lo l p) : p + 8 <= b.length /\ p % 8 = 0 /\ 192 <= p := by
 have hl := H.low
 rcases h with rfl | h | ⟨r, hr, h⟩
 · exact ⟨by omega, by decide, by omega⟩
 · exact ⟨by omega, h.2.2, by omega⟩
 · have hf := H.fine r hr
   have h1 := hf.1.front
   have h2 := hf.1.al
   have h3 := hf.1.kk
   rcases h with ⟨hk, i, i1, i2, rfl⟩ | ⟨hk, i, i1, i2, rfl⟩ | ⟨hk, rfl | ⟨i, hi, rfl⟩⟩
   · have := h3.2.1 hk; omega
   · have := h3.2.2.1 hk; omega
   · have := h3.2.2.2 hk; omega
   · have := h3.2.2.2 hk; omega
theorem Shp.trans {g h : GO -> GO} {l : List GO} (hg : Shp g l) (hh : Shp h (l.map g)) : Shp (h ∘ g) l := fun r hr => by
 have h1 := hg r hr
 have h2 := hh (g r) (List.mem_map.2 ⟨r, hr, rfl⟩)
 exact ⟨h2.1.trans h1.1, h2.2.1.trans h1.2.1, h2.2.2.1.trans h1.2.2.1, h2.2.2.2.1.trans h1.2.2.2.1, h2.2.2.2.2.trans h1.2.2.2.2⟩
theorem GB.link_set {lo : Nat} {b : List Int} {l : List GO} (H : GB lo b l) (hlo : 256 <= lo) {p : Nat} (hp : LinkG lo l p) {v : Int} (hv : IsU v) : ∃ g, Shp g l /\ GB lo (splice b p (bts v 8)) (l.map g) := by
 have root : RootG lo l p -> ∃ g, Shp g l /\ GB lo (splice b p (bts v 8)) (l.map g) := fun h => ⟨stP p v, H.shp_stP (H.setP h hv), H.setP h hv⟩
 rcases hp with rfl | h | ⟨r, hr, h⟩
 · exact root (.inl ⟨by decide, by decide, by omega⟩)
 · exact root (.inl ⟨h.2.2, by omega, h.2.1⟩)
 · have hf := (H.fine r hr).1
   have h3 := hf.kk
   rcases h with ⟨hk, i, i1, i2, rfl⟩ | ⟨hk, i, i1, i2, rfl⟩ | ⟨hk, rfl | ⟨i, hi, rfl⟩⟩
   · have := h3.2.1 hk; exact root (.inr ⟨r, hr, i, by omega, rfl⟩)
   · have := h3.2.2.1 hk; exact root (.inr ⟨r, hr, i, by omega, rfl⟩)
   · have := h3.2.2.2 hk; exact root (.inr ⟨r, hr, 0, by omega, rfl⟩)
   · have h4 := h3.2.2.2 hk
     have h5 := H.setI hr (hf.arr hk).1 hi hv
     rw [h4] at h5
     have e : r.at_ + 24 + 8 * i = r.at_ + (16 + 8 * 1 + 8 * i) := by omega
     rw [e]
     exact ⟨_, shp_setI H hv, h5⟩
theorem GB.links_zero {lo : Nat} (hlo : 256 <= lo) : ∀ (ws : List Nat) {b : List Int} {l : List GO}, GB lo b l -> (∀ a ∈ ws, LinkG lo l a) -> ∃ g, Shp g l /\ GB lo (zeroW b ws) (l.map g)
 | [], b, l, H, _ => ⟨id, fun r _ => ⟨rfl, rfl, rfl, rfl, rfl⟩, by rw [List.map_id]; exact H⟩
 | k :: ws, b, l, H, h => by
   obtain ⟨g, hg, H1⟩ := H.link_set hlo (h k (by simp)) (v := 0) ⟨by omega, by omega⟩
   have e : bts 0 8 = List.replicate 8 0 := by decide
   rw [e] at H1
   obtain ⟨g2, hg2, H2⟩ := GB.links_zero hlo ws H1 (fun a ha => (LinkG.map hg a).2 (h a (by simp [ha])))
   refine ⟨g2 ∘ g, hg.trans hg2, ?_⟩
   rw [<- List.map_map]
   exact H2
theorem fillG.le : ∀ {l : List GO} {a e : Nat}, fillG a e l -> a <= e
 | [], _, _, h => Nat.le_of_eq h
 | r :: l, a, e, h => by have := fillG.le h.2; omega
theorem fillG.in_ : ∀ {l : List GO} {a e : Nat}, fillG a e l -> ∀ r ∈ l, a <= r.at_ /\ r.at_ + r.len <= e
 | [], _, _, _, r, hr => by cases hr
 | q :: l, a, e, h, r, hr => by
   rcases List.mem_cons.1 hr with rfl | hr
   · have := fillG.le h.2
     have := h.1
     omega
   · have := fillG.in_ h.2 r hr
     omega
theorem fillG_drop : ∀ {l1 l2 : List GO} {a c e : Nat}, fillG a e (l1 ++ l2) -> fillG a c l1 -> fillG c e l2
 | [], l2, a, c, e, h, h1 => by have h1 : a = c := h1; subst h1; exact h
 | r :: l1, l2, a, c, e, h, h1 => fillG_drop h.2 h1.2
structure Far (lo : Nat) (m : IM) (l : List GO) : Prop where
 safe : ∀ a ∈ m.words, LinkG lo l a /\ (m.was.length : Int) <= m.word (a : Nat)
 closed : ∀ p, LinkG lo l p -> m.word (p : Nat) < m.b.length
 bound : ∃ n, n <= l.length /\ fillG lo m.was.length (l.take n)
structure GoodL (lo : Nat) (m : IM) (l : List GO) : Prop extends IM.Good m where
 far : Far lo m l
section
variable {lo : Nat} {m : IM} {l : List GO}
theorem Far.put8 (G : GB lo m.b l) (hlo : 256 <= lo) (F : Far lo m l) {q : Nat} {x : Int} (hq : LinkG lo l q) (hu : IsU x) (h1 : (m.was.length : Int) <= x) (h2 : x < m.b.length) {g : GO -> GO} (hg : Shp g l) : Far lo (m.put8 q x) (l.map g) := by
 have hqf := G.link_fit hlo hq
 have l8 : (bts x 8).length = 8 := bts8_length _
 have hw : ∀ p, LinkG lo l p -> (m.put8 q x).word (p : Nat) = if p = q then x else m.word (p : Nat) := fun p hp => by
   have hpf := G.link_fit hlo hp
   show gnum (splice m.b q (bts x 8)) (p : Nat) 8 = _
   by_cases e : p = q
   · subst e
     rw [if_pos rfl]
     exact gnum_set hpf.1 hu
   · rw [if_neg e]
     exact gnum_far (by omega) hpf.1 (by omega)
 have hlen : (m.put8 q x).b.length = m.b.length := splice_len _ _ _ (by omega)
 refine ⟨fun a ha => ?_, fun p hp => ?_, ?_⟩
 · have ha2 : a ∈ m.words ∨ a = q := by
     have ha' : a ∈ (if q < m.was.length then m.words ++ [q] else m.words) := ha
     split at ha'
     · rcases List.mem_append.1 ha' with h | h
       · exact .inl h
       · exact .inr (List.mem_singleton.1 h)
     · exact .inl ha'
   have hal : LinkG lo l a := ha2.elim (fun h => (F.safe a h).1) (fun e => e ▸ hq)
   refine ⟨(LinkG.map hg a).2 hal, ?_⟩
   show (m.was.length : Int) <= _
   rw [hw a hal]
   split
   · exact h1
   · exact (F.safe a (ha2.resolve_right (by assumption))).2
 · have hp2 := (LinkG.map hg p).1 hp
   rw [hw p hp2, hlen]
   split
   · exact h2
   · exact F.closed p hp2
 · obtain ⟨n, hn, hf⟩ := F.bound
   refine ⟨n, by rw [List.length_map]; exact hn, ?_⟩
   rw [<- List.map_take]
   exact hf.map fun r hr => ⟨(hg r (List.mem_of_mem_take hr)).1, (hg r (List.mem_of_mem_take hr)).2.2.1⟩
theorem Far.add (G : GB lo m.b l) (hlo : 256 <= lo) (F : Far lo m l) {n : GO} (G2 : GB lo (m.b ++ n.bs) (l ++ [n]))
 (hw : n.k ≠ 3 -> ∀ i, (n.k = 4 ∨ 1 <= i) -> i < n.ws.length -> n.ws.getD i 0 < (m.b.length + n.len : Nat)) (hi : n.k = 4 -> ∀ i, i < n.its.length -> n.its.getD i 0 < (m.b.length + n.len : Nat)) : Far lo (m.add n.bs) (l ++ [n]) := by
 have hlen : (m.add n.bs).b.length = m.b.length + n.len := List.length_append ..
 have hn : n ∈ l ++ [n] := by simp
 have hf := (G2.fine n hn).1
 refine ⟨fun a ha => ?_, fun p hp => ?_, ?_⟩
 · obtain ⟨h1, h2⟩ := F.safe a ha
   refine ⟨h1.add _, ?_⟩
   show (m.was.length : Int) <= gnum (m.b ++ n.bs) (a : Nat) 8
   rw [gnum_add (G.link_fit hlo h1).1]
   exact h2
 · rw [hlen]
   show gnum (m.b ++ n.bs) (p : Nat) 8 < _
   have old : LinkG lo l p -> gnum (m.b ++ n.bs) (p : Nat) 8 < (m.b.length + n.len : Nat) := fun h => by
     rw [gnum_add (G.link_fit hlo h).1]
     have := F.closed p h
     unfold IM.word at this
     omega
   rcases hp with h | h | ⟨r, hr, h⟩
   · exact old (.inl h)
   · exact old (.inr (.inl h))
   · rcases List.mem_append.1 hr with hr | hr
     · exact old (.inr (.inr ⟨r, hr, h⟩))
     · rw [List.mem_singleton.1 hr] at h
       have h3 := hf.kk
       rcases h with ⟨hk, i, i1, i2, rfl⟩ | ⟨hk, i, i1, i2, rfl⟩ | ⟨hk, rfl | ⟨i, hil, rfl⟩⟩
       · have := h3.2.1 hk
         rw [G2.word hn (by omega)]
         exact hw (by omega) i (.inr i1) (by omega)
       · have := h3.2.2.1 hk
         rw [G2.word hn (by omega)]
         exact hw (by omega) i (.inr i1) (by omega)
       · have := h3.2.2.2 hk
         rw [G2.word hn (by omega)]
         exact hw (by omega) 0 (.inl hk) (by omega)
       · have h4 := h3.2.2.2 hk
         have hraw : n.raw = [] := (hf.arr hk).1
         have h5 : HoldsB (m.b ++ n.bs) n.at_ (encO n.k n.ws [] n.its) := by
           have h9 := G2.held n hn
           have e9 : n.bs = encO n.k n.ws [] n.its := by unfold GO.bs; rw [hraw]
           rw [e9] at h9 ⊢
           exact h9
         have h7 := h5.item hil hf.is
         rw [h4] at h7
         have e : n.at_ + 24 + 8 * i = n.at_ + (16 + 8 * 1 + 8 * i) := by omega
         rw [e, h7]
         exact hi hk i hil
 · obtain ⟨k, hk, hf⟩ := F.bound
   refine ⟨k, by rw [List.length_append]; omega, ?_⟩
   rw [List.take_append_of_le_length hk]
   exact hf
theorem Far.done (G : GB lo m.b l) (F : Far lo m l) : Far lo m.done l :=
 ⟨fun a ha => (by cases ha), F.closed, l.length, Nat.le_refl _, by rw [List.take_length]; exact G.fill⟩
theorem GoodL.done (G : GB lo m.b l) (H : GoodL lo m l) : GoodL lo m.done l := ⟨H.toGood.done, H.far.done G⟩
theorem GoodL.fresh {b : List Int} {lim : Nat} (hb : AreB b) (G : GB lo b l) (hc : ∀ p, LinkG lo l p -> gnum b (p : Nat) 8 < b.length) : GoodL lo ⟨b, b, [], lim⟩ l :=
 ⟨IM.good_new hb lim, ⟨fun a ha => (by cases ha), hc, l.length, Nat.le_refl _, by rw [List.take_length]; exact G.fill⟩⟩
end
section
variable {fld : List Int -> List Int} {k d f : Int} {ex : Nat} {m : IM} {l : List GO}
theorem DB.far_word {nl nl2 ex2 : Nat} (H : DB fld k d f nl ex m.b l) {q : Nat} {x : Int} (H2 : DB fld k d f nl2 ex2 (splice m.b q (bts x 8)) (l.map (stP q x))) (hq : LinkG (newK d f) l q) (hu : IsU x) (hG : GoodL (newK d f) m l) (h1 : (m.was.length : Int) <= x) (h2 : x < m.b.length) :
 Far (newK d f) (m.put8 q x) (l.map (stP q x)) :=
 hG.far.put8 H.gb (newK_low d f H.hD H.hF).1 hq hu h1 h2 (H.gb.shp_stP H2.gb)
theorem DB.far_put {nl : Nat} (H : DB fld k d f nl ex m.b l) {q : GO} (hq : q ∈ l) (hk : q.k = 4) {i : Nat} (hi : i < q.its.length) {x : Int} (hu : IsU x) (hG : GoodL (newK d f) m l) (h1 : (m.was.length : Int) <= x) (h2 : x < m.b.length) :
 Far (newK d f) (m.put8 (q.at_ + 24 + 8 * i) x) (l.map (Go.Proofs.YtgcmbgniaffdlaaGreat.setI q.at_ i x)) :=
 hG.far.put8 H.gb (newK_low d f H.hD H.hF).1 (.inr (.inr ⟨q, hq, .inr (.inr ⟨hk, .inr ⟨i, hi, rfl⟩⟩)⟩)) hu h1 h2 (shp_setI H.gb hu)
theorem DB.far_new {nl nl2 ex2 : Nat} (H : DB fld k d f nl ex m.b l) {n : GO} (hn : n.Fine) (hat : n.at_ = m.b.length) (hm : m.b.length + n.len <= 1099511627776) {q : Nat}
 (H2 : DB fld k d f nl2 ex2 (splice (m.b ++ n.bs) q (bts (m.b.length : Nat) 8)) ((l ++ [n]).map (stP q (m.b.length : Nat)))) (hq : LinkG (newK d f) l q) (hG : GoodL (newK d f) m l)
 (hw : n.k ≠ 3 -> ∀ i, (n.k = 4 ∨ 1 <= i) -> i < n.ws.length -> n.ws.getD i 0 < (m.b.length + n.len : Nat)) (hi : n.k = 4 -> ∀ i, i < n.its.length -> n.its.getD i 0 < (m.b.length + n.len : Nat)) :
 Far (newK d f) ((m.add n.bs).put8 q (m.b.length : Nat)) ((l ++ [n]).map (stP q (m.b.length : Nat))) := by
 have h0 := (newK_low d f H.hD H.hF).1
 have G2 : GB (newK d f) (m.b ++ n.bs) (l ++ [n]) := H.gb.add hn hat hm
 have F := hG.far.add H.gb h0 G2 hw hi
 have hle := hG.le
 have hfr := hn.front
 refine F.put8 (m := m.add n.bs) G2 h0 (hq.add _) ⟨by omega, by omega⟩ ?_ ?_ (GB.shp_stP (b := m.b ++ n.bs) G2 H2.gb)
 · show (m.was.length : Int) <= (m.b.length : Nat)
   omega
 · show ((m.b.length : Nat) : Int) < ((m.b ++ n.bs).length : Nat)
   rw [List.length_append]
   show ((m.b.length : Nat) : Int) < ((m.b.length + n.len : Nat) : Int)
   omega
theorem arr_fine {rt a N : Nat} {x : Int} (hx : IsU x) (ha : a % 8 = 0) {n : GO} (hn : n = ⟨rt, a, 4, [0], [], x :: List.replicate (sizeC N - 1) 0⟩) : n.Fine := by
 obtain ⟨s1, s2⟩ := sizeC_bd N
 have hil : n.its.length = sizeC N := by rw [hn]; simp; omega
 refine ⟨?_, ?_, ?_, ?_, ?_⟩
 · rw [hil, hn]
   show rightN ((4 : Nat) : Int) 1 0 _ = true
   unfold rightN
   have e1 : hasI ((4 : Nat) : Int) = true := rfl
   have e2 : mostN ((4 : Nat) : Int) = 1024 := rfl
   have e3 : kwN ((4 : Nat) : Int) = 1 := rfl
   rw [e1, e2, e3]
   simp; omega
 · rw [hn]; intro z hz; rw [List.mem_singleton.1 hz]; exact ⟨by omega, by omega⟩
 · rw [hn]; intro z hz; cases hz
 · rw [hn]; intro z hz
   rcases List.mem_cons.1 hz with e | e
   · rw [e]; exact hx
   · rw [(List.mem_replicate.1 e).2]; exact ⟨by omega, by omega⟩
 · rw [hn]; exact ha
theorem DB.far_array (H : DB fld k d f 0 ex m.b l) {rt N : Nat} (hp : ArRoot l rt) {x : Int} (hx : IsU x) {n : GO} (hn : n = ⟨rt, m.b.length, 4, [0], [], x :: List.replicate (sizeC N - 1) 0⟩) (hm : m.b.length + n.len <= 1099511627776)
 {nl2 ex2 : Nat} (H2 : DB fld k d f nl2 ex2 (splice (m.b ++ n.bs) (lkG rt 0 (arrsG l rt)) (bts (m.b.length : Nat) 8)) ((l ++ [n]).map (stP (lkG rt 0 (arrsG l rt)) (m.b.length : Nat)))) (hG : GoodL (newK d f) m l) (h2 : x < m.b.length) :
 Far (newK d f) ((m.add n.bs).put8 (lkG rt 0 (arrsG l rt)) (m.b.length : Nat)) ((l ++ [n]).map (stP (lkG rt 0 (arrsG l rt)) (m.b.length : Nat))) := by
 have hq : LinkG (newK d f) l (lkG rt 0 (arrsG l rt)) := by
   have hxl : LP l rt 0 (pArr rt 0) (lkG rt 0 (l.filter (pArr rt 0))) := lkG_LP _ _ _
   rcases H.ar_LP hp hxl with ⟨h, -⟩ | ⟨r, hr, hk, -, h, -⟩ | ⟨r, hr, ⟨hk, -⟩, -, h⟩
   · exact .inl h
   · exact .inr (.inr ⟨r, hr, .inl ⟨hk, 4, by omega, by omega, h⟩⟩)
   · exact .inr (.inr ⟨r, hr, .inr (.inr ⟨hk, .inl h⟩)⟩)
 have hf := arr_fine hx H.gb.al hn
 have hfr := hf.front
 have hN : m.b.length < m.b.length + n.len := by omega
 refine H.far_new hf (by rw [hn]) hm H2 hq hG (fun _ i _ hi => ?_) (fun _ i hi => ?_) <;> clear H2 hm hfr hf <;> generalize m.b.length + n.len = N2 at hN ⊢
 · rw [hn] at hi ⊢
   have : i = 0 := by simp at hi; exact hi
   subst this
   show (0 : Int) < _
   omega
 · rw [hn]
   show (x :: List.replicate (sizeC N - 1) 0).getD i 0 < _
   cases i with
   | zero => show x < _; omega
   | succ i =>
     rw [List.getD_cons_succ, List.getD_eq_getElem?_getD, List.getElem?_replicate]
     split
     · show (0 : Int) < _; omega
     · show (0 : Int) < _; omega
theorem DB.far_table (H : DB fld k d f 0 ex m.b l) {kd : Nat} (hkd : kd = 1 ∨ kd = 2) {zs : List Int} (hz : AreB zs) (hrt : rightN kd (kwN kd) zs.length 0 = true) (hm : m.b.length + tlen kd zs.length <= 1099511627776) {nl2 ex2 : Nat}
 (H2 : DB fld k d f nl2 ex2 (addIM m l k d f kd zs).b (addG l k d f kd m.b.length zs)) (hG : GoodL (newK d f) m l) : Far (newK d f) (addIM m l k d f kd zs) (addG l k d f kd m.b.length zs) := by
 obtain ⟨g1, g2⟩ := bktN_eq H.hD H.hF (kd := kd) (hsh_isU k zs)
 have hfine : (⟨kd, zs, m.b.length⟩ : TRow).Fine := ⟨hkd, hrt, hz, H.gb.al⟩
 obtain ⟨n, hn⟩ : ∃ n, newG k kd m.b.length zs = n := ⟨_, rfl⟩
 have hnf : n.Fine := by
   rw [<- hn]
   exact ⟨hfine.rt k 0, tW_bd ⟨by omega, by omega⟩, hz, by simp [newG], H.gb.al⟩
 have hnl : n.len = tlen kd zs.length := by
   have h9 := tO_length (key := k) (z := 0) hfine
   rw [<- hn]
   unfold GO.len
   rw [newG_bs]
   exact h9
 have hq : LinkG (newK d f) l (lkT l k d f kd zs) := by
   have hxl : LP l (tb d kd + 8 * bktN d f kd (hsh k zs)) 1 (pBk k d f kd (bktN d f kd (hsh k zs)) 0) (lkT l k d f kd zs) := lkG_LP _ _ _
   have htb := tb_low H.hD H.hF g2
   rcases H.bk_LP hkd g2 hxl with ⟨h, h1⟩ | ⟨r, hr, ⟨hk, -⟩, -, h⟩
   · exact .inr (.inl ⟨by omega, h1, by omega⟩)
   · rcases hkd with rfl | rfl
     · exact .inr (.inr ⟨r, hr, .inl ⟨hk, 1, by omega, by omega, h⟩⟩)
     · exact .inr (.inr ⟨r, hr, .inr (.inl ⟨hk, 1, by omega, by omega, h⟩)⟩)
 have e4 : addIM m l k d f kd zs = (m.add n.bs).put8 (lkT l k d f kd zs) (m.b.length : Nat) := by
   unfold addIM
   rw [<- newG_bs, hn]
 have e5 : addG l k d f kd m.b.length zs = (l ++ [n]).map (stP (lkT l k d f kd zs) (m.b.length : Nat)) := by
   unfold addG
   rw [hn]
 rw [e4, e5] at H2 ⊢
 refine H.far_new hnf (by rw [<- hn]; rfl) (by rw [hnl]; exact hm) H2 hq hG (fun _ i h1 hi => ?_) (fun h4 => ?_)
 · have hk4 : n.k ≠ 4 := by rw [<- hn]; show kd ≠ 4; omega
   obtain ⟨i, rfl⟩ : ∃ j, i = j + 1 := ⟨i - 1, by rcases h1 with h | h; exact absurd h hk4; omega⟩
   have wz : n.ws.getD (i + 1) 0 = 0 := by
     rw [<- hn]
     show (hsh k zs :: 0 :: List.replicate (kwN kd - 2) 0).getD (i + 1) 0 = 0
     rw [List.getD_cons_succ]
     cases i with
     | zero => rfl
     | succ i =>
       rw [List.getD_cons_succ, List.getD_eq_getElem?_getD, List.getElem?_replicate]
       split <;> rfl
   have hfr := hnf.front
   rw [wz]
   omega
 · exfalso
   rw [<- hn] at h4
   have : kd = 4 := h4
   omega
end
end Go.Proofs.YtgcmbgniaffdlaaGreat
