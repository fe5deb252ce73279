/-
  LAYER 14: an image with two lists as the statements hold it; Append to it.
-/
import Derived.Test.YtblpmnipapimcaaChAppend
set_option linter.unusedVariables false
set_option maxRecDepth 100000
set_option linter.unusedSimpArgs false
namespace Go.Proofs.Ytblpmnipapimcaa
open Go.RowKit Go.Shelf

/-- What is told of a list's arrays, and the arrays. -/
def Same2 (its : List It) (c : List ARow) : Prop := its.map (fun t => (t.j, t.is)) = c.map (fun r => (r.at_, r.its))
theorem Same2.is {its : List It} {c : List ARow} (h : Same2 its c) : its.map (·.is) = c.map (·.its) := by
  have := congrArg (List.map Prod.snd) h
  rw [List.map_map, List.map_map] at this
  exact this
theorem Same2.len {its : List It} {c : List ARow} (h : Same2 its c) : its.length = c.length := by
  have := congrArg List.length h
  simpa using this
theorem Same2.last_none {its : List It} {c : List ARow} (h : Same2 its c) (hn : its.getLast? = none) : c = [] := by
  rw [List.getLast?_eq_none_iff] at hn
  have := h.len
  rw [hn] at this
  exact List.length_eq_zero_iff.1 this.symm
theorem Same2.last_some {its : List It} {c : List ARow} {t : It} (h : Same2 its c) (ht : its.getLast? = some t) : ∃ c' q, c = c' ++ [q] ∧ t.j = q.at_ ∧ t.is = q.its := by
  rcases List.eq_nil_or_concat c with rfl | ⟨c', q, rfl⟩
  · have := h.len
    rw [List.length_nil] at this
    rw [List.length_eq_zero_iff.1 this] at ht; simp at ht
  · refine ⟨c', q, by simp, ?_⟩
    have h1 := congrArg List.getLast? h
    rw [List.getLast?_map, List.getLast?_map, ht] at h1
    simp at h1
    exact h1
theorem lkI_eq {root : Nat} {its : List It} {c : List ARow} (h : Same2 its c) : lkI root its = linkA root c := by
  unfold lkI
  cases hc : its.getLast? with
  | none => rw [h.last_none hc]; rfl
  | some t =>
    obtain ⟨c', q, rfl, e, -⟩ := h.last_some hc
    simp [linkA, e]
/-- What stands in the last array. -/
theorem LI.last_places {c : List ARow} {q : ARow} {L : List Int} (h : LI (c ++ [q]) L) : (placesA q.its).length = L.length - roomC c.length ∧ q.its.length = sizeC c.length ∧ roomC c.length < L.length := by
  obtain ⟨h1, h2, h3, h4⟩ := h.last_at
  refine ⟨?_, h2, h1⟩
  rw [h4, placesA_all (fun x hx => h.nz x (List.mem_of_mem_drop hx)), List.length_drop]
theorem LI.full {c : List ARow} {its : List It} {L : List Int} (h : LI c L) (hs : Same2 its c) (hf : FullI its) : L.length = roomC c.length := by
  rcases List.eq_nil_or_concat c with rfl | ⟨c', q, rfl⟩
  · have := h.most
    simp [roomC] at this
    simp [this, roomC]
  · rw [List.concat_eq_append] at *
    obtain ⟨p1, p2, p3⟩ := h.last_places
    have hl : ∃ t, its.getLast? = some t := by
      cases hc : its.getLast? with
      | none => have := hs.last_none hc; simp at this
      | some t => exact ⟨t, rfl⟩
    obtain ⟨t, ht⟩ := hl
    obtain ⟨c2, q2, e, -, e2⟩ := hs.last_some ht
    have e3 : q2 = q := by
      have := congrArg List.getLast? e
      simpa using this.symm
    subst e3
    have := hf t ht
    rw [e2, p1, p2] at this
    have e5 : roomC (c' ++ [q2]).length = roomC c'.length + sizeC c'.length := by rw [List.length_append]; rfl
    omega

/-- Two lists in a file in memory. -/
structure CS (w : World) (base : Nat) (S : Nat → Prop) (p : Nat) (lim : Nat) (Ls : Nat → List Int) (As : Nat → Nat) (tl cnt : Nat) : Prop where
  ex : ∃ k m bv sv l, IX w base S p 0 k 2 2 0 m bv sv ∧ CB 288 roots2 2 m.b l ∧ AreB m.b ∧ m.lim = lim ∧ m.b.length = tl ∧ m.words.length ≤ cnt ∧ m.was.length ≤ 1099511627776 ∧ ∀ t, t < 2 → LI (chainA t l) (Ls t) ∧ (chainA t l).length = As t
  small : lim ≤ 1048576 ∧ cnt ≤ 1000000
  few : ∀ t, t < 2 → (Ls t).length ≤ cnt ∧ As t ≤ cnt

section
variable {w w' : World} {base p : Nat} {S : Nat → Prop} {lim : Nat} {Ls : Nat → List Int} {As : Nat → Nat} {tl cnt : Nat}

theorem CS.keep {T : Nat → Prop} (h : CS w base S p lim Ls As tl cnt) (hc : Chg T w w') (hT : ∀ j, S j → ¬ T j) : CS w' base S p lim Ls As tl cnt := by
  obtain ⟨⟨k, m, bv, sv, l, H, r⟩, hs, hf⟩ := h
  exact ⟨⟨k, m, bv, sv, l, H.keep hc hT, r⟩, hs, hf⟩
theorem CS.below (h : CS w base S p lim Ls As tl cnt) (hb : Below w.heap.size w w') : CS w' base S p lim Ls As tl cnt := h.keep (Chg.of_below hb (Nat.le_refl _) (fun _ => False)) (fun _ _ e => e)
theorem CS.foot (h : CS w base S p lim Ls As tl cnt) : ∀ j, S j → base ≤ j ∧ j < w.heap.size := by
  obtain ⟨⟨k, m, bv, sv, l, H, r⟩, hs, hf⟩ := h
  exact H.foot
theorem CS.bas (h : CS w base S p lim Ls As tl cnt) : base ≤ w.heap.size := by
  obtain ⟨⟨k, m, bv, sv, l, H, r⟩, hs, hf⟩ := h
  exact H.bas
theorem CS.mono {T : Nat → Prop} (h : CS w base S p lim Ls As tl cnt) (hS : ∀ j, S j → T j) (hT : ∀ j, T j → base ≤ j ∧ j < w.heap.size) : CS w base T p lim Ls As tl cnt := by
  obtain ⟨⟨k, m, bv, sv, l, H, r⟩, hs, hf⟩ := h
  exact ⟨⟨k, m, bv, sv, l, H.mono hS hT, r⟩, hs, hf⟩
theorem CS.mostT (h : CS w base S p lim Ls As tl cnt) : tl ≤ 1099511627776 := by
  obtain ⟨⟨k, m, bv, sv, l, H, T, -, -, e, -⟩, -, -⟩ := h
  rw [← e]; exact T.most
theorem CS.tail (h : CS w base S p lim Ls As tl cnt) : Calls Try.prog 8 #[.pointer (some ⟨p, 0, none⟩)] w fun e w' => e = .returned (.int .i64 tl) ∧ w = w' := by
  obtain ⟨⟨k, m, bv, sv, l, H, T, -, -, e, -⟩, -, -⟩ := h
  obtain ⟨A, c, rfl, -, -, -⟩ := H.reads
  rw [← e]
  exact itail_any p _ A c w (nine H.blk).1.2.2.2.2.2.2.1
/-- A list of it. -/
theorem CS.list (h : CS w base S p lim Ls As tl cnt) {t : Nat} (ht : t < 2) : ∃ its, ListAt w base p S (roots2 t : Nat) its (Ls t) ∧ its.length = As t ∧ (its.map fun u => (u.is.length : Int)) = (List.range (As t)).map (fun n => (sizeC n : Int)) := by
  obtain ⟨⟨k, m, bv, sv, l, H, T, hb, hlm, e, hw, hwas, hL⟩, hs, hf⟩ := h
  obtain ⟨hLI, hLn⟩ := hL t ht
  obtain ⟨its, hch, hsame⟩ := T.chain (D := 2) (F := 2) (m := m) (by decide) (by decide) ht
  have hs2 : Same2 its (chainA t l) := hsame
  have hU : IsU (m.word (roots2 t : Nat)) := linkedA_isU (T.chains t ht) (fun r hr => by
    have h1 := T.fine r (mem_chainA hr).1
    have := T.most
    have h3 : alen r.its.length = 24 + 8 * r.its.length := rfl
    omega)
  have hfw := hf t ht
  have hrt := T.rt t ht
  refine ⟨its, ⟨⟨0, k, 2, 2, 0, m, bv, sv, H, hb, T.most, by decide, by decide, hU, hch⟩, by omega, by omega, fun u hu => ?_, ?_, by have := hs2.len; omega⟩, by rw [hs2.len, hLn], ?_⟩
  · have h1 : u.is ∈ (chainA t l).map (·.its) := by rw [← hs2.is]; exact List.mem_map.2 ⟨u, hu, rfl⟩
    obtain ⟨r, hr, e⟩ := List.mem_map.1 h1
    have := (T.fine r (mem_chainA hr).1).1.len
    rw [← e]; omega
  · rw [hs2.is]; exact hLI.places.symm
  · have e1 : (its.map fun u => (u.is.length : Int)) = (chainA t l).map fun r => (r.its.length : Int) := by
      have := congrArg (List.map fun z : List Int => (z.length : Int)) hs2.is
      simpa [List.map_map, Function.comp_def] using this
    rw [e1, ← hLn]
    refine List.ext_getElem (by simp) fun j h1 h2 => ?_
    simp at h1
    rw [List.getElem_map, List.getElem_map, List.getElem_range, hLI.sized j _ (List.getElem?_eq_getElem h1)]

def updL (Ls : Nat → List Int) (t : Nat) (L : List Int) : Nat → List Int := fun u => if u = t then L else Ls u
def updN (As : Nat → Nat) (t n : Nat) : Nat → Nat := fun u => if u = t then n else As u

theorem apart_at {lo N : Nat} {roots : Nat → Nat} {b : List Int} {l : List ARow} (T : CB lo roots N b l) {r q : ARow} (hr : r ∈ l) (hq : q ∈ l) (hne : r ≠ q) : r.at_ ≠ q.at_ := fun e => by
  have hrf := T.fine r hr
  have hqf := T.fine q hq
  have h3 : alen r.its.length = 24 + 8 * r.its.length := rfl
  have h4 : alen q.its.length = 24 + 8 * q.its.length := rfl
  rcases apartA_of T.rise hr hq with e3 | h3 | h3
  · exact hne e3
  · omega
  · omega
/-- A place set in the last array of a list: the other arrays are as they were. -/
theorem chain_put {lo N : Nat} {roots : Nat → Nat} {b : List Int} {l : List ARow} (T : CB lo roots N b l) {t : Nat} {c' : List ARow} {q : ARow} (hc : chainA t l = c' ++ [q]) (i : Nat) (x : Int) :
    chainA t (l.map (putA q.at_ i x)) = c' ++ [{ q with its := q.its.set i x }] ∧ ∀ u, u ≠ t → chainA u (l.map (putA q.at_ i x)) = chainA u l := by
  have hq : q ∈ chainA t l := by rw [hc]; simp
  have hql := mem_chainA hq
  have hid : ∀ r ∈ l, r ≠ q → putA q.at_ i x r = r := fun r hr hne => by
    unfold putA; rw [if_neg (apart_at T hr hql.1 hne)]
  refine ⟨?_, fun u hu => ?_⟩
  · rw [chainA_map, hc, List.map_append, List.map_singleton]
    have e1 : putA q.at_ i x q = { q with its := q.its.set i x } := by unfold putA; rw [if_pos rfl]
    rw [e1]
    congr 1
    refine (List.map_congr_left fun r hr => ?_).trans (List.map_id _)
    have hr2 : r ∈ chainA t l := by rw [hc]; simp [hr]
    refine hid r (mem_chainA hr2).1 (fun e => ?_)
    have hp : (chainA t l).Pairwise (fun r r' => r.at_ + alen r.its.length ≤ r'.at_) := T.rise.filter _
    rw [hc, List.pairwise_append] at hp
    have := hp.2.2 r hr q (by simp)
    rw [e] at this
    have h3 : alen q.its.length = 24 + 8 * q.its.length := rfl
    omega
  · rw [chainA_map]
    refine (List.map_congr_left fun r hr => ?_).trans (List.map_id _)
    have hr2 := mem_chainA hr
    exact hid r hr2.1 (fun e => hu (by rw [← hr2.2, e, hql.2]))

/-- What Append tells of such a file, and what it leaves. -/
def CsTold (base : Nat) (S : Nat → Prop) (p lim : Nat) (Ls : Nat → List Int) (As : Nat → Nat) (tl cnt t : Nat) (x : Int) (w : World) (e : Ending) (w' : World) : Prop :=
  (x = 0 ∧ e = .returned (.int .i64 1) ∧ Below w.heap.size w w') ∨
  (¬ x = 0 ∧ (Ls t).length < roomC (As t) ∧ e = .returned (.int .i64 0) ∧ Chg S w w' ∧ CS w' base (grow S w w') p lim (updL Ls t (Ls t ++ [x])) As tl (cnt + 1)) ∨
  (¬ x = 0 ∧ (Ls t).length = roomC (As t) ∧ lim < tl + alen (sizeC (As t)) ∧ e = .returned (.int .i64 21) ∧ Below w.heap.size w w') ∨
  (¬ x = 0 ∧ (Ls t).length = roomC (As t) ∧ tl + alen (sizeC (As t)) ≤ lim ∧ e = .returned (.int .i64 0) ∧ Chg S w w' ∧ CS w' base (grow S w w') p lim (updL Ls t (Ls t ++ [x])) (updN As t (As t + 1)) (tl + alen (sizeC (As t))) (cnt + 1))

set_option maxHeartbeats 4000000 in
theorem cappend_cs (h : CS w base S p lim Ls As tl cnt) (hc1 : cnt + 1 ≤ 1000000) {t : Nat} (ht : t < 2) (x : Int) (hx : IsU x) :
    Calls Try.prog 9 #[.pointer (some ⟨p, 0, none⟩), .int .i64 (roots2 t : Nat), .int .u64 x] w (CsTold base S p lim Ls As tl cnt t x w) := by
  have h0 := h
  obtain ⟨⟨k, m, bv, sv, l, H, T, hb, rfl, rfl, hw, hwas, hL⟩, hs, hfw⟩ := h
  obtain ⟨hLI, hLn⟩ := hL t ht
  obtain ⟨its, hch, hsame⟩ := T.chain (D := 2) (F := 2) (m := m) (by decide) (by decide) ht
  have hs2 : Same2 its (chainA t l) := hsame
  have hU : IsU (m.word (roots2 t : Nat)) := linkedA_isU (T.chains t ht) (fun r hr => by
    have h1 := T.fine r (mem_chainA hr).1
    have := T.most
    have h3 : alen r.its.length = 24 + 8 * r.its.length := rfl
    omega)
  have hfwt := hfw t ht
  have hrt := T.rt t ht
  have hmost := T.most
  have hList : ListAt w base p S (roots2 t : Nat) its (Ls t) := by
    refine ⟨⟨0, k, 2, 2, 0, m, bv, sv, H, hb, T.most, by decide, by decide, hU, hch⟩, by omega, by omega, fun u hu => ?_, by rw [hs2.is]; exact hLI.places.symm, by have := hs2.len; omega⟩
    have h1 : u.is ∈ (chainA t l).map (·.its) := by rw [← hs2.is]; exact List.mem_map.2 ⟨u, hu, rfl⟩
    obtain ⟨r, hr, e⟩ := List.mem_map.1 h1
    have := (T.fine r (mem_chainA hr).1).1.len
    rw [← e]; omega
  have hlast : ∀ u, its.getLast? = some u → ∃ c' q, chainA t l = c' ++ [q] ∧ u.j = q.at_ ∧ u.is = q.its ∧ LI (c' ++ [q]) (Ls t) ∧ q ∈ l := fun u hu => by
    obtain ⟨c', q, e, e1, e2⟩ := hs2.last_some hu
    refine ⟨c', q, e, e1, e2, by rw [← e]; exact hLI, ?_⟩
    have : q ∈ chainA t l := by rw [e]; simp
    exact (mem_chainA this).1
  refine (cappend_any (roots2 t) x hx w hList H hb (by decide) (by decide) hmost hs.1 (by omega) hwas ?_ ?_).mono ?_
  · intro u hu hlt
    obtain ⟨c', q, e, e1, e2, hLq, hql⟩ := hlast u hu
    obtain ⟨p1, p2, p3⟩ := hLq.last_places
    have hqf := T.fine q hql
    have h3 : alen q.its.length = 24 + 8 * q.its.length := rfl
    rw [e2] at hlt ⊢
    rw [e1]
    have hal := hqf.1.al
    refine ⟨by omega, hal, by omega, ?_⟩
    obtain ⟨z, -, hh⟩ := linkedA_mem (T.chains t ht) (q := q) (by rw [e]; simp)
    have hw8 := aO_item (i := (placesA q.its).length) hqf.1 hh hlt
    show gnum m.b _ 8 = 0
    rw [hw8]
    exact (hLq.place hlt).2 (by omega)
  · intro hF
    rw [lkI_eq hs2]
    exact T.link ht
  · rintro e w' (⟨rfl, h1, h2⟩ | ⟨hx0, u, hu, hlt, rfl, h5⟩ | ⟨hx0, hF, h4, rfl, h5⟩ | ⟨hx0, hF, h4, rfl, h5⟩)
    · exact .inl ⟨rfl, h1, h2⟩
    · obtain ⟨c', q, e, e1, e2, hLq, hql⟩ := hlast u hu
      obtain ⟨p1, p2, p3⟩ := hLq.last_places
      have hqf := T.fine q hql
      have h3 : alen q.its.length = 24 + 8 * q.its.length := rfl
      rw [e2] at hlt h5
      rw [e1] at h5
      have hn : As t = c'.length + 1 := by rw [← hLn, e]; simp
      have hrm : roomC (As t) = roomC c'.length + sizeC c'.length := by rw [hn]; rfl
      have hltr : (Ls t).length < roomC (As t) := by omega
      refine .inr (.inl ⟨hx0, hltr, rfl, h5.1, ?_⟩)
      obtain ⟨hc5, bv5, sv5, H5⟩ := h5
      have hT := T.put hql hlt hx
      obtain ⟨g1, g2⟩ := chain_put T e (placesA q.its).length x
      refine ⟨⟨k, _, bv5, sv5, l.map (putA q.at_ (placesA q.its).length x), H5, hT, ?_, rfl, ?_, ?_, hwas, fun u hu => ?_⟩, ⟨hs.1, hc1⟩, fun u hu => ?_⟩
      · exact splice_bytes hb (bts_bytes _ _) _
      · exact put8_length (by have := hqf.2.2.2; omega)
      · show (if _ < m.was.length then m.words ++ [_] else m.words).length ≤ _
        split
        · rw [List.length_append]; simp; omega
        · omega
      · unfold updL
        by_cases hut : u = t
        · subst hut
          rw [if_pos rfl, g1]
          refine ⟨LI.put hLq (by omega) hx0 (by rw [p1]), by rw [← hLn, e]; simp⟩
        · rw [if_neg hut, g2 u hut]
          exact hL u hu
      · unfold updL
        have := hfw u hu
        split
        · rename_i e; subst e; rw [List.length_append]; simp; omega
        · omega
    · have hfl := hLI.full hs2 hF
      have hX : (encO 4 [0] [] (newA its.length x)).length = alen (sizeC (As t)) := by
        have hbd := sizeC_bd its.length
        have hfine : (⟨t, newA its.length x, 0⟩ : ARow).Fine := ⟨by simp [newA]; omega, fun y hy => by
          rcases List.mem_cons.1 hy with hy | hy
          · rw [hy]; exact hx
          · rw [(List.mem_replicate.1 hy).2]; exact ⟨by omega, by omega⟩, by show 0 % 8 = 0; rfl⟩
        have := aO_length (z := 0) hfine
        unfold aO at this
        rw [this, ← hLn, ← hs2.len]
        simp only [newA, List.length_cons, List.length_replicate]
        congr 1; omega
      rw [hX] at h4
      exact .inr (.inr (.inl ⟨hx0, by rw [hfl, hLn], h4, rfl, h5⟩))
    · have hfl := hLI.full hs2 hF
      have hbd := sizeC_bd its.length
      have hfine : (⟨t, newA its.length x, m.b.length⟩ : ARow).Fine := ⟨by simp [newA]; omega, fun y hy => by
        rcases List.mem_cons.1 hy with hy | hy
        · rw [hy]; exact hx
        · rw [(List.mem_replicate.1 hy).2]; exact ⟨by omega, by omega⟩, T.al⟩
      have hnl : (newA its.length x).length = sizeC (As t) := by
        rw [← hLn, ← hs2.len]; simp [newA]; omega
      have hX : (encO 4 [0] [] (newA its.length x)).length = alen (sizeC (As t)) := by
        have := aO_length (z := 0) hfine
        unfold aO at this
        rw [this, hnl]
      rw [hX] at h4
      refine .inr (.inr (.inr ⟨hx0, by rw [hfl, hLn], h4, rfl, h5.1, ?_⟩))
      obtain ⟨hc5, bv5, sv5, H5⟩ := h5
      rw [lkI_eq hs2] at H5
      have hT := T.add (r := ⟨t, newA its.length x, m.b.length⟩) hfine ht rfl (by show m.b.length + alen (newA its.length x).length ≤ _; rw [hnl]; have := hs.1; omega)
      obtain ⟨k1, k2, k3, k4⟩ := T.link ht
      have hxB : AreB (encO 4 [0] [] (newA its.length x)) := encO_bytes AreB.nil
      have hchain : ∀ u, chainA u (l ++ [⟨t, newA its.length x, m.b.length⟩]) = if u = t then chainA t l ++ [⟨t, newA its.length x, m.b.length⟩] else chainA u l := fun u => by
        rw [chainA_snoc]
        by_cases hut : u = t
        · subst hut; simp
        · rw [if_neg (fun e => hut e.symm), if_neg hut]
      refine ⟨⟨k, _, bv5, sv5, _, H5, hT, ?_, rfl, ?_, ?_, hwas, fun u hu => ?_⟩, ⟨hs.1, hc1⟩, fun u hu => ?_⟩
      · exact splice_bytes (hb.append hxB) (bts_bytes _ _) _
      · show (splice (m.b ++ encO 4 [0] [] (newA its.length x)) _ _).length = _
        rw [splice_len _ _ _ (by rw [List.length_append, bts8_length]; omega), List.length_append, hX]
      · show (if _ < m.was.length then m.words ++ [_] else m.words).length ≤ _
        split
        · rw [List.length_append]; simp; omega
        · show m.words.length ≤ _; omega
      · rw [hchain]
        unfold updL updN
        by_cases hut : u = t
        · subst hut
          rw [if_pos rfl, if_pos rfl, if_pos rfl]
          refine ⟨LI.new hLI hfl hx0 (by show newA its.length x = _; rw [hs2.len]; rfl), by rw [List.length_append, hLn]; rfl⟩
        · rw [if_neg hut, if_neg hut, if_neg hut]
          exact hL u hu
      · unfold updL updN
        have := hfw u hu
        split
        · rename_i e; subst e; rw [List.length_append]; simp; omega
        · omega
end

end Go.Proofs.Ytblpmnipapimcaa
