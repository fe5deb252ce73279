/-
  LAYER 15: the entries of a file's items as a statement holds them: Refer, Count, Nth, Search, Entries of a row.
-/
import Derived.Test.YtknimfnjmhmamaaGreatDaEntL
import Derived.Test.YtknimfnjmhmamaaGreatDaAwake
set_option linter.unusedVariables false
set_option maxRecDepth 100000
set_option linter.unusedSimpArgs false
namespace Go.Proofs.YtknimfnjmhmamaaGreat
open Go.RowKit Go.Shelf

section
variable {base p : Nat} {S : Nat → Prop} {a : Nat} {x : Int} {its : List It} {Ld : List Int}
/-- The entries of a datum, collected. -/
theorem lentries_yes (w : World) (h : IsDat p a x w) (hL : ListAt w base p S ((a + 48 : Nat) : Int) its Ld) (hln : (entsL x Ld).length ≤ 1000000) :
    Calls Tryz.prog 12 #[.pointer (some ⟨p, 0, none⟩), .int .i64 a] w fun e w' => ∃ v, e = .returned v ∧ w'.ownsRow w.heap.size 24 1 v (entsL x Ld).length (cellsOf .u64 (entsL x Ld)) ∧ Below w.heap.size w w' := by
  refine lentries_gen p a (entsL x Ld) w hln fun w1 hb hs => ?_
  refine (entries_any p a w1).mono ?_
  rintro e w' ⟨rfl, hb2, hen⟩
  have hs2 := hb2.size
  have hlo := hen.lo
  have hbw := hb.trans (hb2.mono hb.size)
  refine ⟨rfl, hb2, ?_⟩
  have hF := fun wx (hx : Below w'.heap.size w' wx) => firstD_yes p a x wx ((h.below hbw).below hx)
  have hft := hL.foot
  obtain ⟨⟨i, k, d, f, h', m, bv, sv, H, hbm, hl, hd, hf, hU, hch⟩, r2, r3, r4, r5, r6⟩ := hL
  by_cases hx : x = 0
  · subst hx
    have e1 : entsL 0 Ld = [] := if_pos rfl
    rw [e1]
    exact entries_N 8 (by omega) _ _ _ w' hen hF
  · have e1 : entsL x Ld = x :: Ld := if_neg hx
    rw [e1]
    have hnf : ∀ j, w1.heap.size ≤ j → ¬ fpR w.heap.size (.slice none 0 0) j := fun j hj e => by
      rcases e with e | e
      · omega
      · cases e
    exact entries_F 8 (by omega) _ _ a its w' (H.below hbw) hbm hl hd hf (fun j hj => ⟨by have := (hft j hj).2; have := hb.size; omega, fun e => by
      have := (hft j hj).2
      rcases e with e | e
      · omega
      · cases e⟩) hen ⟨hnf _ (Nat.le_refl _), hnf _ (by omega)⟩ h.small r4 hU hch Ld r5 x hx hF
theorem lentries_no (p : Nat) (at_ : Int) (w : World) (h : NotD p at_ w) :
    Calls Tryz.prog 12 #[.pointer (some ⟨p, 0, none⟩), .int .i64 at_] w fun e w' => ∃ A c, e = .returned (.slice A 0 c) ∧ Below w.heap.size w w' := by
  refine (lentries_gen p at_ [] w (by simp) fun w1 hb hs => ?_).mono ?_
  · refine (entries_any p at_ w1).mono ?_
    rintro e w' ⟨rfl, hb2, hen⟩
    exact ⟨rfl, hb2, entries_N 8 (by omega) _ _ _ w' hen (fun wx hx => firstD_no p at_ wx ((h.below (hb.trans (hb2.mono hb.size))).below hx))⟩
  · rintro e w' ⟨v, rfl, ho, hb⟩
    obtain ⟨A, c, rfl, -, -⟩ := own_form ho
    exact ⟨A, c, rfl, hb⟩
end

theorem monoY_rise {place : Int} {L : List Int} (h : L.Pairwise (· ≤ ·)) : MonoY (geQ place) L := by
  intro i j hij hj hq
  rcases Nat.lt_or_ge i j with h1 | h1
  · have h2 := List.pairwise_iff_getElem.1 h i j (by omega) hj h1
    have h3 : place ≤ L.getD i 0 := by simpa [geQ] using hq
    have e1 : L.getD i 0 = L[i]'(by omega) := by rw [List.getD_eq_getElem?_getD, List.getElem?_eq_getElem (by omega)]; rfl
    have e2 : L.getD j 0 = L[j]'hj := by rw [List.getD_eq_getElem?_getD, List.getElem?_eq_getElem hj]; rfl
    show decide (place ≤ L.getD j 0) = true
    rw [e2]
    rw [e1] at h3
    exact decide_eq_true (by omega)
  · have : i = j := by omega
    subst this; exact hq

section
variable {w : World} {base : Nat} {S : Nat → Prop} {p lim : Nat} {k d f : Int} {R : List DR} {tl cnt : Nat}

/-- A row, as Count, Nth, Search and Entries see it. -/
theorem DS.dat (h : DS fldI k d f w base S p lim R tl cnt) {j : Nat} {r : DR} (hr : R[j]? = some r) (hln : r.L.length ≤ 1000000) :
    ∃ x its Ld, IsDat p r.at_ x w ∧ ListAt w base p S ((r.at_ + 48 : Nat) : Int) its Ld ∧ r.L = entsL x Ld := by
  obtain ⟨⟨m, bv, sv, l, H, D, hR, hbm, hlm, htl, hcnt, hwas⟩, hsm, hk⟩ := h
  obtain ⟨o, -, ho, hok, horaw, hoat, Ld, hLI, hE⟩ := hR.obj hr
  have hmost := D.gb.most
  have hof := D.gb.fine o ho
  have hfr := hof.1.front
  have hw5 := hof.1.kk.2.1 hok
  have hrt : ArRoot l (o.at_ + 48) := .inr ⟨o, ho, hok, rfl⟩
  have hLE : r.L = entsL (o.ws.getD 3 0) Ld := by
    unfold entsL
    rcases hE with ⟨e1, e2, e3⟩ | ⟨e1, e2⟩
    · rw [if_pos e1]; exact e3
    · rw [if_neg e1]; exact e2
  have hLl : Ld.length ≤ 1000000 := by
    rcases hE with ⟨e1, e2, e3⟩ | ⟨e1, e2⟩
    · rw [e2]; simp
    · rw [e2, List.length_cons] at hln; omega
  have hLA := D.listAt H hbm hrt hLI (by omega)
  rw [hoat] at hLA
  refine ⟨o.ws.getD 3 0, _, Ld, ⟨by omega, fun wx hx => isD_yes r.at_ wx D (H.below hx) hbm hk ho hok hoat, fun wx hx => ?_⟩, hLA, hLE⟩
  have h9 := iword_any ((r.at_ + 40 : Nat) : Int) wx (H.below hx) hbm (by omega) (by omega)
  have e9 : m.word ((r.at_ + 40 : Nat) : Int) = o.ws.getD 3 0 := by
    rw [← hoat]
    exact D.gb.word (i := 3) ho (by omega)
  rw [e9] at h9
  exact h9
/-- What may be no datum's place. -/
theorem DS.notD (h : DS fldI k d f w base S p lim R tl cnt) (at_ pl : Int) (hpl : IntKind.u64.wrap at_ = pl) (h0 : 0 ≤ pl) (hp : pl < 256 ∨ 1099511627776 ≤ pl) : NotD p at_ w := by
  obtain ⟨⟨m, bv, sv, l, H, D, hR, hbm, hlm, htl, hcnt, hwas⟩, hsm, hk⟩ := h
  have hmost := D.gb.most
  intro wx hx
  refine isD_no at_ pl wx hpl fun wy hy => ?_
  have HY := (H.below hx).below hy
  rcases hp with hp | hp
  · exact iat_bare pl 1 wy HY hbm hmost D.hD D.hF h0 (.inl (by have := D.hD; have := D.hF; omega))
  · exact iat_out pl 1 wy HY hmost (by omega)

/-- WHAT Refer DOES, where there is room. -/
theorem refer_ds (h : DS fldI k d f w base S p lim R tl cnt) {j : Nat} {r : DR} (hr : R[j]? = some r) (x : Int) (hx : IsU x) (hx0 : ¬ x = 0) (hc : cnt ≤ 100000) (hln : r.L.length ≤ 100000) (hroom : tl + 8216 ≤ lim) :
    Calls Tryz.prog 9 #[.pointer (some ⟨p, 0, none⟩), .int .i64 r.at_, .int .u64 x] w fun e w' => e = .returned (.int .i64 0) ∧ Chg S w w' ∧ DS fldI k d f w' base (grow S w w') p lim (R.set j { r with L := r.L ++ [x] }) (tl + 8216) (cnt + 1) := by
  obtain ⟨y, its0, Ld0, hID, -, hLE⟩ := h.dat hr (by omega)
  obtain ⟨⟨m, bv, sv, l, H, D, hR, hbm, hlm, htl, hcnt, hwas⟩, hsm, hk⟩ := id h
  obtain ⟨o, hoj, ho, hok, horaw, hoat, Ld, hLI, hE⟩ := hR.obj hr
  have hmost := D.gb.most
  have hof := D.gb.fine o ho
  have hfr := hof.1.front
  have hw5 := hof.1.kk.2.1 hok
  have hal := hof.1.al
  have h0 := newK_low d f D.hD D.hF
  have hlo := hof.2.1
  have hrt : ArRoot l (o.at_ + 48) := .inr ⟨o, ho, hok, rfl⟩
  have hw40 : m.word ((r.at_ + 40 : Nat) : Int) = o.ws.getD 3 0 := by
    rw [← hoat]
    exact D.gb.word (i := 3) ho (by omega)
  have hyw : o.ws.getD 3 0 = y := by
    by_cases hy0 : y = 0
    · rw [hy0, entsL, if_pos rfl] at hLE
      rcases hE with ⟨e1, -, -⟩ | ⟨-, e2⟩
      · rw [e1, hy0]
      · rw [hLE] at e2; cases e2
    · rw [entsL, if_neg hy0] at hLE
      rcases hE with ⟨-, -, e3⟩ | ⟨-, e2⟩
      · rw [hLE] at e3; cases e3
      · rw [hLE] at e2; injection e2 with e2 _; exact e2.symm
  have fin : ∀ (wx w' : World) (m' : IM) (l' : List GO), Below w.heap.size w wx → IXT base S p 0 k d f 0 m' wx w' → DB fldI k d f 0 0 m'.b l' → Rows l' (R.set j { r with L := r.L ++ [x] }) → AreB m'.b → m'.lim = m.lim → m'.was = m.was → m'.words.length ≤ m.words.length + 1 → m'.b.length ≤ m.b.length + 8216 → Chg S w w' ∧ DS fldI k d f w' base (grow S w w') p lim (R.set j { r with L := r.L ++ [x] }) (tl + 8216) (cnt + 1) := fun wx w' m' l' hb hT hd hrr hbb hl hwa hwd hmo => by
    have hT2 := IXT.step H.foot H.bas (Chg.of_below hb (Nat.le_refl _) S) (fun _ e => .inl e) hT
    exact h.of hT2 hd hrr hbb (hl.trans hlm) (by omega) (by omega) (by rw [hwa]; exact hwas) (by omega)
  by_cases hy0 : y = 0
  · have hLn : r.L = [] := by rw [hLE, hy0]; exact if_pos rfl
    obtain ⟨D2, R2⟩ := D.firstIM hR hr hoj hLn hx hx0
    rw [hoat] at D2 R2
    subst hy0
    refine (referD_first (Q := fun wx w' => IXT base S p 0 k d f 0 (m.put8 (r.at_ + 40) x) wx w') x w hID hx0 fun wx hb => ?_).mono ?_
    · exact iset_yes (r.at_ + 40) x wx (H.below hb) hbm (by omega) (by omega) (by omega) hmost (by omega) hwas (by rw [hw40]; exact hyw)
    · rintro e w' ⟨rfl, wx, hb, hT⟩
      refine ⟨rfl, fin wx w' _ _ hb hT D2 (by rw [hLn]; exact R2) (splice_bytes hbm (bts_bytes _ _) _) rfl rfl put8_words ?_⟩
      show (splice m.b _ _).length ≤ _
      rw [splice_len _ _ _ (by rw [bts8_length]; omega)]
      omega
  · have hLc : r.L = y :: Ld := by
      rcases hE with ⟨e1, -, -⟩ | ⟨-, e2⟩
      · exact absurd (hyw.symm.trans e1) hy0
      · rw [hyw] at e2; exact e2
    have hLl : Ld.length ≤ 100000 := by rw [hLc, List.length_cons] at hln; omega
    refine (referD_more (Q := fun wx w' => ∃ m' l', IXT base S p 0 k d f 0 m' wx w' ∧ Appended fldI k d f 0 m m' l l' (o.at_ + 48) Ld x) x y w hID hx0 hy0 fun wx hb => ?_).mono ?_
    · have h9 := gappend_any x hx wx D (H.below hb) hbm (by rw [hlm]; exact hsm.1) (by omega) hwas hrt hLI (by omega)
      rw [hoat] at h9
      refine h9.mono ?_
      rintro e w' (⟨e1, -⟩ | ⟨-, e1, -⟩ | ⟨-, e1, m', l', hT, hA⟩)
      · exact absurd e1 hx0
      · omega
      · exact ⟨e1, m', l', hT, by rw [hoat]; exact hA⟩
    · rintro e w' ⟨rfl, wx, hb, m', l', hT, hA⟩
      have hj := (List.getElem?_eq_some_iff.1 hr).1
      have hRR : Rows l' (R.set j { r with L := r.L ++ [x] }) := hR.app hLI hA (List.length_set ..) (fun i o' s s' ho' hs hs' => by
        by_cases e : i = j
        · subst e
          have e1 : s = r := by rw [hr] at hs; exact (by simpa using hs.symm)
          have e2 : o' = o := by rw [hoj] at ho'; exact (by simpa using ho'.symm)
          subst e1
          subst e2
          rw [List.getElem?_set_self hj] at hs'
          have e3 : ({ s with L := s.L ++ [x] } : DR) = s' := by simpa using hs'
          subst e3
          exact ⟨rfl, rfl, .inr ⟨rfl, by rw [hLc]; simp, rfl⟩⟩
        · rw [List.getElem?_set_ne (fun e' => e e'.symm)] at hs'
          have e3 : s = s' := by rw [hs] at hs'; simpa using hs'
          subst e3
          refine ⟨rfl, rfl, .inl ⟨fun e9 => ?_, rfl⟩⟩
          have hp : (datG l).Pairwise (fun r r' => r.at_ + r.len ≤ r'.at_) := D.gb.rise.filter _
          obtain ⟨hi1, hi2⟩ := List.getElem?_eq_some_iff.1 ho'
          obtain ⟨hj1, hj2⟩ := List.getElem?_eq_some_iff.1 hoj
          have hpw := List.pairwise_iff_getElem.1 hp
          have hfo := (D.gb.fine o' (datG_mem.1 (List.mem_of_getElem? ho')).1).1.front
          rcases Nat.lt_or_ge i j with h1 | h1
          · have := hpw i j hi1 hj1 h1; rw [hi2, hj2] at this; omega
          · have := hpw j i hj1 hi1 (by omega); rw [hi2, hj2] at this; omega)
      exact ⟨rfl, fin wx w' m' l' hb hT hA.db hRR hA.by_ hA.lim hA.was hA.words hA.most⟩
end

end Go.Proofs.YtknimfnjmhmamaaGreat
