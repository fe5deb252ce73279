/-
  LAYER 16: what an entry takes in a file that has none: Append to a list of nothing, Refer of a datum without entries: contracts.
-/
import Derived.Test.YtobbkhncnokpiaaGreatEnIns
set_option linter.unusedVariables false
set_option maxRecDepth 100000
set_option linter.unusedSimpArgs false
namespace Go.Proofs.YtobbkhncnokpiaaGreat
open Go.RowKit Go.Shelf

section
variable {fld : List Int → List Int} {base p : Nat} {S : Nat → Prop} {i k d f h : Int} {m : IM} {bv sv : Value} {ex : Nat} {l : List GO} {w : World}
set_option maxHeartbeats 1000000 in
theorem gappend_nil (x : Int) (hx : IsU x) (w : World) (D : DB fld k d f 0 ex m.b l) (H : IX w base S p i k d f h m bv sv) (hb : AreB m.b) (hlim : m.lim ≤ 1048576) (hN : m.words.length ≤ 1000000000) (hwl : m.was.length ≤ 1099511627776)
    {rt : Nat} (hp : ArRoot l rt) {Ld : List Int} (hLI : LI ((arrsG l rt).map GO.arow) Ld) (hmost : Ld.length ≤ 1000000000) (hnil : Ld = []) :
    Calls Tryz.prog 69 #[.pointer (some ⟨p, 0, none⟩), .int .i64 (rt : Nat), .int .u64 x] w fun e w' =>
      (x = 0 ∧ e = .returned (.int .i64 1) ∧ Below w.heap.size w w') ∨ (¬ x = 0 ∧ m.lim < m.b.length + 56 ∧ e = .returned (.int .i64 21) ∧ Below w.heap.size w w') ∨
      (¬ x = 0 ∧ e = .returned (.int .i64 0) ∧ ∃ m' l', IXT base S p i k d f h m' w w' ∧ Appended fld k d f ex m m' l l' rt Ld x ∧ m'.b.length ≤ m.b.length + 56) := by
  have hs := same2_G (arrsG l rt)
  have HL := D.listAt H hb hp hLI hmost
  have h0 := newK_low d f D.hD D.hF
  have hlk := (D.arrs rt hp).link_at D.gb (D.ar_root hp) D.ar_w
  have hfit : lkG rt 0 (arrsG l rt) + 8 ≤ m.b.length ∧ lkG rt 0 (arrsG l rt) % 8 = 0 := D.gb.root_fit hlk.1
  have hlow := D.gb.root_low (by omega) hlk.1
  have hlen : ((arrsG l rt).map GO.arow).length = (arrsG l rt).length := List.length_map ..
  have hput : ∀ t, ((arrsG l rt).map GO.it).getLast? = some t → (placesA t.is).length < t.is.length → ∃ c' q, arrsG l rt = c' ++ [q] ∧ t = q.it ∧ (placesA t.is).length = Ld.length - roomC c'.length := fun t ht hfr => by
    rcases List.eq_nil_or_concat (arrsG l rt) with e | ⟨c', q, e⟩
    · rw [e] at ht; simp at ht
    · rw [List.concat_eq_append] at e
      rw [e, List.map_append] at ht
      have e2 : q.it = t := by simpa using ht
      subst e2
      have h9 := hLI
      rw [e, List.map_append] at h9
      have h10 := (LI.last_places (c := c'.map GO.arow) (q := q.arow) h9).1
      rw [List.length_map] at h10
      exact ⟨c', q, e, rfl, h10⟩
  refine (cappend_any rt x hx w HL H hb D.hD D.hF D.gb.most hlim hN hwl (fun t ht hfr => ?_) (fun _ => ?_)).mono ?_
  · obtain ⟨c', q, e, rfl, hn⟩ := hput t ht hfr
    have hq := arrsG_mem (show q ∈ arrsG l rt by rw [e]; simp)
    obtain ⟨⟨a1, a2, a3⟩, -⟩ := aputG D e hLI hn hfr (x := 1) (by decide) ⟨by decide, by decide⟩
    have := D.gb.fine q hq.1
    have := this.1.al
    exact ⟨a2, by show q.at_ % 8 = 0; omega, by show 192 ≤ q.at_; omega, a1⟩
  · rw [lkI_map]
    exact ⟨hfit.1, hfit.2, hlow, hlk.2⟩
  · intro e w' hT
    have hfl : FullI ((arrsG l rt).map GO.it) → (arrsG l rt).length = 0 := fun h2 => by
      have hfull := hLI.full hs h2
      rw [hlen, hnil, List.length_nil] at hfull
      rcases Nat.eq_zero_or_pos (arrsG l rt).length with e | e
      · exact e
      · obtain ⟨q, hq⟩ : ∃ q, (arrsG l rt).length = q + 1 := ⟨_, (Nat.sub_add_cancel e).symm⟩
        rw [hq] at hfull
        have hz := (sizeC_bd q).1
        unfold roomC at hfull
        omega
    have hn8 : FullI ((arrsG l rt).map GO.it) → (encO 4 [0] [] (newA ((arrsG l rt).map GO.it).length x)).length ≤ 56 := fun h2 => by
      have e0 := hfl h2
      have e9 : ((arrsG l rt).map GO.it).length = 0 := by rw [List.length_map]; exact e0
      rw [e9]
      have hz : sizeC 0 = 4 := rfl
      have hnA : (newA 0 x).length = 4 := by unfold newA; rw [hz]; rfl
      have hr : rightN 4 ([0] : List Int).length ([] : List Int).length (newA 0 x).length = true := by rw [hnA]; rfl
      rw [encO_length hr, hnA]
      decide
    have hnl : (encO 4 [0] [] (newA ((arrsG l rt).map GO.it).length x)).length ≤ 8216 ∧ 0 < (encO 4 [0] [] (newA ((arrsG l rt).map GO.it).length x)).length := by
      generalize ((arrsG l rt).map GO.it).length = N
      have hz := sizeC_bd N
      have hnA : (newA N x).length = sizeC N := by
        unfold newA
        rw [List.length_cons, List.length_replicate]; omega
      have hr : rightN 4 ([0] : List Int).length ([] : List Int).length (newA N x).length = true := by
        rw [hnA]
        unfold rightN
        have e1 : hasI 4 = true := rfl
        have e2 : mostN 4 = 1024 := rfl
        have e3 : kwN 4 = 1 := rfl
        rw [e1, e2, e3]
        simp only [List.length_cons, List.length_nil]
        simp; omega
      rw [encO_length hr, hnA]
      unfold bareN
      have e4 : frontN 4 = 24 := rfl
      rw [e4, List.length_nil, Nat.add_zero, padn_alen]
      omega
    rcases hT with ⟨h1, h2, h3⟩ | ⟨h1, t, h2, h3, h4, h5⟩ | ⟨h1, h2, h3, h4, h5⟩ | ⟨h1, h2, h3, h4, h5⟩
    · exact .inl ⟨h1, h2, h3⟩
    · obtain ⟨c', q, e2, rfl, hn⟩ := hput t h2 h3
      have hq := arrsG_mem (show q ∈ arrsG l rt by rw [e2]; simp)
      obtain ⟨⟨a1, a2, a3⟩, a4, a5, a6⟩ := aputG D e2 hLI hn h3 h1 hx
      have hsl : (splice m.b (q.at_ + 24 + 8 * (placesA q.its).length) (bts x 8)).length = m.b.length := splice_len _ _ _ (by rw [bts8_length]; exact a2)
      have hid : ∀ r ∈ l, r.k ≠ 4 → setI q.at_ (placesA q.its).length x r = r := fun r hr hk => setI_ne fun e => hk (by rw [D.gb.one hr hq.1 e]; exact hq.2.1)
      have hlo2 := (D.gb.fine q hq.1).2.1
      have hlo3 : 192 ≤ q.at_ + 24 + 8 * (placesA q.its).length := by omega
      refine .inr (.inr ⟨h1, h4, _, _, h5, ⟨a4, splice_bytes hb (bts_bytes _ _) _, rfl, rfl, ?_, ?_, ?_, a5, a6, ⟨setI q.at_ (placesA q.its).length x, datG_map (fun r _ => setI_k _ _ _ _), fun o ho => ⟨setI_raw _ _ _ _, setI_at _ _ _ _, by rw [setI_ws]⟩⟩, ?_, fun hg => hg.put8 a2 a3 hlo3 a1⟩, by show (splice m.b (q.at_ + 24 + 8 * (placesA q.its).length) (bts x 8)).length ≤ _; omega⟩)
      · show (if _ then _ else _ : List Nat).length ≤ _
        split
        · simp
        · omega
      · show (splice m.b (q.at_ + 24 + 8 * (placesA q.its).length) (bts x 8)).length ≤ _; omega
      · show _ ≤ (splice m.b (q.at_ + 24 + 8 * (placesA q.its).length) (bts x 8)).length; omega
      · exact filter_k3 (fun r => setI_k _ _ _ _) (fun r hr hk => hid r hr (by omega))
    · have := hn8 h2
      exact .inr (.inl ⟨h1, by omega, h4, h5⟩)
    · have hfull := hLI.full hs h2
      rw [hlen] at hfull
      obtain ⟨n, hn⟩ : ∃ n : GO, n = ⟨rt, m.b.length, 4, [0], [], x :: List.replicate (sizeC (arrsG l rt).length - 1) 0⟩ := ⟨_, rfl⟩
      have hnb : n.bs = encO 4 [0] [] (newA ((arrsG l rt).map GO.it).length x) := by rw [hn, List.length_map]; rfl
      have hnlen : n.len = (encO 4 [0] [] (newA ((arrsG l rt).map GO.it).length x)).length := by unfold GO.len; rw [hnb]
      have hnk : n.k = 4 := by rw [hn]
      obtain ⟨a1, a2, a3, a4, a5, a6⟩ := anewG D hp hLI hfull h1 hx hn (by rw [hnlen]; have := hlim; omega) rfl
      have hsl : (splice (m.b ++ n.bs) (lkG rt 0 (arrsG l rt)) (bts (m.b.length : Nat) 8)).length = m.b.length + n.len := by
        rw [splice_len _ _ _ (by rw [bts8_length, List.length_append]; omega), List.length_append]; rfl
      have hnB : AreB n.bs := by rw [hnb]; exact encO_bytes (by intro z hz; cases hz)
      rw [lkI_map, ← hnb] at h5
      refine .inr (.inr ⟨h1, h4, _, _, h5, ⟨a2, splice_bytes (hb.append hnB) (bts_bytes _ _) _, rfl, rfl, ?_, ?_, ?_, a3, a4, ⟨stP (lkG rt 0 (arrsG l rt)) (m.b.length : Nat), ?_, fun o ho => ⟨stP_raw _ _ _, stP_at _ _ _, ?_⟩⟩, ?_, fun hg => (hg.add hnB).put8 (by show _ ≤ (m.b ++ n.bs).length; rw [List.length_append]; omega) hfit.2 hlow ((gnum_add hfit.1).trans hlk.2)⟩, by show (splice (m.b ++ n.bs) (lkG rt 0 (arrsG l rt)) (bts (m.b.length : Nat) 8)).length ≤ _; have := hn8 h2; omega⟩)
      · show (if _ then _ else _ : List Nat).length ≤ _
        split
        · simp [IM.add]
        · show m.words.length ≤ _; omega
      · show (splice (m.b ++ n.bs) (lkG rt 0 (arrsG l rt)) (bts (m.b.length : Nat) 8)).length ≤ _; omega
      · show _ ≤ (splice (m.b ++ n.bs) (lkG rt 0 (arrsG l rt)) (bts (m.b.length : Nat) 8)).length; omega
      · rw [datG_map (fun r _ => stP_k _ _ _), datG_snoc, if_neg (by omega)]
      · obtain ⟨g1, g2⟩ := datG_mem.1 ho
        exact a5 o g1 3 (by have := (D.gb.fine o g1).1.kk.2.1 g2; omega) (fun _ => by decide) (by omega)
      · rw [filter_k3 (fun r => stP_k _ _ _) (fun r hr hk => ?_), List.filter_append, List.filter_cons_of_neg (by rw [hnk]; decide), List.filter_nil, List.append_nil]
        rcases List.mem_append.1 hr with h9 | h9
        · exact a6 r h9 (by omega) (by omega)
        · rw [List.mem_singleton.1 h9] at hk; omega

end

section
variable {k d f : Int} {w w' : World} {base : Nat} {S : Nat → Prop} {p lim : Nat} {was : List Int} {R : List DR} {O : List GO} {Lr : List Int} {tl cnt : Nat}
/-- Append to the list of all, of a file without entries. -/
theorem listed_nil (x : Int) (hx : IsU x) (hx0 : ¬ x = 0) (h : EX k d f w base S p lim was R O Lr tl cnt) (hc : cnt ≤ 100000) (hln : Lr = []) :
    Calls Tryz.prog 69 #[.pointer (some ⟨p, 0, none⟩), .int .i64 192, .int .u64 x] w fun e w' =>
      (e = .returned (.int .i64 0) ∧ Chg S w w' ∧ EX k d f w' base (grow S w w') p lim was R O (Lr ++ [x]) (tl + 56) (cnt + 1)) ∨ (lim < tl + 56 ∧ e = .returned (.int .i64 21) ∧ Below w.heap.size w w') := by
  obtain ⟨⟨m, bv, sv, l, H, V, hg, rfl, rfl, htl, hcnt⟩, hsm, hk⟩ := id h
  refine (gappend_nil x hx w V.db H hg.bb hsm.1 (by omega) hsm.2.2 (rt := 192) (.inl rfl) V.root (by rw [hln]; simp) hln).mono ?_
  rintro e w' (⟨e1, -⟩ | ⟨-, e1, e2, e3⟩ | ⟨-, e1, m', l', hT, hA, hm⟩)
  · exact absurd e1 hx0
  · exact .inr ⟨by omega, e2, e3⟩
  · obtain ⟨hchg, hx⟩ := h.of hT (V.listed hA) (hA.good hg) hA.lim hA.was (tl' := tl + 56) (by omega) (cnt' := cnt + 1) (by have := hA.words; omega) (by omega)
    exact .inl ⟨e1, hchg, hx⟩
/-- Refer of a datum without entries: nothing is put. -/
theorem refer_nil (h : EX k d f w base S p lim was R O Lr tl cnt) {j : Nat} {r : DR} (hr : R[j]? = some r) (x : Int) (hx : IsU x) (hx0 : ¬ x = 0) (hc : cnt ≤ 100000) (hLn : r.L = []) :
    Calls Tryz.prog 68 #[.pointer (some ⟨p, 0, none⟩), .int .i64 r.at_, .int .u64 x] w fun e w' =>
      e = .returned (.int .i64 0) ∧ Chg S w w' ∧ EX k d f w' base (grow S w w') p lim was (R.set j { r with L := r.L ++ [x] }) O Lr tl (cnt + 1) := by
  obtain ⟨y, its0, Ld0, hID, -, hLE⟩ := h.dat hr (by rw [hLn]; simp)
  obtain ⟨⟨m, bv, sv, l, H, V, hg, rfl, rfl, htl, hcnt⟩, hsm, hk⟩ := id h
  have D := V.db
  obtain ⟨o, hoj, ho, hok, horaw, hoat, Ld, hLI, hE⟩ := V.rows.obj hr
  have hmost := D.gb.most
  have hof := D.gb.fine o ho
  have hfr := hof.1.front
  have hw5 := hof.1.kk.2.1 hok
  have hal := hof.1.al
  have h0 := newK_low d f D.hD D.hF
  have hlo := hof.2.1
  have hw40 : m.word ((r.at_ + 40 : Nat) : Int) = o.ws.getD 3 0 := by
    rw [← hoat]
    exact D.gb.word (i := 3) ho (by omega)
  have hy0 : y = 0 := by
    by_cases hy0 : y = 0
    · exact hy0
    · rw [hLE, entsL, if_neg hy0] at hLn; cases hLn
  have hyw : o.ws.getD 3 0 = 0 := by
    rcases hE with ⟨e1, -, -⟩ | ⟨-, e2⟩
    · exact e1
    · rw [hLn] at e2; cases e2
  have V2 := V.first hr hoj hLn hx hx0
  rw [hoat] at V2
  subst hy0
  have hz : gnum m.b (r.at_ + 40 : Nat) 8 = 0 := by
    have := D.gb.word (i := 3) ho (by omega)
    rw [hoat] at this
    exact this.trans hyw
  refine (referD_first (Q := fun wx w' => IXT base S p 0 k d f 0 (m.put8 (r.at_ + 40) x) wx w') x w hID hx0 fun wx hb => ?_).mono ?_
  · exact iset_yes (r.at_ + 40) x wx (H.below hb) hg.bb (by omega) (by omega) (by omega) hmost (by omega) hsm.2.2 (by rw [hw40]; exact hyw)
  · rintro e w' ⟨rfl, wx, hb, hT⟩
    have hT2 := IXT.step H.foot H.bas (Chg.of_below hb (Nat.le_refl _) S) (fun _ e => .inl e) hT
    obtain ⟨hchg, hx⟩ := h.of hT2 V2 (hg.put8 (by omega) (by omega) (by omega) hz) rfl rfl (tl' := tl) (by
      show (splice m.b _ _).length ≤ _
      rw [splice_len _ _ _ (by rw [bts8_length]; omega)]
      omega) (cnt' := cnt + 1) (by have := put8_words (m := m) (q := r.at_ + 40) (v := x); omega) (by omega)
    exact ⟨rfl, hchg, hx⟩
end

end Go.Proofs.YtobbkhncnokpiaaGreat
