import Derived.Test.YtgcmbgniaffdlaaGreatLDc
import Derived.Test.YtgcmbgniaffdlaaGreatLDd
set_option linter.unusedVariables false
set_option maxRecDepth 100000
set_option linter.unusedSimpArgs false
namespace Go.Proofs.YtgcmbgniaffdlaaGreat
open Go.RowKit Go.Shelf
structure EV (k d f : Int) (b : List Int) (l : List GO) (R : List DR) (O : List GO) (Lr : List Int) : Prop where
 db : DB fldI k d f 0 0 b l
 rows : Rows l R
 ent : l.filter (fun r => r.k == 3) = O
 root : LI ((arrsG l 192).map GO.arow) Lr
 ahead : ∀ o ∈ O, ∀ x ∈ o.its, x < (o.at_ : Int)
section
variable {k d f : Int} {b b' : List Int} {l l' : List GO} {R : List DR} {O : List GO} {Lr : List Int}
theorem EV.kept {R' : List DR} (H : EV k d f b l R O Lr) (hd : DB fldI k d f 0 0 b' l') (hr : Rows l' R') (hk : KeptG l l') : EV k d f b' l' R' O Lr :=
 ⟨hd, hr, hk.ent.trans H.ent, by rw [hk.arr]; exact H.root, H.ahead⟩
theorem EV.ob_lt (H : EV k d f b l R O Lr) {o : GO} (ho : o ∈ O) : (o.at_ : Int) < b.length := by
 rw [<- H.ent] at ho
 have h1 := H.db.gb.fine o (List.mem_filter.1 ho).1
 have h2 := h1.1.front
 omega
theorem EV.came {m m' : IM} {zs : List Int} {q c : Nat} (H : EV k d f m.b l R O Lr) (C : Came k d f m l m' l' R zs 0 q c) : EV k d f m'.b l' (R ++ [⟨zs, m.b.length, []⟩]) O Lr :=
 H.kept C.db C.rows C.kept
theorem EV.entry (H : EV k d f b l R O Lr) {n : GO} (hn : n.Fine) (hk : n.k = 3) (hat : n.at_ = b.length) (hm : b.length + n.len <= 1099511627776) (hah : ∀ x ∈ n.its, x < (n.at_ : Int)) : EV k d f (b ++ n.bs) (l ++ [n]) R (O ++ [n]) Lr := by
 have D1 := H.db.add (ex' := 0) hn hat hm (fun h => by omega) (fun h => by omega) (fun _ => rfl) (fun h => by omega)
 have hnm : n ∈ l ++ [n] := by simp
 refine ⟨D1.free hnm rfl ⟨by omega, by omega⟩ (by omega), H.rows.add_other (by omega) (by omega), ?_, ?_, fun o ho => ?_⟩
 · rw [List.filter_append, H.ent, List.filter_cons_of_pos (by simp [hk]), List.filter_nil]
 · have e : arrsG (l ++ [n]) 192 = arrsG l 192 := by
     unfold arrsG
     rw [List.filter_append, List.filter_cons_of_neg (fun h => by have := (pArr_iff.1 h).1.1; omega), List.filter_nil, List.append_nil]
   rw [e]; exact H.root
 · rcases List.mem_append.1 ho with h | h
   · exact H.ahead o h
   · rw [List.mem_singleton.1 h]; exact hah
theorem EV.first {m : IM} (H : EV k d f m.b l R O Lr) {j : Nat} {r : DR} {o : GO} (hr : R[j]? = some r) (ho : (datG l)[j]? = some o) (hL : r.L = []) {x : Int} (hx : IsU x) (hx0 : ¬ x = 0) :
 EV k d f (m.put8 (o.at_ + 40) x).b (l.map (stP (o.at_ + 40) x)) (R.set j { r with L := r.L ++ [x] }) O Lr := by
  obtain ⟨D2, R2⟩ := H.db.firstIM H.rows hr ho hL hx hx0
  obtain ⟨hol, hok⟩ := datG_mem.1 (List.mem_of_getElem? ho)
  have hw : 3 < o.ws.length := by have := (H.db.gb.fine o hol).1.kk.2.1 hok; omega
  refine H.kept D2 (by rw [hL]; exact R2) (KeptG.set H.db.gb (.inr ⟨o, hol, by omega, 3, hw, rfl⟩) x)
theorem EV.more {m m' : IM} (H : EV k d f m.b l R O Lr) {j : Nat} {r : DR} {o : GO} (hr : R[j]? = some r) (ho : (datG l)[j]? = some o) {y : Int} {Ld : List Int} (hL : r.L = y :: Ld) {x : Int} (hLI : LI ((arrsG l (o.at_ + 48)).map GO.arow) Ld)
 (A : Appended fldI k d f 0 m m' l l' (o.at_ + 48) Ld x) : EV k d f m'.b l' (R.set j { r with L := r.L ++ [x] }) O Lr := by
 have hj := (List.getElem?_eq_some_iff.1 hr).1
 obtain ⟨hol, hok⟩ := datG_mem.1 (List.mem_of_getElem? ho)
 have h0 := newK_low d f H.db.hD H.db.hF
 have hlo := (H.db.gb.fine o hol).2.1
 refine ⟨A.db, ?_, A.ent.trans H.ent, by rw [A.far 192 (by omega)]; exact H.root, H.ahead⟩
 refine H.rows.app hLI A (List.length_set ..) (fun i o' s s' ho' hs hs' => ?_)
 by_cases e : i = j
 · subst e
   have e1 : s = r := by rw [hr] at hs; exact (by simpa using hs.symm)
   have e2 : o' = o := by rw [ho] at ho'; exact (by simpa using ho'.symm)
   subst e1
   subst e2
   rw [List.getElem?_set_self hj] at hs'
   have e3 : ({ s with L := s.L ++ [x] } : DR) = s' := by simpa using hs'
   subst e3
   exact ⟨rfl, rfl, .inr ⟨rfl, by rw [hL]; simp, rfl⟩⟩
 · rw [List.getElem?_set_ne (fun e' => e e'.symm)] at hs'
   have e3 : s = s' := by rw [hs] at hs'; simpa using hs'
   subst e3
   refine ⟨rfl, rfl, .inl ⟨fun e9 => ?_, rfl⟩⟩
   have hp : (datG l).Pairwise (fun r r' => r.at_ + r.len <= r'.at_) := H.db.gb.rise.filter _
   obtain ⟨hi1, hi2⟩ := List.getElem?_eq_some_iff.1 ho'
   obtain ⟨hj1, hj2⟩ := List.getElem?_eq_some_iff.1 ho
   have hpw := List.pairwise_iff_getElem.1 hp
   have hfo := (H.db.gb.fine o' (datG_mem.1 (List.mem_of_getElem? ho')).1).1.front
   have hfo2 := (H.db.gb.fine o hol).1.front
   rcases Nat.lt_or_ge i j with h1 | h1
   · have := hpw i j hi1 hj1 h1; rw [hi2, hj2] at this; omega
   · have := hpw j i hj1 hi1 (by omega); rw [hi2, hj2] at this; omega
theorem EV.listed {m m' : IM} (H : EV k d f m.b l R O Lr) {x : Int} (A : Appended fldI k d f 0 m m' l l' 192 Lr x) : EV k d f m'.b l' R O (Lr ++ [x]) := by
 have h0 := newK_low d f H.db.hD H.db.hF
 refine ⟨A.db, ?_, A.ent.trans H.ent, A.here, H.ahead⟩
 refine H.rows.app H.root A rfl (fun i o r r' ho hr hr' => ?_)
 have e : r = r' := by rw [hr] at hr'; simpa using hr'
 subst e
 obtain ⟨hol, hok⟩ := datG_mem.1 (List.mem_of_getElem? ho)
 have hlo := (H.db.gb.fine o hol).2.1
 exact ⟨rfl, rfl, .inl ⟨by omega, rfl⟩⟩
theorem EV.nothing (hD : 1 <= d /\ d <= 256) (hF : 1 <= f /\ f <= 256) (hdb : DB fldI k d f 0 0 b []) : EV k d f b [] [] [] [] :=
 ⟨hdb, Rows.nothing, rfl, LI.nil_, by simp⟩
end
structure EX (hI hM k d f : Int) (w : World) (base : Nat) (S : Nat -> Prop) (p lim : Nat) (was : List Int) (R : List DR) (O : List GO) (Lr : List Int) (tl cnt : Nat) : Prop where
 ex : ∃ m bv sv l, IX w base S p hI k d f hM m bv sv /\ EV k d f m.b l R O Lr /\ GoodL (newK d f) m l /\ m.lim = lim /\ m.was = was /\ m.b.length <= tl /\ m.words.length <= cnt
 small : lim <= 1048576 /\ cnt <= 1000000 /\ was.length <= 1099511627776
 key_ : IsU k
structure HX (hI hM k d f : Int) (w : World) (base : Nat) (S : Nat -> Prop) (p lim : Nat) (was : List Int) : Prop where
 ex : ∃ m bv sv, IX w base S p hI k d f hM m bv sv /\ m.Good /\ m.lim = lim /\ m.was = was /\ m.b.length <= 1099511627776 /\ m.words.length <= 1000000000
theorem referD_gen {a p : Nat} {Q : Int -> World -> World -> Prop} (x y : Int) (w : World) (h : IsDat p a y w) (hx : ¬ x = 0) (hy : ¬ y = 0)
 (hS : ∀ wx, Below w.heap.size w wx -> Calls Tryz.prog 94 #[.pointer (some ⟨p, 0, none⟩), .int .i64 (a + 48 : Nat), .int .u64 x] wx fun e w' => ∃ ec : Int, e = .returned (.int .i64 ec) /\ Q ec wx w') :
 Calls Tryz.prog 93 #[.pointer (some ⟨p, 0, none⟩), .int .i64 a, .int .u64 x] w fun e w' => ∃ ec : Int, e = .returned (.int .i64 ec) /\ ∃ wx, Below w.heap.size w wx /\ Q ec wx w' := by
 have hs := h.small
 have IS := Lib.hid (h.is w (Below.refl _ _))
 have WW := Lib.hid h.word
 have SE := Lib.hid hS
 have OA := Lib.hid (fun wx => oat_any 3 wx (by omega) (by omega))
 have RT := Lib.hid (fun wx => rootD_any a wx hs)
 have hx0 : (x == 0) = false := by simpa using hx
 have hy0 : (y == 0) = false := by simpa using hy
 obtain ⟨r, hr⟩ : ∃ r, a + 40 = r := ⟨_, rfl⟩
 have hw0 : (a : Int) + 40 = (r : Int) := by omega
 have hw1 : IntKind.i64.wrap (r : Int) = (r : Int) := by rw [IntKind.wrap_i64]; omega
 obtain ⟨r2, hr2⟩ : ∃ r2, a + 48 = r2 := ⟨_, rfl⟩
 rw [hr] at WW
 rw [hr2] at SE RT
 clear h hr hS hr2
 go_enter Tryz.func93, Tryz.ntmps93
 go_wp2_with (first
   | (go_at_call 126; refine IS.out.mono ?_; rintro e w1 ⟨rfl, hb1⟩)
   | (go_at_call 128; refine (OA.out _).mono ?_; rintro e w2 ⟨rfl, rfl⟩)
   | (go_at_call 127; refine (WW.out _ hb1).mono ?_; rintro e w2 ⟨rfl, rfl⟩)
   | (go_at_call 74; refine (RT.out _).mono ?_; rintro e w2 ⟨rfl, rfl⟩)
   | (go_at_call 94; refine (SE.out _ hb1).mono ?_; rintro e w3 ⟨ec, rfl, hq⟩))
 go_ret
 exact ⟨_, rfl, _, hb1, hq⟩
section
variable {hI hM k d f : Int} {w w' : World} {base : Nat} {S : Nat -> Prop} {p lim : Nat} {was : List Int} {R : List DR} {O : List GO} {Lr : List Int} {tl cnt : Nat}
theorem EX.keep {T : Nat -> Prop} (h : EX hI hM k d f w base S p lim was R O Lr tl cnt) (hc : Chg T w w') (hT : ∀ j, S j -> ¬ T j) : EX hI hM k d f w' base S p lim was R O Lr tl cnt := by
 obtain ⟨⟨m, bv, sv, l, H, r⟩, hs, hk⟩ := h
 exact ⟨⟨m, bv, sv, l, H.keep hc hT, r⟩, hs, hk⟩
theorem EX.below (h : EX hI hM k d f w base S p lim was R O Lr tl cnt) (hb : Below w.heap.size w w') : EX hI hM k d f w' base S p lim was R O Lr tl cnt := h.keep (Chg.of_below hb (Nat.le_refl _) (fun _ => False)) (fun _ _ e => e)
theorem EX.foot (h : EX hI hM k d f w base S p lim was R O Lr tl cnt) : ∀ j, S j -> base <= j /\ j < w.heap.size := by
 obtain ⟨⟨m, bv, sv, l, H, r⟩, hs, hk⟩ := h
 exact H.foot
theorem EX.bas (h : EX hI hM k d f w base S p lim was R O Lr tl cnt) : base <= w.heap.size := by
 obtain ⟨⟨m, bv, sv, l, H, r⟩, hs, hk⟩ := h
 exact H.bas
theorem EX.mono {T : Nat -> Prop} (h : EX hI hM k d f w base S p lim was R O Lr tl cnt) (hS : ∀ j, S j -> T j) (hT : ∀ j, T j -> base <= j /\ j < w.heap.size) : EX hI hM k d f w base T p lim was R O Lr tl cnt := by
 obtain ⟨⟨m, bv, sv, l, H, r⟩, hs, hk⟩ := h
 exact ⟨⟨m, bv, sv, l, H.mono hS hT, r⟩, hs, hk⟩
theorem EX.more {tl' cnt' : Nat} (h : EX hI hM k d f w base S p lim was R O Lr tl cnt) (ht : tl <= tl') (hc : cnt <= cnt') (hc2 : cnt' <= 1000000) : EX hI hM k d f w base S p lim was R O Lr tl' cnt' := by
 obtain ⟨⟨m, bv, sv, l, h1, h2, h3, h4, h5, h6, h7⟩, hs, hk⟩ := h
 exact ⟨⟨m, bv, sv, l, h1, h2, h3, h4, h5, by omega, by omega⟩, ⟨hs.1, hc2, hs.2.2⟩, hk⟩
theorem EX.half (h : EX hI hM k d f w base S p lim was R O Lr tl cnt) : HX hI hM k d f w base S p lim was := by
 obtain ⟨⟨m, bv, sv, l, h1, h2, h3, h4, h5, h6, h7⟩, hs, hk⟩ := h
 exact ⟨⟨m, bv, sv, h1, h3.toGood, h4, h5, h2.db.gb.most, by omega⟩⟩
theorem EX.of {m : IM} {l : List GO} {R' : List DR} {O' : List GO} {Lr' : List Int} {tl' cnt' : Nat} (h : EX hI hM k d f w base S p lim was R O Lr tl cnt) (hT : IXT base S p hI k d f hM m w w') (hv : EV k d f m.b l R' O' Lr') (hg : GoodL (newK d f) m l) (hl : m.lim = lim) (hw : m.was = was) (ht : m.b.length <= tl') (hn : m.words.length <= cnt') (hc : cnt' <= 1000000) :
 Chg S w w' /\ EX hI hM k d f w' base (grow S w w') p lim was R' O' Lr' tl' cnt' := by
 obtain ⟨hchg, bv, sv, H⟩ := hT
 exact ⟨hchg, ⟨⟨m, bv, sv, l, H, hv, hg, hl, hw, ht, hn⟩, ⟨h.small.1, hc, h.small.2.2⟩, h.key_⟩⟩
theorem EX.dat (h : EX hI hM k d f w base S p lim was R O Lr tl cnt) {j : Nat} {r : DR} (hr : R[j]? = some r) (hln : r.L.length <= 1000000) :
 ∃ x its Ld, IsDat p r.at_ x w /\ ListAt w base p S ((r.at_ + 48 : Nat) : Int) its Ld /\ r.L = entsL x Ld := by
 obtain ⟨⟨m, bv, sv, l, H, V, hg, hl, hw, htl, hcnt⟩, hsm, hk⟩ := h
 have h9 : DS fldI hI hM k d f w base S p lim R m.b.length m.words.length := ⟨⟨m, bv, sv, l, H, V.db, V.rows, hg.bb, hl, Nat.le_refl _, Nat.le_refl _, by rw [hw]; exact hsm.2.2⟩, ⟨hsm.1, by omega⟩, hk⟩
 exact h9.dat hr hln
theorem EX.all (h : EX hI hM k d f w base S p lim was R O Lr tl cnt) (hln : Lr.length <= 1000000000) : ∃ its, ListAt w base p S (192 : Int) its Lr := by
 obtain ⟨⟨m, bv, sv, l, H, V, hg, hl, hw, htl, hcnt⟩, hsm, hk⟩ := h
 exact ⟨_, V.db.listAt H hg.bb (.inl rfl) V.root hln⟩
theorem listed_ex (x : Int) (hx : IsU x) (hx0 : ¬ x = 0) (h : EX hI hM k d f w base S p lim was R O Lr tl cnt) (hc : cnt <= 100000) (hln : Lr.length <= 1000000000) (hxo : ∃ o ∈ O, x = (o.at_ : Int) /\ was.length <= o.at_) :
 Calls Tryz.prog 94 #[.pointer (some ⟨p, 0, none⟩), .int .i64 192, .int .u64 x] w fun e w' =>
 (e = .returned (.int .i64 0) /\ Chg S w w' /\ EX hI hM k d f w' base (grow S w w') p lim was R O (Lr ++ [x]) (tl + 8216) (cnt + 1)) ∨ (lim < tl + 8216 /\ e = .returned (.int .i64 21) /\ Below w.heap.size w w') := by
 obtain ⟨⟨m, bv, sv, l, H, V, hg, rfl, rfl, htl, hcnt⟩, hsm, hk⟩ := id h
 refine (gappend_any x hx w V.db H hg.bb hsm.1 (by omega) hsm.2.2 (rt := 192) (.inl rfl) V.root hln).mono ?_
 rintro e w' (⟨e1, -⟩ | ⟨-, e1, e2, e3⟩ | ⟨-, e1, m', l', hT, hA⟩)
 · exact absurd e1 hx0
 · exact .inr ⟨by omega, e2, e3⟩
 · obtain ⟨oe, hoe, hxe, hle⟩ := hxo
   obtain ⟨hchg, hx⟩ := h.of hT (V.listed hA) (hA.goodL (by omega) (by rw [hxe]; exact V.ob_lt hoe) hg) hA.lim hA.was (tl' := tl + 8216) (by have := hA.most; omega) (cnt' := cnt + 1) (by have := hA.words; omega) (by omega)
   exact .inl ⟨e1, hchg, hx⟩
theorem refer_ex (h : EX hI hM k d f w base S p lim was R O Lr tl cnt) {j : Nat} {r : DR} (hr : R[j]? = some r) (x : Int) (hx : IsU x) (hx0 : ¬ x = 0) (hc : cnt <= 100000) (hln : r.L.length <= 100000) (hxo : ∃ o ∈ O, x = (o.at_ : Int) /\ was.length <= o.at_) :
 Calls Tryz.prog 93 #[.pointer (some ⟨p, 0, none⟩), .int .i64 r.at_, .int .u64 x] w fun e w' =>
 (e = .returned (.int .i64 0) /\ Chg S w w' /\ EX hI hM k d f w' base (grow S w w') p lim was (R.set j { r with L := r.L ++ [x] }) O Lr (tl + 8216) (cnt + 1)) ∨ (lim < tl + 8216 /\ e = .returned (.int .i64 21) /\ Below w.heap.size w w') := by
 obtain ⟨y, its0, Ld0, hID, -, hLE⟩ := h.dat hr (by omega)
 obtain ⟨⟨m, bv, sv, l, H, V, hg, rfl, rfl, htl, hcnt⟩, hsm, hk⟩ := id h
 have D := V.db
 obtain ⟨o, hoj, ho, hok, horaw, hoat, Ld, hLI, hE⟩ := V.rows.obj hr
 have hmost := D.gb.most
 have hof := D.gb.fine o ho
 have hfr := hof.1.front
 have hw5 := hof.1.kk.2.1 hok
 have hal := hof.1.al
 have h0 := newK_low d f D.hD D.hF
 have hlo := hof.2.1
 obtain ⟨oe, hoe, hxe, hle⟩ := hxo
 have hxb : x < m.b.length := by rw [hxe]; exact V.ob_lt hoe
 have hxw : (m.was.length : Int) <= x := by omega
 have hrt : ArRoot l (o.at_ + 48) := .inr ⟨o, ho, hok, rfl⟩
 have hw40 : m.word ((r.at_ + 40 : Nat) : Int) = o.ws.getD 3 0 := by
   rw [<- hoat]
   exact D.gb.word (i := 3) ho (by omega)
 have hyw : o.ws.getD 3 0 = y := by
   by_cases hy0 : y = 0
   · rw [hy0, entsL, if_pos rfl] at hLE
     rcases hE with ⟨e1, -, -⟩ | ⟨-, e2⟩
     · rw [e1, hy0]
     · rw [hLE] at e2; cases e2
   · rw [entsL, if_neg hy0] at hLE
     rcases hE with ⟨-, -, e3⟩ | ⟨-, e2⟩
     · rw [hLE] at e3; cases e3
     · rw [hLE] at e2; injection e2 with e2 _; exact e2.symm
 by_cases hy0 : y = 0
 · have hLn : r.L = [] := by rw [hLE, hy0]; exact if_pos rfl
   have V2 := V.first hr hoj hLn hx hx0
   rw [hoat] at V2
   subst hy0
   have hz : gnum m.b (r.at_ + 40 : Nat) 8 = 0 := by
     have := D.gb.word (i := 3) ho (by omega)
     rw [hoat] at this
     exact this.trans hyw
   refine (referD_first (Q := fun wx w' => IXT base S p hI k d f hM (m.put8 (r.at_ + 40) x) wx w') x w hID hx0 fun wx hb => ?_).mono ?_
   · exact iset_yes (r.at_ + 40) x wx (H.below hb) hg.bb (by omega) (by omega) (by omega) hmost (by omega) hsm.2.2 (by rw [hw40]; exact hyw)
   · rintro e w' ⟨rfl, wx, hb, hT⟩
     left
     have hT2 := IXT.step H.foot H.bas (Chg.of_below hb (Nat.le_refl _) S) (fun _ e => .inl e) hT
     obtain ⟨hchg, hx⟩ := h.of hT2 V2 ⟨hg.toGood.put8 (by omega) (by omega) (by omega) hz, D.far_word V2.db (.inr (.inr ⟨o, ho, .inl ⟨hok, 3, by omega, by omega, by omega⟩⟩)) hx hg hxw hxb⟩ rfl rfl (tl' := tl + 8216) (by
       show (splice m.b _ _).length <= _
       rw [splice_len _ _ _ (by rw [bts8_length]; omega)]
       omega) (cnt' := cnt + 1) (by have := put8_words (m := m) (q := r.at_ + 40) (v := x); omega) (by omega)
     exact ⟨rfl, hchg, hx⟩
 · have hLc : r.L = y :: Ld := by
     rcases hE with ⟨e1, -, -⟩ | ⟨-, e2⟩
     · exact absurd (hyw.symm.trans e1) hy0
     · rw [hyw] at e2; exact e2
   have hLl : Ld.length <= 100000 := by rw [hLc, List.length_cons] at hln; omega
   refine (referD_gen (Q := fun ec wx w' => (ec = 0 /\ ∃ m' l', IXT base S p hI k d f hM m' wx w' /\ Appended fldI k d f 0 m m' l l' (o.at_ + 48) Ld x) ∨ (ec = 21 /\ m.lim < m.b.length + 8216 /\ Below wx.heap.size wx w')) x y w hID hx0 hy0 fun wx hb => ?_).mono ?_
   · have h9 := gappend_any x hx wx D (H.below hb) hg.bb hsm.1 (by omega) hsm.2.2 hrt hLI (by omega)
     rw [hoat] at h9
     refine h9.mono ?_
     rintro e w' (⟨e1, -⟩ | ⟨-, e1, e2, e3⟩ | ⟨-, e1, m', l', hT, hA⟩)
     · exact absurd e1 hx0
     · exact ⟨21, e2, .inr ⟨rfl, e1, e3⟩⟩
     · exact ⟨0, e1, .inl ⟨rfl, m', l', hT, by rw [hoat]; exact hA⟩⟩
   · rintro e w' ⟨ec, rfl, wx, hb, ⟨rfl, m', l', hT, hA⟩ | ⟨rfl, e1, hb2⟩⟩
     · left
       have hT2 := IXT.step H.foot H.bas (Chg.of_below hb (Nat.le_refl _) S) (fun _ e => .inl e) hT
       obtain ⟨hchg, hx⟩ := h.of hT2 (V.more hr hoj hLc hLI hA) (hA.goodL hxw hxb hg) hA.lim hA.was (tl' := tl + 8216) (by have := hA.most; omega) (cnt' := cnt + 1) (by have := hA.words; omega) (by omega)
       exact ⟨rfl, hchg, hx⟩
     · exact .inr ⟨by omega, rfl, hb.trans (hb2.mono hb.size)⟩
end
section
variable {k d f : Int} {w w' : World} {base : Nat} {S : Nat -> Prop} {p lim : Nat} {was : List Int} {R : List DR} {O : List GO} {Lr : List Int} {tl cnt : Nat}
end
section
variable {hI hM k d f : Int} {w w' : World} {base : Nat} {S : Nat -> Prop} {p lim : Nat} {was : List Int} {R : List DR} {O : List GO} {Lr : List Int} {tl cnt : Nat}
theorem EX.entry_mem (h : EX hI hM k d f w base S p lim was R O Lr tl cnt) {o : GO} (ho : o ∈ O) : o.k = 3 /\ o.at_ <= 1099511627776 /\ 256 <= o.at_ /\ o.its.length <= 1024 /\ o.ws.length = 5 /\ (∀ z ∈ o.its, 0 <= z /\ z < 18446744073709551616) /\ (∀ z ∈ o.ws, 0 <= z /\ z < 18446744073709551616) := by
 obtain ⟨⟨m, bv, sv, l, H, V, hg, hl, hw, htl, hcnt⟩, hsm, hk⟩ := h
 rw [<- V.ent] at ho
 obtain ⟨hol, ok⟩ := List.mem_filter.1 ho
 have ok3 : o.k = 3 := by simpa using ok
 have h0 := newK_low d f V.db.hD V.db.hF
 have hfi := V.db.gb.fine o hol
 have hwl := hfi.1.wl
 have hlx := rightN_len hfi.1.right
 rw [ok3] at hwl
 have hmost := V.db.gb.most
 exact ⟨ok3, by have := hfi.2.2; omega, by have := hfi.2.1; omega, by omega, hwl, hfi.1.is, hfi.1.us⟩
theorem EX.entry_at (h : EX hI hM k d f w base S p lim was R O Lr tl cnt) {o : GO} (ho : o ∈ O) :
 Calls Tryz.prog 109 #[.pointer (some ⟨p, 0, none⟩), .int .u64 (o.at_ : Nat), .int .i64 3] w fun e w' => ∃ A1 n1 c1 A2 n2 c2 A3 n3 c3, e = .returned (.tuple #[.agg #[.int .i64 3, .slice A1 n1 c1, .slice A2 n2 c2, .slice A3 n3 c3], .bool true]) /\ Below w.heap.size w w' /\
 Reads w' w'.heap.size 1 A1 n1 (cellsOf .u64 o.ws) /\ Reads w' w'.heap.size 1 A3 n3 (cellsOf .u64 o.its) := by
 have hem := h.entry_mem ho
 obtain ⟨⟨m, bv, sv, l, H, V, hg, hl, hw, htl, hcnt⟩, hsm, hk⟩ := h
 rw [<- V.ent] at ho
 obtain ⟨hol, -⟩ := List.mem_filter.1 ho
 obtain ⟨s, hth, e1, e2, e3⟩ := V.db.obAt hol
 have h9 := iat_yes o.at_ o.k s w H hg.bb V.db.gb.most V.db.hD V.db.hF hth
 have e4 : dW (objB m.b o.at_ s) ((o.k : Nat) : Int) = o.ws := e1
 have e5 : dI (objB m.b o.at_ s) ((o.k : Nat) : Int) = o.its := e3
 rw [hem.1] at h9 e4 e5
 refine h9.mono ?_
 rintro e w2 ⟨A1, n1, c1', A2, n2, c2', A3, n3, c3', rfl, hb2, hown⟩
 refine ⟨A1, n1, c1', A2, n2, c2', A3, n3, c3', rfl, hb2, ?_, ?_⟩
 · have h8 := hown.reads.wr
   rw [show dW (objB m.b o.at_ s) ((3 : Nat) : Int) = o.ws from e4] at h8
   exact h8
 · have h8 := hown.reads.ir
   rw [show dI (objB m.b o.at_ s) ((3 : Nat) : Int) = o.its from e5] at h8
   exact h8
theorem EX.datum_at (h : EX hI hM k d f w base S p lim was R O Lr tl cnt) {j : Nat} {r : DR} (hr : R[j]? = some r) :
 Calls Tryz.prog 109 #[.pointer (some ⟨p, 0, none⟩), .int .u64 (r.at_ : Nat), .int .i64 1] w fun e w' => ∃ A1 n1 c1 A2 n2 c2 A3 n3 c3, e = .returned (.tuple #[.agg #[.int .i64 1, .slice A1 n1 c1, .slice A2 n2 c2, .slice A3 n3 c3], .bool true]) /\ Below w.heap.size w w' /\
 Reads w' w'.heap.size 1 A2 n2 (cellsOf .u8 r.item) := by
 obtain ⟨⟨m, bv, sv, l, H, V, hg, hl, hw, htl, hcnt⟩, hsm, hk⟩ := h
 obtain ⟨o, -, hol, hok, horaw, hoat, -⟩ := V.rows.obj hr
 obtain ⟨s, hth, e1, e2, e3⟩ := V.db.obAt hol
 have h9 := iat_yes o.at_ o.k s w H hg.bb V.db.gb.most V.db.hD V.db.hF hth
 rw [hok, hoat] at h9
 have e4 : dR (objB m.b o.at_ s) ((o.k : Nat) : Int) = o.raw := e2
 rw [hok, hoat, horaw] at e4
 refine h9.mono ?_
 rintro e w2 ⟨A1, n1, c1', A2, n2, c2', A3, n3, c3', rfl, hb2, hown⟩
 refine ⟨A1, n1, c1', A2, n2, c2', A3, n3, c3', rfl, hb2, ?_⟩
 have h8 := hown.reads.rr
 rw [show dR (objB m.b r.at_ s) ((1 : Nat) : Int) = r.item from e4] at h8
 exact h8
end
theorem Rows.nodup {fld : List Int -> List Int} {k d f : Int} {nl ex : Nat} {b : List Int} {l : List GO} {R : List DR} (D : DB fld k d f nl ex b l) (h : Rows l R) : (R.map (·.item)).Nodup := by
 have e : R.map (·.item) = (datG l).map (·.raw) := by
   have h9 := congrArg (List.map Prod.fst) h.raws
   rw [List.map_map, List.map_map] at h9
   exact h9.symm
 rw [e, List.nodup_iff_pairwise_ne, List.pairwise_map]
 refine (D.gb.rise.filter _).imp_of_mem ?_
 intro r q hr hq hlt he
 obtain ⟨h1, h2⟩ := datG_mem.1 hr
 obtain ⟨h3, h4⟩ := datG_mem.1 hq
 have h5 := D.uniq r h1 q h3 (h2.trans h4.symm) (.inl h2) he
 subst h5
 have := (D.gb.fine r h1).1.front
 omega
def pushD (R : List DR) (z : List Int) (x : Int) : List DR := R.map fun r => if r.item = z then { r with L := r.L ++ [x] } else r
theorem pushD_items (R : List DR) (z : List Int) (x : Int) : (pushD R z x).map (·.item) = R.map (·.item) := by
 unfold pushD
 rw [List.map_map]
 refine List.map_congr_left fun r _ => ?_
 show (if r.item = z then _ else r : DR).item = _
 split <;> rfl
theorem findD_map {R : List DR} {g : DR -> DR} (hg : ∀ r, (g r).item = r.item /\ (g r).at_ = r.at_) (y : List Int) : findD (R.map g) y = findD R y := by
 unfold findD
 rw [List.find?_map, Option.map_map]
 have e : ((fun r : DR => r.item == y) ∘ g) = fun r => r.item == y := by funext r; show ((g r).item == y) = _; rw [(hg r).1]
 rw [e]
 congr 1
 funext r
 exact (hg r).2
theorem findD_pushD (R : List DR) (z y : List Int) (x : Int) : findD (pushD R z x) y = findD R y := findD_map (fun r => by split <;> exact ⟨rfl, rfl⟩) y
theorem set_pushD {R : List DR} (hn : (R.map (·.item)).Nodup) {j : Nat} {r : DR} (hr : R[j]? = some r) (x : Int) : R.set j { r with L := r.L ++ [x] } = pushD R r.item x := by
  obtain ⟨hj, he⟩ := List.getElem?_eq_some_iff.1 hr
  refine List.ext_getElem? fun i => ?_
  unfold pushD
  rw [List.getElem?_map]
  by_cases e : j = i
  · subst e
    rw [List.getElem?_set_self hj, hr]
    simp
  · rw [List.getElem?_set_ne e]
    cases hi : R[i]? with
    | none => rfl
    | some q =>
      have h9 : ¬ q.item = r.item := fun h9 => by
        obtain ⟨hi1, hi2⟩ := List.getElem?_eq_some_iff.1 hi
        rw [List.nodup_iff_pairwise_ne, List.pairwise_iff_getElem] at hn
        rcases Nat.lt_or_gt_of_ne e with h | h
        · have := hn j i (by simpa using hj) (by simpa using hi1) h
          rw [List.getElem_map, List.getElem_map, he, hi2] at this
          exact this h9.symm
        · have := hn i j (by simpa using hi1) (by simpa using hj) h
          rw [List.getElem_map, List.getElem_map, he, hi2] at this
          exact this h9
      show some q = some (if q.item = r.item then _ else q)
      rw [if_neg h9]
def pushAll (R : List DR) (zs : List (List Int)) (x : Int) : List DR := zs.foldl (fun R z => pushD R z x) R
theorem pushAll_snoc (R : List DR) (zs : List (List Int)) (z : List Int) (x : Int) : pushAll R (zs ++ [z]) x = pushD (pushAll R zs x) z x := by unfold pushAll; rw [List.foldl_append]; rfl
theorem pushAll_items (x : Int) : ∀ (zs : List (List Int)) (R : List DR), (pushAll R zs x).map (·.item) = R.map (·.item)
 | [], R => rfl
 | z :: zs, R => (pushAll_items x zs (pushD R z x)).trans (pushD_items R z x)
theorem findD_pushAll (x : Int) (y : List Int) : ∀ (zs : List (List Int)) (R : List DR), findD (pushAll R zs x) y = findD R y
 | [], R => rfl
 | z :: zs, R => (findD_pushAll x y zs (pushD R z x)).trans (findD_pushD R z y x)
theorem pushAll_eq (x : Int) : ∀ (zs : List (List Int)) (R : List DR), zs.Nodup -> pushAll R zs x = R.map fun r => if r.item ∈ zs then { r with L := r.L ++ [x] } else r
  | [], R, _ => by
    show R = _
    have e : (fun r : DR => if r.item ∈ ([] : List (List Int)) then ({ r with L := r.L ++ [x] } : DR) else r) = id := by funext r; simp
    rw [e, List.map_id]
  | z :: zs, R, h => by
    rw [List.nodup_cons] at h
    show pushAll (pushD R z x) zs x = _
    rw [pushAll_eq x zs _ h.2]
    unfold pushD
    rw [List.map_map]
    refine List.map_congr_left fun r _ => ?_
    show (if (if r.item = z then ({ r with L := r.L ++ [x] } : DR) else r).item ∈ zs then _ else _) = _
    by_cases e : r.item = z
    · simp [e, h.1]
    · by_cases e2 : r.item ∈ zs <;> simp [e, e2]
theorem findD_at {R : List DR} {z : List Int} {a : Nat} (h : findD R z = some a) : ∃ (j : Nat) (r : DR), R[j]? = some r /\ r.item = z /\ r.at_ = a := by
 unfold findD at h
 obtain ⟨r, h1, h2⟩ := Option.map_eq_some_iff.1 h
 obtain ⟨j, hj⟩ := List.getElem?_of_mem (List.mem_of_find?_eq_some h1)
 exact ⟨j, r, hj, by have := List.find?_some h1; simpa using this, h2⟩
structure EL (R : List DR) (O : List GO) (Lr : List Int) (E : List (List (List Int))) : Prop where
 lr : Lr = O.map fun o => (o.at_ : Int)
 its : O.map (·.its) = E.map fun zs => zs.map fun z => (((findD R z).getD 0 : Nat) : Int)
 known : ∀ zs ∈ E, ∀ z ∈ zs, (findD R z).isSome = true
 have_ : ∀ r ∈ R, r.L = ((O.zip E).filter fun x => decide (r.item ∈ x.2)).map fun x => (x.1.at_ : Int)
theorem EL.len {R : List DR} {O : List GO} {Lr : List Int} {E : List (List (List Int))} (H : EL R O Lr E) : O.length = E.length := by have := congrArg List.length H.its; simpa using this
theorem EL.nothing : EL [] [] [] [] := ⟨rfl, rfl, (fun zs h => by cases h), (fun r h => by cases h)⟩
theorem findD_insD {R : List DR} {z y : List Int} {a b : Nat} (h : findD R y = some b) : findD (insD R z a) y = some b := by
 unfold insD
 split
 · exact h
 · unfold findD at h ⊢
   obtain ⟨r, h1, h2⟩ := Option.map_eq_some_iff.1 h
   rw [List.find?_append, h1]
   exact congrArg some h2
theorem EL.ins {R : List DR} {O : List GO} {Lr : List Int} {E : List (List (List Int))} (H : EL R O Lr E) (z : List Int) (a : Nat) : EL (insD R z a) O Lr E := by
 have hf : ∀ zs ∈ E, ∀ y ∈ zs, findD (insD R z a) y = findD R y := fun zs hz y hy => by
   obtain ⟨b, hb⟩ := Option.isSome_iff_exists.1 (H.known zs hz y hy)
   rw [hb]; exact findD_insD hb
 refine ⟨H.lr, ?_, fun zs hz y hy => by rw [hf zs hz y hy]; exact H.known zs hz y hy, fun r hr => ?_⟩
 · rw [H.its]
   refine List.map_congr_left fun zs hz => List.map_congr_left fun y hy => ?_
   rw [hf zs hz y hy]
 · unfold insD at hr
   split at hr
   · exact H.have_ r hr
   · rename_i hn
     rcases List.mem_append.1 hr with h | h
     · exact H.have_ r h
     · rw [List.mem_singleton.1 h]
       show ([] : List Int) = _
       rw [List.filter_eq_nil_iff.2, List.map_nil]
       intro x hx h9
       have hm := (List.of_mem_zip hx).2
       have := H.known x.2 hm z (of_decide_eq_true h9)
       rw [hn] at this
       cases this
theorem EL.add {R : List DR} {O : List GO} {Lr : List Int} {E : List (List (List Int))} (H : EL R O Lr E) {zs : List (List Int)} (hz : zs.Nodup) (hk : ∀ z ∈ zs, (findD R z).isSome = true) {o : GO} (ho : o.its = zs.map fun z => (((findD R z).getD 0 : Nat) : Int)) :
 EL (pushAll R zs (o.at_ : Nat)) (O ++ [o]) (Lr ++ [((o.at_ : Nat) : Int)]) (E ++ [zs]) := by
 have hl := H.len
 refine ⟨by rw [H.lr, List.map_append]; rfl, ?_, fun ys hy z hz' => ?_, fun r hr => ?_⟩
 · have e : (fun ys : List (List Int) => ys.map fun z => (((findD (pushAll R zs (o.at_ : Nat)) z).getD 0 : Nat) : Int)) = fun ys => ys.map fun z => (((findD R z).getD 0 : Nat) : Int) := by
     funext ys; simp only [findD_pushAll]
   rw [e, List.map_append, List.map_append, H.its]
   congr 1
   show [o.its] = _
   rw [ho]; rfl
 · rw [findD_pushAll]
   rcases List.mem_append.1 hy with h | h
   · exact H.known ys h z hz'
   · rw [List.mem_singleton.1 h] at hz'; exact hk z hz'
 · rw [pushAll_eq _ _ _ hz] at hr
   obtain ⟨q, hq, rfl⟩ := List.mem_map.1 hr
   have h9 := H.have_ q hq
   rw [List.zip_append hl, List.filter_append, List.map_append]
   by_cases e : q.item ∈ zs
   · rw [if_pos e]
     show q.L ++ [_] = _
     rw [h9]
     congr 1
     show _ = ((([(o, zs)] : List (GO × List (List Int))).filter _).map _)
     rw [List.filter_cons_of_pos (by show decide (q.item ∈ zs) = true; exact decide_eq_true e)]
     rfl
   · rw [if_neg e]
     have e2 : (([o].zip [zs]).filter fun x => decide (q.item ∈ x.2)) = [] := by
       show (([(o, zs)] : List (GO × List (List Int))).filter _) = []
       rw [List.filter_cons_of_neg (by show ¬ decide (q.item ∈ zs) = true; simpa using e)]
       rfl
     rw [e2, List.map_nil, List.append_nil]
     exact h9
structure Old (k d f : Int) (was : List Int) (R : List DR) (O : List GO) (Lr : List Int) : Prop where
 ex : ∃ l, EV k d f was l R O Lr /\ ∀ p, LinkG (newK d f) l p -> gnum was (p : Nat) 8 < was.length
 by_ : AreB was
section
variable {hI hM k d f : Int} {w w' : World} {base : Nat} {S : Nat -> Prop} {p lim : Nat} {was : List Int} {R : List DR} {O : List GO} {Lr : List Int} {tl cnt : Nat}
end
end Go.Proofs.YtgcmbgniaffdlaaGreat
