/-
  LAYER 17: the walk of ScanObjects.
-/
import Derived.Test.YtjpfbkhjhainpaaScLaw
import Derived.BigQuiet
set_option linter.unusedVariables false
set_option maxRecDepth 100000
set_option linter.unusedSimpArgs false
namespace Go.Proofs.Ytjpfbkhjhainpaa
open Go.RowKit Go.Shelf

theorem placesS_append (kind : Int) (a b : List SR) : placesS kind (a ++ b) = placesS kind a ++ placesS kind b := by unfold placesS; rw [List.filter_append, List.map_append]
theorem take_next {L : List SR} {j : Nat} {r : SR} (h : L[j]? = some r) : L.take (j + 1) = L.take j ++ [r] ∧ L = L.take j ++ r :: L.drop (j + 1) := by
  obtain ⟨hj, he⟩ := List.getElem?_eq_some_iff.1 h
  refine ⟨?_, ?_⟩
  · rw [List.take_add_one, h]; rfl
  · rw [← he, List.getElem_cons_drop, List.take_append_drop]
theorem places_yes {kind : Int} {L : List SR} {j : Nat} {r : SR} (h : L[j]? = some r) (hk : (r.k : Int) = kind) :
    (placesS kind L)[(placesS kind (L.take j)).length]? = some (r.j : Int) ∧ (placesS kind (L.take (j + 1))).length = (placesS kind (L.take j)).length + 1 ∧ (placesS kind (L.take j)).length < (placesS kind L).length := by
  obtain ⟨h1, h2⟩ := take_next h
  have h3 : placesS kind L = placesS kind (L.take j) ++ (r.j : Int) :: placesS kind (L.drop (j + 1)) := by
    have e := congrArg (placesS kind) h2
    rw [placesS_append, show r :: L.drop (j + 1) = [r] ++ L.drop (j + 1) from rfl, placesS_append] at e
    have e1 : placesS kind [r] = [(r.j : Int)] := by unfold placesS; simp [hk]
    rw [e1] at e
    exact e
  refine ⟨?_, ?_, ?_⟩
  · rw [h3, List.getElem?_append_right (Nat.le_refl _), Nat.sub_self]; rfl
  · rw [h1, placesS_snoc, if_pos hk, List.length_append]; rfl
  · rw [h3, List.length_append, List.length_cons]; omega
theorem places_no {kind : Int} {L : List SR} {j : Nat} {r : SR} (h : L[j]? = some r) (hk : ¬ (r.k : Int) = kind) : (placesS kind (L.take (j + 1))).length = (placesS kind (L.take j)).length := by
  rw [(take_next h).1, placesS_snoc, if_neg hk]

/-- What both lists of rows tell at a place. -/
structure RwTwo (W : World) (b1 o1 b2 o2 j : Nat) (x y : So) : Prop where
  c0 : W.cell? ⟨b1, o1 + j * 6, none⟩ = some (.int .i64 x.r.j)
  c1 : W.cell? ⟨b1, o1 + j * 6 + 1, none⟩ = some (.int .i64 x.r.fin)
  c2 : W.cell? ⟨b1, o1 + j * 6 + 2, none⟩ = some (.int .i64 x.r.k)
  c3 : W.cell? ⟨b1, o1 + j * 6 + 3, none⟩ = some (.slice x.A x.n x.c)
  c4 : W.cell? ⟨b1, o1 + j * 6 + 4, none⟩ = some (.slice x.B x.m x.d)
  c5 : W.cell? ⟨b1, o1 + j * 6 + 5, none⟩ = some (.slice x.C x.p x.q)
  d0 : W.cell? ⟨b2, o2 + j * 6, none⟩ = some (.int .i64 x.r.j)
  d1 : W.cell? ⟨b2, o2 + j * 6 + 1, none⟩ = some (.int .i64 x.r.fin)
  d2 : W.cell? ⟨b2, o2 + j * 6 + 2, none⟩ = some (.int .i64 x.r.k)
  d3 : W.cell? ⟨b2, o2 + j * 6 + 3, none⟩ = some (.slice y.A y.n y.c)
  d4 : W.cell? ⟨b2, o2 + j * 6 + 4, none⟩ = some (.slice y.B y.m y.d)
  d5 : W.cell? ⟨b2, o2 + j * 6 + 5, none⟩ = some (.slice y.C y.p y.q)

theorem sameO_self (k : Int) (ws rs is : List Int) : sameO k k ws ws rs rs is is = true := by simp [sameO]

set_option maxHeartbeats 4000000 in
theorem objects_law (A : Option Addr) (n c : Nat) (zs : List Int) (pl to kind : Int) (w : World) (hi : InInts w .u8 A n c zs) (hp : (Lit.int .i64 pl).wf = true) (ht : (Lit.int .i64 to).wf = true) (hk : (Lit.int .i64 kind).wf = true) :
    Calls Try.prog 3 #[.slice A n c, .int .i64 pl, .int .i64 to, .int .i64 kind] w fun e w' => e = .returned (.bool true) ∧ Below w.heap.size w w' := by
  have hbp := bounds_i64 hp
  have hbt := bounds_i64 ht
  by_cases hq : 3000 < n
  · have t1 : (3000 : Int) < (n : Int) := by omega
    clear hi hp ht hk
    go_enter Try.func3, Try.ntmps3
    go_wp2_with (go_at_call 5; refine (scawake_any _).mono ?_; rintro e w5 ⟨rfl, hb5⟩)
    go_ret
    exact ⟨rfl, hb5⟩
  have t1 : ¬ (3000 : Int) < (n : Int) := by omega
  have hz : AreB zs := fun z hz => wf_u8_bd (hi.wf z hz)
  have hl := hi.le
  have hcap := hi.cap
  obtain ⟨L, hL⟩ := scan_ex (zs.take (cutN n to)) pl
  have hlz : zs.length = n := hi.reads.len
  have RW := Lib.hid (rows_any A n c zs pl to L w hi.reads (Nat.le_refl _) hz hl hcap (by omega) (by omega) (by omega) (by omega) (by omega) hL)
  have RA := Lib.hid (fun wx (hx : Below w.heap.size w wx) => rall_any A n c zs pl to L wx (hi.reads.below hx) hx.size hz hl hcap (by omega) (by omega) (by omega) (by omega) (by omega) hL)
  have SW := Lib.hid (fun wx (hx : Below w.heap.size w wx) => scWhole_any A n c zs pl to L wx (hi.reads.below hx) hx.size hz hl hcap (by omega) (by omega) (by omega) (by omega) (by omega) hL)
  have DW := Lib.hid (fun wx (hx : Below w.heap.size w wx) => rwhole_any A n c zs pl to L wx (hi.reads.below hx) hx.size hz hl hcap (by omega) (by omega) (by omega) (by omega) (by omega) hL)
  have SP := Lib.hid (fun wx (hx : Below w.heap.size w wx) => scPlaces_any A n c zs pl to kind L wx (hi.reads.below hx) hx.size hz hl hcap (by omega) (by omega) (by omega) (by omega) (by omega) hL)
  obtain ⟨zt, hzt⟩ : ∃ zt, zs.take (cutN n to) = zt := ⟨_, rfl⟩
  have hzb : AreB zt := by rw [← hzt]; exact hz.take _
  have hzl : zt.length ≤ 3000 := by rw [← hzt, List.length_take]; have := cutN_le n to; omega
  rw [hzt] at RW RA hL
  have SC := Lib.hid (And.intro hL (And.intro hzb hzl))
  obtain ⟨W, hW⟩ : ∃ W, wholeB n pl to L = W := ⟨_, rfl⟩
  rw [hW] at SW DW
  have hpls := placesS_le kind L
  have hsh := hL.short
  obtain ⟨m, hm⟩ : ∃ m, L.length = m := ⟨_, rfl⟩
  obtain ⟨P, hP⟩ : ∃ P, (placesS kind L).length = P := ⟨_, rfl⟩
  rw [hP] at SP hpls
  rw [hm] at hpls hsh
  have HLM := Lib.hid (And.intro hm hP)
  have hm3 : m ≤ 3000 := by omega
  clear hi hz hL hlz hzt hzb hzl hW hp ht hk hsh hm hP
  go_enter Try.func3, Try.ntmps3
  go_wp2_with (first
    | (go_at_call 6; refine RW.out.mono ?_; rintro e w1 ⟨v1, l1, rfl, hR1, hr1, hb1⟩; obtain ⟨A1, c1, rfl, -, -⟩ := own_form hR1.own; (have hl1 : l1.length = m := by rw [← HLM.out.1, ← hr1, List.length_map]); rw [hl1] at hR1 ⊢; have H1 := Lib.hid (And.intro hR1 (And.intro hr1 (And.intro hl1 hb1))); clear hR1 hr1 hl1 hb1)
    | (go_at_call 7; refine (RA.out w1 H1.out.2.2.2).mono ?_; rintro e w2 ⟨v2, l2, rfl, hR2, hr2, hb2⟩; obtain ⟨A2, c2, rfl, -, -⟩ := own_form hR2.own; (have hl2 : l2.length = m := by rw [← HLM.out.1, ← hr2, List.length_map]); rw [hl2] at hR2 ⊢; have H2 := Lib.hid (And.intro hR2 (And.intro hr2 (And.intro hl2 (H1.out.2.2.2.trans (hb2.mono H1.out.2.2.2.size))))); have hR1' := Lib.hid (H1.out.1.below hb2); clear hR2 hr2 hl2 hb2)
    | (go_at_call 8; refine (SW.out w2 H2.out.2.2.2).mono ?_; rintro e w3 ⟨rfl, hb3⟩; have HB3 := Lib.hid hb3; clear hb3)
    | (go_at_call 9; refine (DW.out w3 (H2.out.2.2.2.trans (HB3.out.mono H2.out.2.2.2.size))).mono ?_; rintro e w4 ⟨rfl, hb4⟩; have HB4 := Lib.hid (HB3.out.trans (hb4.mono HB3.out.size)); clear hb4)
    | (go_at_call 10; refine (SP.out w4 (H2.out.2.2.2.trans (HB4.out.mono H2.out.2.2.2.size))).mono ?_; rintro e w5 ⟨v5, rfl, ho5, hb5⟩; obtain ⟨A5, c5, rfl, -, -⟩ := own_form ho5; have H5 := Lib.hid (And.intro ho5 (HB4.out.trans (hb5.mono HB4.out.size))); clear ho5 hb5))
  go_loopw [12, 13] (fun s12 s13 wr => ∃ (t j : Nat), s12 = .int .i64 t ∧ s13 = .int .i64 j ∧ j ≤ m ∧ t ≤ 3000 ∧ Hid (t = (placesS kind (L.take j)).length ∧ Below w5.heap.size w5 wr)) (fun _ s13 _ => m - (intOf s13).toNat)
  case atStart => exact ⟨0, 0, rfl, rfl, Nat.zero_le _, by omega, Lib.hid ⟨by rw [List.take_zero]; rfl, Below.refl _ _⟩⟩
  case round =>
    obtain ⟨t, j, rfl, rfl, hj, ht3, HI⟩ := hrel
    by_cases hlt : j < m
    · have hbr := HI.out.2
      have hR1 := (hR1'.out.below H5.out.2).below hbr
      have hR2 := (H2.out.1.below H5.out.2).below hbr
      obtain ⟨b1, o1, d1, x, e1, hc1, hd1, hx, -, hbl1, hcl1⟩ := hR1.at_ (i := j) (by rw [H1.out.2.2.1]; exact hlt)
      obtain ⟨b2, o2, d2, y, e2, hc2, hd2, hy, -, hbl2, hcl2⟩ := hR2.at_ (i := j) (by rw [H2.out.2.2.1]; exact hlt)
      obtain rfl : A1 = some ⟨b1, o1, none⟩ := by injection e1
      obtain rfl : A2 = some ⟨b2, o2, none⟩ := by injection e2
      have hcc1 : c1 = d1 := by injection e1
      have hcc2 : c2 = d2 := by injection e2
      subst hcc1 hcc2
      rw [H1.out.2.2.1] at hc1
      rw [H2.out.2.2.1] at hc2
      have hxr : L[j]? = some x.r := by rw [← H1.out.2.1, List.getElem?_map, hx]; rfl
      have hyr : L[j]? = some y.r := by rw [← H2.out.2.1, List.getElem?_map, hy]; rfl
      have hyx : y.r = x.r := by rw [hxr] at hyr; injection hyr with h; exact h.symm
      have hlx := hR1.lies x (List.mem_of_getElem? hx)
      have hly := hR2.lies y (List.mem_of_getElem? hy)
      have hmem : x.r ∈ L := List.mem_of_getElem? hxr
      have his := SC.out.1.mem _ hmem
      have hroom := his.room
      have hlens := his.lens
      have hkind := his.kind
      have TW : Hid (∀ wx, Below wr.heap.size wr wx → RwTwo wx b1 o1 b2 o2 j x y) := Lib.hid (fun wx hb => by
        have g1 : ∀ q u, x.cs[q]? = some u → wx.cell? ⟨b1, o1 + j * 6 + q, none⟩ = some u := fun q u hu => (hb.cell (p := ⟨b1, _, none⟩) hbl1).trans (hcl1 q u hu)
        have g2 : ∀ q u, y.cs[q]? = some u → wx.cell? ⟨b2, o2 + j * 6 + q, none⟩ = some u := fun q u hu => (hb.cell (p := ⟨b2, _, none⟩) hbl2).trans (hcl2 q u hu)
        unfold So.cs at g2
        rw [hyx] at g2
        exact ⟨g1 0 _ rfl, g1 1 _ rfl, g1 2 _ rfl, g1 3 _ rfl, g1 4 _ rfl, g1 5 _ rfl, g2 0 _ rfl, g2 1 _ rfl, g2 2 _ rfl, g2 3 _ rfl, g2 4 _ rfl, g2 5 _ rfl⟩)
      have SM : Hid (∀ wx, Below wr.heap.size wr wx → Calls Try.prog 11 #[obV x.r.k x.A x.n x.c x.B x.m x.d x.C x.p x.q, obV x.r.k y.A y.n y.c y.B y.m y.d y.C y.p y.q] wx fun e w' => e = .returned (.bool true) ∧ Below wx.heap.size wx w') := Lib.hid (fun wx hb => by
        have hx2 := (ObR.below hlx hb (Nat.le_refl _)).upto hb.size
        have hy2 := (ObR.below hly hb (Nat.le_refl _)).upto hb.size
        rw [hyx] at hy2
        have l1 := hx2.wr.len
        have l2 := hx2.ir.len
        have l3 := hy2.wr.len
        have l4 := hy2.ir.len
        have hkw := kwN_le x.r.k
        have h3 := SC.out.2.2
        have h9 := rosame_any x.r.k x.r.k x.A y.A x.n y.n x.c y.c _ _ x.B y.B x.m y.m x.d y.d _ _ x.C y.C x.p y.p x.q y.q _ _ wx hx2 hy2 (Nat.le_refl _) (dR_bytes (objB_bytes SC.out.2.1 _ _)) (dR_bytes (objB_bytes SC.out.2.1 _ _)) ⟨by omega, by omega, by omega, by omega⟩
        rw [sameO_self] at h9
        exact h9)
      have H5P : Hid (∀ wx, Below wr.heap.size wr wx → Reads wx wx.heap.size 1 A5 P (cellsOf .i64 (placesS kind L))) := Lib.hid (fun wx hb => Reads.of_own (own_below (own_below H5.out.1 hbr) hb))
      have HX := Lib.hid (And.intro hxr (And.intro hj hbr))
      have HFN : Hid ((x.r.j : Int) = x.r.j) := Lib.hid rfl
      obtain ⟨rj, hrj⟩ : ∃ rj, x.r.j = rj := ⟨_, rfl⟩
      obtain ⟨rf, hrf⟩ : ∃ rf, x.r.fin = rf := ⟨_, rfl⟩
      obtain ⟨rk, hrk⟩ : ∃ rk, x.r.k = rk := ⟨_, rfl⟩
      have HL := Lib.hid (And.intro hrj (And.intro hrf hrk))
      have HC : Hid (∀ wx, Below wr.heap.size wr wx → (wx.cell? ⟨b1, o1 + j * 6, none⟩ = some (.int .i64 rj) ∧ wx.cell? ⟨b1, o1 + j * 6 + 1, none⟩ = some (.int .i64 rf) ∧ wx.cell? ⟨b1, o1 + j * 6 + 2, none⟩ = some (.int .i64 rk) ∧ wx.cell? ⟨b1, o1 + j * 6 + 3, none⟩ = some (.slice x.A x.n x.c) ∧ wx.cell? ⟨b1, o1 + j * 6 + 4, none⟩ = some (.slice x.B x.m x.d) ∧ wx.cell? ⟨b1, o1 + j * 6 + 5, none⟩ = some (.slice x.C x.p x.q) ∧
          wx.cell? ⟨b2, o2 + j * 6, none⟩ = some (.int .i64 rj) ∧ wx.cell? ⟨b2, o2 + j * 6 + 1, none⟩ = some (.int .i64 rf) ∧ wx.cell? ⟨b2, o2 + j * 6 + 2, none⟩ = some (.int .i64 rk) ∧ wx.cell? ⟨b2, o2 + j * 6 + 3, none⟩ = some (.slice y.A y.n y.c) ∧ wx.cell? ⟨b2, o2 + j * 6 + 4, none⟩ = some (.slice y.B y.m y.d) ∧ wx.cell? ⟨b2, o2 + j * 6 + 5, none⟩ = some (.slice y.C y.p y.q))) := Lib.hid (fun wx hb => by
        obtain ⟨q0, q1, q2, q3, q4, q5, p0, p1, p2, p3, p4, p5⟩ := TW.out wx hb
        rw [hrj] at q0 p0; rw [hrf] at q1 p1; rw [hrk] at q2 p2
        exact ⟨q0, q1, q2, q3, q4, q5, p0, p1, p2, p3, p4, p5⟩)
      rw [hrk] at SM
      clear hR1 hR2 hcl1 hcl2 hx hy hxr hyr hyx hlx hly hmem his hroom hlens hkind TW e1 e2 hrj hrf hrk hbl1 hbl2 hbr HFN
      go_wp2
      have hb : Below wr.heap.size wr wr.drew := below_drewn (Below.refl _ _) 1
      have HK := Lib.hid (HC.out _ hb)
      go_region_held3 (fun w' => w'.cell? ⟨b1, o1 + j * 6, none⟩ = some (.int .i64 rj) ∧ w'.cell? ⟨b1, o1 + j * 6 + 1, none⟩ = some (.int .i64 rf) ∧ w'.cell? ⟨b1, o1 + j * 6 + 2, none⟩ = some (.int .i64 rk) ∧ w'.cell? ⟨b1, o1 + j * 6 + 3, none⟩ = some (.slice x.A x.n x.c) ∧ w'.cell? ⟨b1, o1 + j * 6 + 4, none⟩ = some (.slice x.B x.m x.d) ∧ w'.cell? ⟨b1, o1 + j * 6 + 5, none⟩ = some (.slice x.C x.p x.q) ∧
          w'.cell? ⟨b2, o2 + j * 6, none⟩ = some (.int .i64 rj) ∧ w'.cell? ⟨b2, o2 + j * 6 + 1, none⟩ = some (.int .i64 rf) ∧ w'.cell? ⟨b2, o2 + j * 6 + 2, none⟩ = some (.int .i64 rk) ∧ w'.cell? ⟨b2, o2 + j * 6 + 3, none⟩ = some (.slice y.A y.n y.c) ∧ w'.cell? ⟨b2, o2 + j * 6 + 4, none⟩ = some (.slice y.B y.m y.d) ∧ w'.cell? ⟨b2, o2 + j * 6 + 5, none⟩ = some (.slice y.C y.p y.q))
        (first | assumption | exact HK.out | exact HC.out _ (by assumption))
        ((go_at_call 11; refine (SM.out _ hb).mono ?_; rintro e wx ⟨rfl, hbx⟩; have hb := hb.trans (hbx.mono hb.size); clear hbx))
      obtain ⟨-, -, -, -, -, -, p0, -, p2, -, -, -⟩ := HC.out _ hb
      have HB := Lib.hid hb
      by_cases hk : (rk : Int) = kind
      · have hd : ((rk : Int) == kind) = true := beq_iff_eq.2 hk
        obtain ⟨hp1, hp2, hp3⟩ := places_yes (kind := kind) HX.out.1 (by rw [HL.out.2.2]; exact hk)
        rw [HL.out.1, ← HI.out.1] at hp1
        rw [← HI.out.1] at hp2
        rw [← HI.out.1, HLM.out.2] at hp3
        obtain ⟨b5, o5, rfl, hb5, hc5⟩ := (H5P.out _ hb).at2 (by omega) (by omega)
        have q5 : wx.cell? ⟨b5, o5 + t, none⟩ = some (.int .i64 rj) := hc5 t _ (by rw [cellsOf, List.getElem?_map, hp1]; rfl)
        have hge : decide ((P : Int) ≤ (t : Int)) = false := decide_eq_false (by omega)
        have HP2 := Lib.hid hp2
        clear hk hp1 hp2 hc5
        go_wp2
        go_quiet (fail)
        go_wp2
        go_roundw
        case rel => exact ⟨t + 1, j + 1, by go_num, by go_num, by omega, by omega, Lib.hid ⟨HP2.out.symm, HI.out.2.trans ((HB.out.trans (below_drewn (Below.refl _ _) _ |>.mono HB.out.size)).mono HI.out.2.size)⟩⟩
        case measure => simp [intOf]; omega
      · have hd : ((rk : Int) == kind) = false := beq_false_of_ne hk
        have hp2 := places_no (kind := kind) HX.out.1 (by rw [HL.out.2.2]; exact hk)
        rw [← HI.out.1] at hp2
        have HP2 := Lib.hid hp2
        clear hk hp2
        go_wp2
        go_roundw
        case rel => exact ⟨t, j + 1, rfl, by go_num, by omega, by omega, Lib.hid ⟨HP2.out.symm, HI.out.2.trans (HB.out.mono HI.out.2.size)⟩⟩
        case measure => simp [intOf]; omega
    · obtain rfl : j = m := by omega
      have htP : (t : Int) = (P : Int) := by
        have h1 := HI.out.1
        rw [List.take_of_length_le (by rw [HLM.out.1]; exact Nat.le_refl _), HLM.out.2] at h1
        omega
      go_wp2_with (go_at_call 5; refine (scawake_any _).mono ?_; rintro e w7 ⟨rfl, hb7⟩)
      go_ret
      have hbz := (H2.out.2.2.2.trans (H5.out.2.mono H2.out.2.2.2.size))
      exact ⟨rfl, hbz.trans ((HI.out.2.trans (hb7.mono HI.out.2.size)).mono hbz.size)⟩
end Go.Proofs.Ytjpfbkhjhainpaa
