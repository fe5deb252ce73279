/-
  LAYER 12: the walk of ImageLays.
-/
import Derived.Test.YthdnjjdlhhapbaaImLaysM
import Derived.Test.YthdnjjdlhhapbaaImPlaysW
set_option linter.unusedVariables false
set_option maxRecDepth 100000
set_option linter.unusedSimpArgs false
namespace Go.Proofs.Ythdnjjdlhhapbaa
open Go.RowKit

set_option maxHeartbeats 8000000 in
theorem lays_law (A1 : Option Addr) (len1 cap1 : Nat) (l1 : List ActI) (A2 : Option Addr) (len2 cap2 : Nat) (l2 : List ActI) (w : World) (hin1 : InActsI w A1 len1 cap1 l1) (hin2 : InActsI w A2 len2 cap2 l2) :
    Calls Try.prog 4 #[.slice A1 len1 cap1, .slice A2 len2 cap2] w fun e w' => e = .returned (.bool true) ∧ Below w.heap.size w w' := by
  obtain ⟨i0, hi, hz0, hz1, hz2⟩ := info_parts byteInfo
  have hr : rightH 4 4 = true := by decide
  have hle1 := hin1.le
  have hcap1 := hin1.cap
  have hle2 := hin2.le
  have hcap2 := hin2.cap
  have HE := Lib.hid (fun w1 => heads_any 3 3 4 4 w1 (by omega) (by omega) (by omega) (by omega) (by decide) (by decide))
  have HBOX := Lib.hid (fun w1 wx hx => two_boxes w1 4 4 (wx := wx) hx)
  have NW := Lib.hid (fun G w1 bas (ht : IsTable w1 G) (hb : bas ≤ w1.heap.size) => inew_yes (base := bas) G 5 6 4 4 0 4000 w1 hr ht hb)
  have RN := Lib.hid (fun w1 bas (hb : bas ≤ w1.heap.size) => rnew_yes (base := bas) 5 6 4 4 0 4000 w1 hr (by omega) (by omega) (by omega) (by omega) hb)
  have HMD := Lib.hid (fun wB w1 w2 w3 w4 e e2 x1 (hb : Below wB.heap.size wB w1) (hb2 : Below w2.heap.size w2 w3) x2 => AtI.made (wB := wB) (w1 := w1) (w2 := w2) (D := 4) (F := 4) (lm := 4000) (e := e) (e2 := e2) hr (by omega) x1 hb hb2 (w4 := w4) x2)
  have HIN1 := Lib.hid hin1
  have HIN2 := Lib.hid hin2
  have m1 : True := trivial
  clear hin1 hin2 hr
  go_enter Try.func4, Try.ntmps4
  go_wp2_with (first
    | (go_at_call 6; clear m1; refine (awake_any _).mono ?_; rintro e w1 ⟨rfl, hb1⟩)
    | (go_at_call 7; refine (HE.out _).mono ?_; rintro e w2 ⟨rfl, hb2⟩; have hb2 := hb1.trans (hb2.mono hb1.size)))
  obtain ⟨wB, hwB⟩ : ∃ wB, (w2.alloc (.cells #[.int .u64 5, .int .u64 6, .int .i64 4, .int .i64 4, .int .u64 0] 27)).alloc (.cells #[.int .u64 5, .int .u64 6, .int .i64 4, .int .i64 4, .int .u64 0] 28) = wB := ⟨_, rfl⟩
  have HBX : Hid (∀ wx, Below wB.heap.size wB wx → HdAt wx w2.heap.size 5 6 4 4 0 ∧ HdAt wx (w2.heap.size + 1) 5 6 4 4 0 ∧ Below w2.heap.size w2 wx ∧ Blk wx w2.heap.size 27 #[.int .u64 5, .int .u64 6, .int .i64 4, .int .i64 4, .int .u64 0] ∧ w2.heap.size + 2 ≤ wx.heap.size) := fun wx hx => by
    rw [← hwB] at hx
    exact HBOX.out w2 wx hx
  rw [hwB]
  clear hwB HBOX
  have HWB : Hid (w.heap.size ≤ wB.heap.size) := by
    have h1 := (HBX.out wB (Below.refl _ _)).2.2.2.2
    have h2 := hb2.size
    show _ ≤ _; omega
  have hb : Below wB.heap.size wB wB.drew := below_drewn (Below.refl _ _) 1
  have HB2 := Lib.hid hb2
  have HWW := Lib.hid (fun wx (hx : Below wB.heap.size wB wx) => HB2.out.trans ((HBX.out wx hx).2.2.1.mono HB2.out.size))
  clear hb1 hb2
  go_region_held3 (fun w' => HdAt w' w2.heap.size 5 6 4 4 0 ∧ HdAt w' (w2.heap.size + 1) 5 6 4 4 0)
    (exact ⟨(HBX.out _ hb).1, (HBX.out _ hb).2.1⟩)
    (first
      | (go_at_call 9; refine (crcMake_any _).mono ?_; rintro e w3 ⟨rfl, ht, hb3⟩; have HT := Lib.hid ht; have hb := hb.trans (hb3.mono hb.size); have HB3 := Lib.hid hb; clear ht hb3)
      | (go_at_call 8; refine (NW.out _ _ wB.heap.size HT.out hb.size).mono ?_; rintro e w4 hx; have HX4 := Lib.hid hx; obtain ⟨p, bv4, sv4, rfl, hb4, -⟩ := hx; have hb := hb.trans (hb4.mono hb.size); clear hb4)
      | (go_at_call 10; refine (RN.out _ wB.heap.size hb.size).mono ?_; rintro e w5 hy; obtain ⟨p9, q, T9, e1, rfl, hAt⟩ := HMD.out wB _ w4 w4 w5 _ _ HX4.out HB3.out (Below.refl _ _) hy; have HAT := Lib.hid (And.intro e1 hAt); have hb := hAt.bel; clear hy e1 hAt))
  obtain ⟨e1, hAt⟩ := HAT.out
  injection e1 with e1
  injection e1 with e1
  injection e1 with e1
  injection e1 with e1
  subst e1
  have HS := Lib.hid hAt
  generalize newB 5 6 4 4 0 = nb at HS
  clear HAT hAt hb HMD NW RN HT HX4 HB3 HE
  go_wp2
  go_loopw [9] (fun z wr => ∃ (y : Nat) (T : Nat → Prop) (m : IM), y ≤ len1 ∧ y ≤ 12 ∧ z = .int .i64 y ∧ Hid (AtI wB wr p q T 4 4 m y)) (fun z _ => len1 - (intOf z).toNat)
  case atStart => exact ⟨0, _, _, Nat.zero_le _, Nat.zero_le _, rfl, HS⟩
  case round =>
    clear HS
    obtain ⟨y, T, m, hy, hy25, rfl, H⟩ := hrel
    by_cases hlt : y < len1 ∧ y < 12
    · obtain ⟨hlt, h25⟩ := hlt
      have u1 : (y : Int) < (len1 : Int) := by omega
      have u2 : (y : Int) < 12 := by omega
      obtain ⟨bb, off, ac, rfl, -, -, hok, y0, y1, y2, y3, y4, y5, y6⟩ := HIN1.out.at_ (HWW.out _ H.out.bel) hlt
      have LG := Lib.hid (light_any ac wr)
      cases hlb : lightA ac with
      | false =>
        rw [hlb] at LG
        clear hlb hok
        go_wp2_with (first
          | (go_at_call 11; (with_reducible refine LG.out.mono ?_); rintro e w6 ⟨rfl, hb6⟩)
          | (go_at_call 6; refine (awake_any _).mono ?_; rintro e w7 ⟨rfl, hb7⟩))
        go_ret
        have hh := H.out.later hb6
        exact ⟨rfl, HWW.out _ (hh.bel.trans (hb7.mono hh.bel.size))⟩
      | true =>
        rw [hlb] at LG
        have DO := Lib.hid (fun (w1 : World) (hb : Below wr.heap.size wr w1) => does_any ac w1 (H.out.later hb).two H.out.ok (by omega) (ActAt.in_ hok HWB.out (HWW.out _ (H.out.later hb).bel)) H.out.len8)
        have NX := Lib.hid (fun (w1 w2 : World) (e : Ending) (hb : Below wr.heap.size wr w1) (hd : IDid wB.heap.size T p q 5 6 4 4 0 (m.act ac) w1 e w2) => H.out.next hb hok.bytes hd)
        clear hlb hok
        go_wp2_with (first
          | (go_at_call 11; (with_reducible refine LG.out.mono ?_); rintro e w6 ⟨rfl, hb6⟩; obtain ⟨z0, z1, z2, z3, z4, z5, z6⟩ := act_cells7 y0 y1 y2 y3 y4 y5 y6 hb6)
          | (go_at_call 12; go_loud ((with_reducible refine (DO.out _ hb6).mono ?_); rintro e w7 hd; obtain ⟨T', rfl, hN, -⟩ := NX.out _ _ _ hb6 hd; have HN := Lib.hid hN; clear hd hN)))
        go_roundw
        case rel => exact ⟨y + 1, T', _, by omega, by omega, by go_num, HN⟩
        case measure => simp [intOf]; omega
    · have hxx : (¬ (y : Int) < (len1 : Int)) ∨ ((y : Int) < (len1 : Int) ∧ ¬ (y : Int) < 12) := by omega
      have DN := Lib.hid (two_idone H.out.two)
      have RD := Lib.hid (fun wA (hx : ITurn wB.heap.size T p q 5 6 4 4 0 m.done m wr wA) => two_rdone hx H.out.two.foot H.out.two.bas H.out.ok)
      obtain ⟨N, hN⟩ : ∃ N, N = m.b.length := ⟨_, rfl⟩
      have hNb : N ≤ 2097152 := by have := H.out.ok.len; omega
      have k1 : 0 + N ≤ maxLen := by unfold maxLen; omega
      have k2 : (0 + N) * 1 ≤ 140737488355328 := by omega
      have RR : Hid (∀ wD, ITurn wB.heap.size T p q 5 6 4 4 0 m.done m.done wr wD → ∀ wx, Below wD.heap.size wD wx → ∃ A c, wx.cell? ⟨q, 5, none⟩ = some (.slice A N c) ∧ Reads wx wx.heap.size 1 A N (cellsOf .u8 m.b)) := fun wD hd wx hx => by
        obtain ⟨S, S2, bv, sv, bv2, wv2, sv2, c1, c2, c3, c4, c5⟩ := hd.2.ex
        have c2 := c2.below hx
        obtain ⟨A, c, rfl, -, -, r3⟩ := c2.reads
        have h5 := (nine c2.blk).1.2.2.2.2.2.1
        rw [show m.done.b = m.b from rfl, ← hN] at h5 r3
        exact ⟨A, c, h5, r3⟩
      have HMK := Lib.hid (fun wD w3 A c hd ho => LayAt.made (wD := wD) (w3 := w3) (A := A) (N := N) (c := c) H.out hd ho)
      have HNL := Lib.hid hN
      clear hlt hN
      have m2 : True := trivial
      rcases hxx with u1 | ⟨u1, u2⟩
      all_goals
        go_wp2_with (first
          | (go_at_call 15; refine DN.out.mono ?_; rintro e wA ⟨rfl, hx⟩; have HXA := Lib.hid hx; clear hx)
          | (go_at_call 16; refine (RD.out wA HXA.out).mono ?_; rintro e wD ⟨rfl, hx⟩; have HXD := Lib.hid hx; have O0 := OutB.lit wD; obtain ⟨Ar, cr, q5, rr⟩ := RR.out wD hx _ O0.bel; clear hx)
          | (at_builtin; clear m2; go_loud (refine wpList_append_any _ rfl _ _ _ rfl wD.heap.size 5 i0 (.int .u8 0) 1 1 Try.underlying39 hi hz0 hz1 hz2 rfl (Nat.lt_succ_self 0) _ 0 [] rfl O0.own _ Ar N cr (cellsOf .u8 m.b) rfl rr (cellsOf_one _ _) k1 k2 O0.bel.size ?_; intro v3 w3 ho3 hg3 hat3; have O1 := O0.app (ys := m.b) ho3 hg3; rw [Nat.zero_add] at O1; obtain ⟨A7, c7, rfl, -, -⟩ := own_form O1.own; have HLA := Lib.hid (HMK.out wD w3 A7 c7 HXD.out O1); clear ho3 hg3 hat3 O0 O1 rr q5)))
        obtain ⟨T8, hLA⟩ := HLA.out
        have HS := Lib.hid hLA
        obtain ⟨b0, hb0⟩ : ∃ b0, m.b = b0 := ⟨_, rfl⟩
        rw [hb0] at HS HNL
        have HFIN : Hid (∀ wx, Below wB.heap.size wB wx → Below w.heap.size w wx) := HWW.out
        clear hb0 hLA HLA DN RD RR HMK HXA HXD H u1 k1 k2
        try clear u2

        go_loopw [11] (fun z wr => ∃ (x : Nat) (T : Nat → Prop) (m : IM), x ≤ len2 ∧ x ≤ 12 ∧ z = .int .i64 x ∧ Hid (LayAt wB wD wr p q T m (y + x) b0 A7 N c7)) (fun z _ => len2 - (intOf z).toNat)
        case atStart => exact ⟨0, _, _, Nat.zero_le _, Nat.zero_le _, rfl, HS⟩
        case round =>
          clear HS
          obtain ⟨x, T2, m2, hx, hx12, rfl, H⟩ := hrel
          by_cases hlt : x < len2 ∧ x < 12
          · obtain ⟨hlt, h25⟩ := hlt
            have u1 : (x : Int) < (len2 : Int) := by omega
            have u2 : (x : Int) < 12 := by omega
            obtain ⟨bb, off, ac, rfl, -, -, hok, y0, y1, y2, y3, y4, y5, y6⟩ := HIN2.out.at_ (HWW.out _ H.out.at_.bel) hlt
            have LG := Lib.hid (light_any ac wr)
            have hAW : Hid (∀ w6 w7, Below wr.heap.size wr w6 → Below w6.heap.size w6 w7 → Below w.heap.size w w7) := fun w6 w7 hb6 hb7 => by
              have hh := H.out.at_.later hb6
              exact HWW.out _ (hh.bel.trans (hb7.mono hh.bel.size))
            cases hlb : lightA ac with
            | false =>
              rw [hlb] at LG
              clear hlb hok
              go_wp2_with (first
                | (go_at_call 11; (with_reducible refine LG.out.mono ?_); rintro e w6 ⟨rfl, hb6⟩; obtain ⟨z0, z1, z2, z3, z4, z5, z6⟩ := act_cells7 y0 y1 y2 y3 y4 y5 y6 hb6)
                | (go_at_call 6; refine (awake_any _).mono ?_; rintro e w7 ⟨rfl, hb7⟩))
              go_ret
              exact ⟨rfl, hAW.out _ _ hb6 hb7⟩
            | true =>
              rw [hlb] at LG
              by_cases hk2 : ac.kind = 2
              · have q2 : (ac.kind == 2) = true := by simp [hk2]
                clear hlb hok hk2
                go_wp2_with (first
                  | (go_at_call 11; (with_reducible refine LG.out.mono ?_); rintro e w6 ⟨rfl, hb6⟩; obtain ⟨z0, z1, z2, z3, z4, z5, z6⟩ := act_cells7 y0 y1 y2 y3 y4 y5 y6 hb6)
                  | (go_at_call 6; refine (awake_any _).mono ?_; rintro e w7 ⟨rfl, hb7⟩))
                go_ret
                exact ⟨rfl, hAW.out _ _ hb6 hb7⟩
              · have q2 : (ac.kind == 2) = false := by simp [hk2]
                by_cases hk3 : ac.kind = 3
                · have q3 : (ac.kind == 3) = true := by simp [hk3]
                  clear hlb hok hk2 hk3
                  go_wp2_with (first
                    | (go_at_call 11; (with_reducible refine LG.out.mono ?_); rintro e w6 ⟨rfl, hb6⟩; obtain ⟨z0, z1, z2, z3, z4, z5, z6⟩ := act_cells7 y0 y1 y2 y3 y4 y5 y6 hb6)
                    | (go_at_call 6; refine (awake_any _).mono ?_; rintro e w7 ⟨rfl, hb7⟩))
                  go_ret
                  exact ⟨rfl, hAW.out _ _ hb6 hb7⟩
                · have q3 : (ac.kind == 3) = false := by simp [hk3]
                  have DO := Lib.hid (fun (w1 : World) (hb : Below wr.heap.size wr w1) => does_any ac w1 (H.out.at_.later hb).two H.out.at_.ok (by omega) (ActAt.in_ hok HWB.out (HWW.out _ (H.out.at_.later hb).bel)) H.out.at_.len8)
                  have NX := Lib.hid (fun (w1 w2 : World) (e : Ending) (hb : Below wr.heap.size wr w1) (hd : IDid wB.heap.size T2 p q 5 6 4 4 0 (m2.act ac) w1 e w2) => H.out.next hb hok.bytes hk2 hd)
                  clear hlb hok hk2 hk3
                  go_wp2_with (first
                    | (go_at_call 11; (with_reducible refine LG.out.mono ?_); rintro e w6 ⟨rfl, hb6⟩; obtain ⟨z0, z1, z2, z3, z4, z5, z6⟩ := act_cells7 y0 y1 y2 y3 y4 y5 y6 hb6)
                    | (go_at_call 12; go_loud ((with_reducible refine (DO.out _ hb6).mono ?_); rintro e w7 hd; obtain ⟨T', rfl, hN⟩ := NX.out _ _ _ hb6 hd; have HN := Lib.hid hN; clear hd hN)))
                  go_roundw
                  case rel => exact ⟨x + 1, T', _, by omega, by omega, by go_num, HN⟩
                  case measure => simp [intOf]; omega
          · have hxx : (¬ (x : Int) < (len2 : Int)) ∨ ((x : Int) < (len2 : Int) ∧ ¬ (x : Int) < 12) := by omega
            have hat := H.out.at_
            obtain ⟨S, S2, bv, sv, bv2, wv2, sv2, c1, c2, -, c4, -⟩ := hat.two.ex
            have hln := hat.ok.len
            have hfw := hat.ok.few
            have hws := hat.ok.wasle
            have CH := Lib.hid (ichange_any wr c1 hat.ok.good (by omega) (by omega))
            have ST := Lib.hid (fun w1 e (hx : ChTold m2 wr e w1) => show_start c2 hx)
            have HWAS := Lib.hid H.out.was
            have HRTL : Hid (∀ (wt : World) (At : Option Addr) (nt : Nat), Reads wt wt.heap.size 1 At nt (cellsOf .u8 m2.was) → Reads wt wt.heap.size 1 At nt (cellsOf .u8 b0)) := fun wt At nt h => by
              rw [← H.out.was]; exact h
            have HBZ : Hid (AreB b0) := by
              show AreB _
              rw [← H.out.was]; exact hat.ok.good.wb
            have HLAY : Hid (layW m2.b (b0 ++ m2.b.drop N) m2.words = m2.b) := by
              have h := hat.ok.good.lay
              rw [H.out.was, ← HNL.out] at h
              exact h
            have HW8 := Lib.hid (fun a (ha : a ∈ m2.words) => (hat.ok.good.ws a ha).2.1)
            have BYT := Lib.hid (fun w1 (hb : Below wr.heap.size wr w1) => ibytes_any w1 (c1.below hb) (by omega))
            have BK := Lib.hid (fun w1 (hb : Below wr.heap.size wr w1) => iback_any w1 (c1.below hb) hat.ok.good (by omega) (by omega))
            have BY2 := Lib.hid (fun (w1 : World) (S3 : Nat → Prop) (b3 s3 : Value) (hx : IX w1 wB.heap.size S3 p 5 6 4 4 0 m2.back b3 s3) => ibytes_any w1 hx (by show m2.was.length ≤ _; omega))
            have ROW := Lib.hid (fun w1 (hb : Below wr.heap.size wr w1) => own_below H.out.row hb)
            have SNO : Hid (∀ g, (Value.slice A7 N c7).ownBlock = some g → ¬ S g) := fun g hg hs => H.out.no g hg (c4 g hs)
            have SB : Hid (∀ j, S j → wB.heap.size ≤ j) := fun j hj => (c1.foot j hj).1
            have HBL := Lib.hid hat.bel
            have HLE := Lib.hid hat.ok.good.le
            have HBB := Lib.hid hat.ok.good.bb
            have HWBY := Lib.hid hat.ok.good.wb
            obtain ⟨Aq, cq, ef, hNc, hcm⟩ := own_form H.out.row
            injection ef with ef1 ef2 ef3
            subst ef3
            have hNi : (N : Int) ≤ (c7 : Int) := by omega
            have hbig : 272 ≤ N := by have h := hat.big; rw [H.out.was, ← HNL.out] at h; exact h
            have k1 : 0 + N ≤ maxLen := by unfold maxLen; omega
            have k2 : (0 + N) * 1 ≤ 140737488355328 := by omega
            clear hlt c1 c2 c4 hat H ef1 ef2
            rcases hxx with u1 | ⟨u1, u2⟩
            all_goals
              go_wp2_with (go_at_call 17; refine CH.out.mono ?_; rintro e w1c hch; obtain ⟨L, o, nw, Ar, cr, Ax, cx, As, cs, Af, nf, cf, Aw, cw, xs, rfl, HNF, hcr, HSH⟩ := ST.out _ _ hch; clear hch)
              obtain ⟨wz, hwz⟩ : ∃ wz, w1c.alloc (.cells #[.int .i64 (o : Int), .slice Af nf cf, .slice Aw nw cw] 53) = wz := ⟨_, rfl⟩
              rw [hwz] at HSH ⊢
              obtain ⟨Z, hZ⟩ : ∃ Z, w1c.heap.size = Z := ⟨_, rfl⟩
              rw [hZ] at HSH ⊢
              clear hwz hZ
              have hoN : N = o := by have h1 := HNF.out.2.1; rw [HWAS.out, ← HNL.out] at h1; exact h1.symm
              subst hoN
              have hnwb : nw ≤ 24 := by have h := HNF.out.2.2.1; omega
              have hLb : L ≤ 2097152 := by have h := HNF.out; omega
              have hNL : N ≤ L := by
                have h := HNF.out
                have h2 := HLE.out
                omega
              have HLN : Hid (N + nf = L) := by have h := HNF.out; show _ = _; omega
              have k3 : N + nf ≤ maxLen := by unfold maxLen; have := HLN.out; omega
              have k4 : (N + nf) * 1 ≤ 140737488355328 := by have := HLN.out; omega
              have HK : Hid (∀ wx, Below wz.heap.size wz wx → ShAt wr wx q Z m2 L N nw Ar cr Ax cx As cs Af nf cf Aw cw xs) := fun wx hx => HSH.out.below hx
              have ROWZ : Hid (∀ wx, Below wz.heap.size wz wx → Reads wx wx.heap.size 1 A7 N (cellsOf .u8 b0)) := fun wx hx => Reads.of_own (ROW.out wx (HSH.out.below hx).bel)
              have O0 := OutB.lit1 wz
              have hb : Below wz.heap.size wz wz.drew := below_drewn (Below.refl _ _) 1
              have m3 : True := trivial
              go_region_held3 (fun w' => w'.cell? ⟨Z, 0, none⟩ = some (.int .i64 (N : Int)) ∧ w'.cell? ⟨Z, 1, none⟩ = some (.slice Af nf cf))
                (first | exact ⟨(HK.out _ hb).z0, (HK.out _ hb).z1⟩ | exact ⟨(HK.out _ O0.bel).z0, (HK.out _ O0.bel).z1⟩ | exact ⟨(HK.out _ O1.bel).z0, (HK.out _ O1.bel).z1⟩ | exact ⟨(HK.out _ HO2.out.bel).z0, (HK.out _ HO2.out.bel).z1⟩)
                (first
                  | (clear m3; refine step_append_any _ rfl (.tmp 102) (.tmp 109) _ rfl wz.heap.size 5 i0 (.int .u8 0) 1 1 Try.underlying39 hi hz0 hz1 hz2 rfl (Nat.lt_succ_self 0) _ 0 [] rfl O0.own _ A7 N c7 (cellsOf .u8 b0) rfl (ROWZ.out _ O0.bel) (cellsOf_one _ _) k1 k2 O0.bel.size ?_; intro v3 wa ho3 hg3 hat3; have O1 := O0.app (ys := b0) ho3 hg3; rw [Nat.zero_add] at O1; obtain ⟨A5, c5, rfl, -, -⟩ := own_form O1.own; clear ho3 hg3 hat3)
                  | (refine step_append_any _ rfl (.tmp 110) (.tmp 112) _ rfl wz.heap.size 5 i0 (.int .u8 0) 1 1 Try.underlying39 hi hz0 hz1 hz2 rfl (Nat.lt_succ_self 0) _ N _ rfl O1.own _ Af nf cf (cellsOf .u8 (m2.b.drop N)) rfl (HK.out _ O1.bel).fr (cellsOf_one _ _) k3 k4 O1.bel.size ?_; intro v4 wb ho4 hg4 hat4; have O2 := O1.app (ys := m2.b.drop N) ho4 hg4; rw [HLN.out] at O2; obtain ⟨A6, c6, rfl, hLc, hcm6⟩ := own_form O2.own; have HO2 := Lib.hid O2; clear ho4 hg4 hat4 O2))
              all_goals
                obtain ⟨g8, cur8, rfl, -, -, -, -, -, -⟩ := row_open HO2.out.own (by omega)
                have HO3 : Hid (OutB wz (.slice (some ⟨g8, 0, none⟩) L c6) L (layW m2.b (b0 ++ m2.b.drop N) (m2.words.take 0)) wb) := by
                  show OutB _ _ _ _ _
                  have h := HO2.out
                  simpa [layW] using h
                clear HO2 O0 O1 hb hNi k1 k2 k3 k4
                go_wp2
                go_loopw [14] (fun z wr => ∃ (y : Nat), y ≤ nw ∧ z = .int .i64 y ∧ Hid (OutB wz (.slice (some ⟨g8, 0, none⟩) L c6) L (layW m2.b (b0 ++ m2.b.drop N) (m2.words.take y)) wr)) (fun z _ => nw - (intOf z).toNat)
                case atStart => exact ⟨0, Nat.zero_le _, rfl, HO3⟩
                case round =>
                  clear HO3
                  obtain ⟨j, hj, rfl, HR⟩ := hrel
                  have hs := HK.out _ HR.out.bel
                  have z2 := hs.z2
                  by_cases hlt : j < nw
                  · have ht : (j : Int) < (nw : Int) := by omega
                    obtain ⟨a, ha⟩ : ∃ a, m2.words[j]? = some a := ⟨_, List.getElem?_eq_getElem (by have := HNF.out; omega)⟩
                    have hw := HW8.out a (List.mem_of_getElem? ha)
                    rw [← HNF.out.1] at hw
                    obtain ⟨g, c9, p0, p1, -, -, -, -, -⟩ := (hs.pt j a ha).ex
                    obtain ⟨bw, offw, rfl, -, hcw⟩ := hs.wr.at2 (by omega) (by omega)
                    have HCW : Hid (∀ wx, Below wz.heap.size wz wx → wx.cell? ⟨Z, 2, none⟩ = some (.slice (some ⟨bw, offw, none⟩) nw cw) ∧ wx.cell? ⟨bw, offw + j * 2, none⟩ = some (.int .i64 (a : Int)) ∧ wx.cell? ⟨bw, offw + j * 2 + 1, none⟩ = some (.slice (some ⟨g, 0, none⟩) 8 c9)) := fun wx hx => by
                      have hk := HK.out wx hx
                      obtain ⟨bw', offw', e, -, hcw'⟩ := hk.wr.at2 (by omega) (by omega)
                      injection e with e
                      injection e with e1 e2
                      subst e1; subst e2
                      exact ⟨hk.z2, hcw' _ _ p0, by rw [Nat.add_assoc]; exact hcw' _ _ p1⟩
                    have HSR : Hid (∀ wx, Below wz.heap.size wz wx → Reads wx wx.heap.size 1 (some ⟨g, 0, none⟩) 8 (cellsOf .u8 ((m2.b.drop a).take 8))) := fun wx hx => by
                      obtain ⟨g', c', p0', p1', -, -, -, p5', -⟩ := ((HK.out wx hx).pt j a ha).ex
                      rw [p1] at p1'
                      injection p1' with e
                      injection e with e1 e2 e3
                      injection e1 with e1
                      injection e1 with e1
                      subst e1
                      exact p5'
                    have e0 := (HCW.out _ HR.out.bel).2.1
                    obtain ⟨L8, hL8⟩ : ∃ L8, L8 = L - 8 := ⟨_, rfl⟩
                    have t1 : (L : Int) - 8 = (L8 : Int) := by omega
                    have t2 : IntKind.i64.wrap (L8 : Int) = (L8 : Int) := by rw [IntKind.wrap_i64]; omega
                    have t3 : ¬ (L8 : Int) < (a : Int) := by omega
                    have t4 : ¬ (a : Int) < 0 := by omega
                    have t5 : (a : Int) ≤ (L : Int) := by omega
                    have t6 : ¬ c6 = a := by omega
                    have t7 : a ≤ L := by omega
                    have hOd := HR.out.below (below_drewn (Below.refl _ _) 1 : Below wr.heap.size wr wr.drew)
                    obtain ⟨g', cur, eg, -, hblk, -, -, hcl, hct⟩ := row_open hOd.own (by omega)
                    injection eg with eg
                    injection eg with eg
                    subst eg
                    have MP : Hid (8 = Nat.min 8 (L - a)) := by show 8 = min 8 (L - a); omega
                    have FP : Hid (a + 8 ≤ cur.length) := by show _ ≤ _; omega
                    have LXL : Hid (((m2.b.drop a).take 8).length = 8) := by show _ = _; rw [List.length_take, List.length_drop]; have := HNF.out.1; omega
                    have LXC : Hid ((cellsOf .u8 ((m2.b.drop a).take 8)).length = 8) := by show _ = _; rw [cellsOf_length]; exact LXL.out
                    have HAL : Hid (a + 8 ≤ L) := hw
                    have HCU := Lib.hid (And.intro hcl hct)
                    have HOD := Lib.hid hOd
                    have HBK := Lib.hid hblk
                    have HJA := Lib.hid ha
                    have hk0 := HCW.out _ hOd.bel
                    clear hs p0 p1 hcw hw ha hL8 hOd hcl hct hblk
                    go_wp2
                    go_region_held3 (fun w' => w'.cell? ⟨Z, 2, none⟩ = some (.slice (some ⟨bw, offw, none⟩) nw cw) ∧ w'.cell? ⟨bw, offw + j * 2, none⟩ = some (.int .i64 (a : Int)) ∧ w'.cell? ⟨bw, offw + j * 2 + 1, none⟩ = some (.slice (some ⟨g, 0, none⟩) 8 c9))
                      (first | exact hk0 | exact hk6)
                      ((refine step_copy_blk rfl (.tmp 147) (.tmp 153) _ _ rfl 5 Try.underlying39 imByteOne _ _ _ _ _ _ rfl rfl g8 a 8 cur 5 HBK.out (cellsOf .u8 ((m2.b.drop a).take 8)) LXC.out MP.out (fun _ => ⟨rfl, by obtain ⟨ad, h0, _, hc⟩ := (HSR.out _ HOD.out.bel).2 (by omega); exact ⟨ad, h0, hc⟩⟩) FP.out (cellsOf_one _ _) ?_; intro w6 HG hc; have HO6 := Lib.hid (HOD.out.laid HCU.out.1 HCU.out.2 (by rw [LXL.out]; exact HAL.out) HG.out hc); have hk6 := HCW.out _ HO6.out.bel; clear HG hc))
                    go_wp2
                    go_roundw
                    case rel => exact ⟨j + 1, by omega, by go_num, by show OutB _ _ _ _ _; rw [layW_next HJA.out]; exact HO6.out⟩
                    case measure => simp [intOf]; omega
                  · obtain rfl : j = nw := by omega
                    have ht : ¬ (j : Int) < (j : Int) := by omega
                    have HOE : Hid (OutB wz (.slice (some ⟨g8, 0, none⟩) L c6) L m2.b wr) := by
                      have h := HR.out
                      rw [List.take_of_length_le (by have := HNF.out.2.2.1; omega), HLAY.out] at h
                      exact h
                    have RB8 := Lib.hid (Reads.of_own HOE.out.own)
                    have hbE := hs.bel
                    have m4 : True := trivial
                    clear hs HR
                    go_wp2_with (first
                      | (go_at_call 19; clear m4; go_loud (refine (BYT.out _ hbE).mono ?_; intro e wx hx9; obtain ⟨A9, n9, c99, rfl, -, r9, -, -, hb9, -⟩ := hx9.reads; have HR9 := Lib.hid r9; have hO9 := HOE.out.below hb9; have hk9 := HK.out _ hO9.bel; have q5 := hk9.q5; have HBR := Lib.hid hk9.br; have hbx := hk9.bel; have RB9 := Lib.hid (Reads.of_own hO9.own); have m5 : True := trivial; have m6 : True := trivial; clear hx9 r9 hO9 hk9))
                      | (go_at_call 18; clear m5; refine (same_self (some ⟨g8, 0, none⟩) A9 L n9 c6 c99 m2.b _ RB9.out HR9.out HBB.out).mono ?_; rintro e w9 ⟨rfl, rfl⟩)
                      | (go_at_call 18; clear m6; refine (same_self (some ⟨g8, 0, none⟩) Ar L L c6 cr m2.b _ RB9.out HBR.out HBB.out).mono ?_; rintro e w9 ⟨rfl, rfl⟩)
                      | (go_at_call 20; refine (BK.out _ hbx).mono ?_; rintro e wy ⟨rfl, hcB, b9, s9, hix⟩; have HIY := Lib.hid hix; have RWY := Lib.hid (Reads.of_own (own_chg (ROW.out _ hbx) hcB SNO.out)); have hb2x := HBL.out.trans (hbx.mono HBL.out.size); have hby := hb2x.trans (hcB.below hb2x.size (fun j _ hj => SB.out j hj)); clear hcB hix hb2x)
                      | (go_at_call 19; go_loud (refine (BY2.out _ _ _ _ HIY.out).mono ?_; intro e wt hxt; obtain ⟨At, nt, ct, rfl, -, rt, -, -, hbt, -⟩ := hxt.reads; have HRT := Lib.hid (HRTL.out wt At nt rt); have HRW := Lib.hid ((RWY.out.below hbt).more hbt.size); have hbyt := hby.trans (hbt.mono hby.size); clear hxt rt hbt))
                      | (go_at_call 18; refine (same_self At A7 nt N ct c7 b0 _ HRT.out HRW.out HBZ.out).mono ?_; rintro e w9 ⟨rfl, rfl⟩)
                      | (go_at_call 6; refine (awake_any _).mono ?_; rintro e wv ⟨rfl, hbv⟩; have hbw := hbyt.trans (hbv.mono hbyt.size)))
                    go_ret
                    exact ⟨rfl, HFIN.out _ hbw⟩

end Go.Proofs.Ythdnjjdlhhapbaa
