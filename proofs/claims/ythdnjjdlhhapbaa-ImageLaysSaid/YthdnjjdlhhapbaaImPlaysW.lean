/-
  LAYER 12: the walk of ImagePlays.
-/
import Derived.Test.YthdnjjdlhhapbaaImLaw
set_option linter.unusedVariables false
set_option maxRecDepth 100000
set_option linter.unusedSimpArgs false
namespace Go.Proofs.Ythdnjjdlhhapbaa
open Go.RowKit

/-- Two headers in boxes. -/
theorem two_boxes (w : World) (D F : Int) {wx : World} (hx : Below ((w.alloc (.cells #[.int .u64 5, .int .u64 6, .int .i64 D, .int .i64 F, .int .u64 0] 27)).alloc (.cells #[.int .u64 5, .int .u64 6, .int .i64 D, .int .i64 F, .int .u64 0] 28)).heap.size ((w.alloc (.cells #[.int .u64 5, .int .u64 6, .int .i64 D, .int .i64 F, .int .u64 0] 27)).alloc (.cells #[.int .u64 5, .int .u64 6, .int .i64 D, .int .i64 F, .int .u64 0] 28)) wx) :
    HdAt wx w.heap.size 5 6 D F 0 ∧ HdAt wx (w.heap.size + 1) 5 6 D F 0 ∧ Below w.heap.size w wx ∧ Blk wx w.heap.size 27 #[.int .u64 5, .int .u64 6, .int .i64 D, .int .i64 F, .int .u64 0] ∧ w.heap.size + 2 ≤ wx.heap.size := by
  have h1 := (Blk.new w 27 #[.int .u64 5, .int .u64 6, .int .i64 D, .int .i64 F, .int .u64 0]).alloc (.cells #[.int .u64 5, .int .u64 6, .int .i64 D, .int .i64 F, .int .u64 0] 28)
  have h2 := Blk.new (w.alloc (.cells #[.int .u64 5, .int .u64 6, .int .i64 D, .int .i64 F, .int .u64 0] 27)) 28 #[.int .u64 5, .int .u64 6, .int .i64 D, .int .i64 F, .int .u64 0]
  have h3 : Below w.heap.size w ((w.alloc (.cells #[.int .u64 5, .int .u64 6, .int .i64 D, .int .i64 F, .int .u64 0] 27)).alloc (.cells #[.int .u64 5, .int .u64 6, .int .i64 D, .int .i64 F, .int .u64 0] 28)) := (boxed _ _).alloc (by simp) _
  rw [World.size_alloc] at h2
  have hs := hx.size
  simp at hs
  have h4 := h1.below hx h1.lt
  exact ⟨hdAt_blk h4, hdAt_blk (h2.below hx h2.lt), h3.trans (hx.mono h3.size), h4, by omega⟩

set_option maxHeartbeats 4000000 in
theorem plays_law (a b lim : Int) (A : Option Addr) (len cap : Nat) (l : List ActI) (at_ : Int) (w : World) (h1 : (Lit.int .u8 a).wf = true) (h2 : (Lit.int .u8 b).wf = true) (h3 : (Lit.int .u16 lim).wf = true) (hin : InActsI w A len cap l) (h5 : (Lit.int .i64 at_).wf = true) :
    Calls Try.prog 3 #[.int .u8 a, .int .u8 b, .int .u16 lim, .slice A len cap, .int .i64 at_] w fun e w' => e = .returned (.bool true) ∧ Below w.heap.size w w' := by
  have ba := wf_u8_bd h1
  have bb := wf_u8_bd h2
  have bl : 0 ≤ lim ∧ lim < 65536 := by have := bounds_u16 h3; omega
  have bt := bounds_i64 h5
  obtain ⟨lm, rfl⟩ : ∃ lm : Nat, lim = lm := ⟨lim.toNat, by omega⟩
  obtain ⟨D, hD⟩ : ∃ D, 1 + a % 8 = D := ⟨_, rfl⟩
  obtain ⟨F, hF⟩ : ∃ F, 1 + b % 8 = F := ⟨_, rfl⟩
  have hdb : 1 ≤ D ∧ D ≤ 256 := by omega
  have hfb : 1 ≤ F ∧ F ≤ 256 := by omega
  have hr : rightH D F = true := by unfold rightH; simp; omega
  have hle := hin.le
  have hcap := hin.cap
  have HE := Lib.hid (fun w1 => heads_any a b D F w1 ba.1 ba.2 bb.1 bb.2 hD hF)
  have HBOX := Lib.hid (fun w1 wx hx => two_boxes w1 D F (wx := wx) hx)
  have NW := Lib.hid (fun G w1 bas (ht : IsTable w1 G) (hb : bas ≤ w1.heap.size) => inew_yes (base := bas) G 5 6 D F 0 lm w1 hr ht hb)
  have RN := Lib.hid (fun w1 bas (hb : bas ≤ w1.heap.size) => rnew_yes (base := bas) 5 6 D F 0 lm w1 hr (by omega) (by omega) (by omega) (by omega) hb)
  have HMD := Lib.hid (fun wB w1 w2 w3 w4 e e2 x1 (hb : Below wB.heap.size wB w1) (hb2 : Below w2.heap.size w2 w3) x2 => AtI.made (wB := wB) (w1 := w1) (w2 := w2) (lm := lm) (e := e) (e2 := e2) hr (by omega) x1 hb hb2 (w4 := w4) x2)
  have SH := Lib.hid (fun (wB wr : World) (p q : Nat) (T : Nat → Prop) (m : IM) (k : Nat) (hx : AtI wB wr p q T D F m k) (hk : k ≤ 25) => shows_any at_ wr hx.two hx.ok (by omega) bt.1 bt.2 hdb hfb)
  have t1 : IntKind.i64.wrap (lm : Int) = (lm : Int) := by rw [IntKind.wrap_i64]; omega
  have HIN := Lib.hid hin
  have m1 : True := trivial
  clear hin h1 h2 h3 h5 ba bb hD hF hdb hfb hr bt
  go_enter Try.func3, Try.ntmps3
  go_wp2_with (first
    | (go_at_call 6; clear m1; refine (awake_any _).mono ?_; rintro e w1 ⟨rfl, hb1⟩)
    | (go_at_call 7; refine (HE.out _).mono ?_; rintro e w2 ⟨rfl, hb2⟩; have hb2 := hb1.trans (hb2.mono hb1.size)))
  obtain ⟨wB, hwB⟩ : ∃ wB, (w2.alloc (.cells #[.int .u64 5, .int .u64 6, .int .i64 D, .int .i64 F, .int .u64 0] 27)).alloc (.cells #[.int .u64 5, .int .u64 6, .int .i64 D, .int .i64 F, .int .u64 0] 28) = wB := ⟨_, rfl⟩
  have HBX : Hid (∀ wx, Below wB.heap.size wB wx → HdAt wx w2.heap.size 5 6 D F 0 ∧ HdAt wx (w2.heap.size + 1) 5 6 D F 0 ∧ Below w2.heap.size w2 wx ∧ Blk wx w2.heap.size 27 #[.int .u64 5, .int .u64 6, .int .i64 D, .int .i64 F, .int .u64 0] ∧ w2.heap.size + 2 ≤ wx.heap.size) := fun wx hx => by
    rw [← hwB] at hx
    exact HBOX.out w2 wx hx
  rw [hwB]
  clear hwB HBOX
  have HHD : Hid (∀ (w1 : World) (p q : Nat) (T : Nat → Prop) (m : IM) (k : Nat), AtI wB w1 p q T D F m k → Calls Try.prog 14 #[.pointer (some ⟨p, 0, none⟩)] w1 fun e w' => e = .returned (hdV 5 6 D F 0) ∧ Below w1.heap.size w1 w') := fun w1 p q T m k hx => by
    obtain ⟨S, S2, bv, sv, bv2, wv2, sv2, c1, -, -, -, -⟩ := hx.two.ex
    exact ihead_any w1 c1
  have HWB : Hid (w.heap.size ≤ wB.heap.size) := by
    have h1 := (HBX.out wB (Below.refl _ _)).2.2.2.2
    have h2 := hb2.size
    show _ ≤ _; omega
  have hb : Below wB.heap.size wB wB.drew := below_drewn (Below.refl _ _) 1
  have HB2 := Lib.hid hb2
  clear hb1 hb2
  go_region_held3 (fun w' => HdAt w' w2.heap.size 5 6 D F 0 ∧ HdAt w' (w2.heap.size + 1) 5 6 D F 0)
    (exact ⟨(HBX.out _ hb).1, (HBX.out _ hb).2.1⟩)
    (first
      | (go_at_call 9; refine (crcMake_any _).mono ?_; rintro e w3 ⟨rfl, ht, hb3⟩; have HT := Lib.hid ht; have hb := hb.trans (hb3.mono hb.size); have HB3 := Lib.hid hb; clear ht hb3)
      | (go_at_call 8; refine (NW.out _ _ wB.heap.size HT.out hb.size).mono ?_; rintro e w4 hx; have HX4 := Lib.hid hx; obtain ⟨p, bv4, sv4, rfl, hb4, -⟩ := hx; have hb := hb.trans (hb4.mono hb.size); clear hb4)
      | (go_at_call 10; refine (RN.out _ wB.heap.size hb.size).mono ?_; rintro e w5 hy; obtain ⟨p9, q, T9, e1, rfl, hAt⟩ := HMD.out wB _ w4 w4 w5 _ _ HX4.out HB3.out (Below.refl _ _) hy; have HAT := Lib.hid (And.intro e1 hAt); have hb := hAt.bel; clear hy e1 hAt))
  obtain ⟨e1, hAt⟩ := HAT.out
  injection e1 with e1
  injection e1 with e1
  injection e1 with e1
  injection e1 with e1
  subst e1
  have HS := Lib.hid hAt
  generalize newB 5 6 D F 0 = nb at HS
  clear HAT hAt hb HMD NW RN HT HX4 HB3
  go_wp2
  go_loopw [15] (fun z wr => ∃ (y : Nat) (T : Nat → Prop) (m : IM), y ≤ len ∧ y ≤ 25 ∧ z = .int .i64 y ∧ Hid (AtI wB wr p q T D F m y)) (fun z _ => len - (intOf z).toNat)
  case atStart => exact ⟨0, _, _, Nat.zero_le _, Nat.zero_le _, rfl, HS⟩
  case round =>
    clear HS
    obtain ⟨y, T, m, hy, hy25, rfl, H⟩ := hrel
    have HWW := Lib.hid (fun wx (hx : Below wB.heap.size wB wx) => HB2.out.trans ((HBX.out wx hx).2.2.1.mono HB2.out.size))
    by_cases hlt : y < len ∧ y < 25
    · obtain ⟨hlt, h25⟩ := hlt
      have u1 : (y : Int) < (len : Int) := by omega
      have u2 : (y : Int) < 25 := by omega
      obtain ⟨bb, off, ac, rfl, -, -, hok, y0, y1, y2, y3, y4, y5, y6⟩ := HIN.out.at_ (HWW.out _ H.out.bel) hlt
      have LG := Lib.hid (light_any ac wr)
      cases hlb : lightA ac with
      | false =>
        rw [hlb] at LG
        clear hlb hok
        go_wp2_with (first
          | (go_at_call 11; (with_reducible refine LG.out.mono ?_); rintro e w6 ⟨rfl, hb6⟩)
          | (go_at_call 6; refine (awake_any _).mono ?_; rintro e w7 ⟨rfl, hb7⟩))
        go_ret
        have hh := H.out.later hb6
        exact ⟨rfl, HWW.out _ (hh.bel.trans (hb7.mono hh.bel.size))⟩
      | true =>
        rw [hlb] at LG
        have DO := Lib.hid (fun (w1 : World) (hb : Below wr.heap.size wr w1) => does_any ac w1 (H.out.later hb).two H.out.ok (by omega) (ActAt.in_ hok HWB.out (HWW.out _ (H.out.later hb).bel)) H.out.len8)
        have NX := Lib.hid (fun (w1 w2 : World) (e : Ending) (hb : Below wr.heap.size wr w1) (hd : IDid wB.heap.size T p q 5 6 D F 0 (m.act ac) w1 e w2) => H.out.next hb hok.bytes hd)
        clear hlb hok
        go_wp2_with (first
          | (go_at_call 11; (with_reducible refine LG.out.mono ?_); rintro e w6 ⟨rfl, hb6⟩; obtain ⟨z0, z1, z2, z3, z4, z5, z6⟩ := act_cells7 y0 y1 y2 y3 y4 y5 y6 hb6)
          | (go_at_call 12; go_loud ((with_reducible refine (DO.out _ hb6).mono ?_); rintro e w7 hd; obtain ⟨T', rfl, hN, -⟩ := NX.out _ _ _ hb6 hd; have HN := Lib.hid hN; clear hd hN))
          | (go_at_call 13; go_loud ((with_reducible refine (SH.out wB w7 p q T' _ (y + 1) HN.out (by omega)).mono ?_); rintro e w8 ⟨rfl, hb8⟩; have HN8 := Lib.hid (HN.out.later hb8); clear hb8)))
        go_roundw
        case rel => exact ⟨y + 1, T', _, by omega, by omega, by go_num, HN8⟩
        case measure => simp [intOf]; omega
    · have hxx : (¬ (y : Int) < (len : Int)) ∨ ((y : Int) < (len : Int) ∧ ¬ (y : Int) < 25) := by omega
      have HHE := Lib.hid (HHD.out wr.drew p q T m y (H.out.later (below_drewn (Below.refl _ _) 1)))
      have hb : Below wB.heap.size wB wr.drew := below_drewn H.out.bel 1
      clear hlt
      rcases hxx with u1 | ⟨u1, u2⟩
      all_goals
        go_wp2
        go_region_held3 (fun w' => HdAt w' w2.heap.size 5 6 D F 0)
          (exact (HBX.out _ hb).1)
          (first
            | (go_at_call 14; go_loud (refine HHE.out.mono ?_; rintro e w6 ⟨rfl, hb6⟩; have hb := hb.trans (hb6.mono hb.size); clear hb6))
            | (go_at_call 6; go_loud (refine (awake_any _).mono ?_; rintro e w7 ⟨rfl, hb7⟩; have hb := hb.trans (hb7.mono hb.size); clear hb7)))
        go_wp2
        go_ret
        exact ⟨rfl, HWW.out _ hb⟩

end Go.Proofs.Ythdnjjdlhhapbaa
