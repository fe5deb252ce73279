/-
  LAYER 17: the walk of ScanReads.
-/
import Derived.Test.YtjpfbkhjhainpaaGreatScRdE
import Derived.Test.YtjpfbkhjhainpaaGreatScLaw
import Derived.Test.YtjpfbkhjhainpaaGreatEnView
import Derived.BigQuiet
set_option linter.unusedVariables false
set_option maxRecDepth 100000
set_option linter.unusedSimpArgs false
namespace Go.Proofs.YtjpfbkhjhainpaaGreat
open Go.RowKit Go.Shelf

set_option maxHeartbeats 4000000 in
theorem reads_law (A : Option Addr) (n c : Nat) (l : List RC) (w : World) (hin : InRC w A n c l) :
    Calls Tryz.prog 3 #[.slice A n c] w fun e w' => e = .returned (.bool true) ∧ Below w.heap.size w w' := by
  have hle := hin.le
  have hcap := hin.cap
  have HH := Lib.hid hin
  have AW := Lib.hid scawake_any
  have NW := Lib.hid (fun (base G : Nat) (w1 : World) (hb : base ≤ w1.heap.size) (ht : IsTable w1 G) => inew_mib (base := base) G w1 ht hb)
  obtain ⟨i0, hi, hz0, hz1, hz2⟩ := info_parts recInfo
  clear hin
  go_enter Tryz.func3, Tryz.ntmps3
  go_wp2
  go_loopw [3, 4] (fun v i wr => ∃ k N : Nat, k ≤ n ∧ k ≤ 30 ∧ i = .int .i64 k ∧ v = .int .i64 N ∧ N ≤ 210000 * k ∧ w = wr) (fun _ i _ => 200 - (intOf i).toNat)
  case atStart => exact ⟨0, 0, Nat.zero_le _, Nat.zero_le _, rfl, rfl, Nat.zero_le _, rfl⟩
  case round =>
    obtain ⟨k, N, hk, hk30, rfl, rfl, hN, rfl⟩ := hrel
    by_cases hmore : k < n ∧ k < 30
    · obtain ⟨hlt, h30⟩ := hmore
      obtain ⟨b, off, r, rfl, hb, hr, hok, x0, x1, x2, x3, x4⟩ := HH.out.at_ (Below.refl _ _) hlt
      have ht := hok.txt
      have hlti : (k : Int) < (n : Int) := by omega
      have h30i : (k : Int) < 30 := by omega
      have htc := ht.cap
      have hte := ht.le
      have HT := Lib.hid ht
      obtain ⟨rA, hrA⟩ : ∃ x, r.A = x := ⟨_, rfl⟩
      obtain ⟨rn, hrn⟩ : ∃ x, r.n = x := ⟨_, rfl⟩
      obtain ⟨rc, hrc⟩ : ∃ x, r.c = x := ⟨_, rfl⟩
      rw [hrA, hrn, hrc] at HT x4
      rw [hrn] at hte
      rw [hrc] at htc hte
      clear hok ht x0 x1 x2 x3 hr hrA hrn hrc
      go_wp2
      go_loopw [3, 5] (fun v i wr => ∃ q M : Nat, q ≤ rn ∧ q ≤ 70 ∧ i = .int .i64 q ∧ v = .int .i64 M ∧ M ≤ 210000 * k + 3000 * q ∧ w = wr) (fun _ i _ => 200 - (intOf i).toNat)
      case atStart => exact ⟨0, N, Nat.zero_le _, Nat.zero_le _, rfl, rfl, by omega, rfl⟩
      case round =>
        obtain ⟨q, M, hq, hq70, rfl, rfl, hM, rfl⟩ := hrel
        by_cases hmo : q < rn ∧ q < 70
        · obtain ⟨hqlt, hq7⟩ := hmo
          have hqi : (q : Int) < (rn : Int) := by omega
          have hq7i : (q : Int) < 70 := by omega
          obtain ⟨b2, off2, rfl, hb2, hc2⟩ := HT.out.at_ (by omega)
          have y := hc2 q hqlt
          have hz : (nthT r.its q).size ≤ maxLen := HT.out.size hqlt
          unfold maxLen at hz
          obtain ⟨s, hs⟩ : ∃ s, nthT r.its q = s := ⟨_, rfl⟩
          rw [hs] at y hz
          clear hc2 hs
          go_wp2
          go_roundw
          case rel => exact ⟨q + 1, M + min s.size 3000, by omega, by omega, by go_num, by congr 1; omega, by omega, by first | rfl | trivial⟩
          case measure => simp [intOf]; omega
        · have hend : ¬ (q : Int) < (rn : Int) ∨ ((q : Int) < (rn : Int) ∧ ¬ (q : Int) < 70) := by omega
          clear hmo
          rcases hend with hend | ⟨hend1, hend⟩
          all_goals
            go_wp2
            go_roundw
            case rel => exact ⟨k + 1, M, by omega, by omega, by go_num, rfl, by omega, by first | rfl | trivial⟩
            case measure => simp [intOf]; omega
    · have hend : ¬ (k : Int) < (n : Int) ∨ ((k : Int) < (n : Int) ∧ ¬ (k : Int) < 30) := by omega
      by_cases hn30 : n ≤ 30
      · have hge : ¬ (k : Int) < (n : Int) := by omega
        have h30i : ¬ (30 : Int) < (n : Int) := by omega
        clear hmore hend
        by_cases hbig : 9000 < N
        · have hbi : (9000 : Int) < (N : Int) := by omega
          go_wp2_with (go_at_call 4; refine (AW.out _).mono ?_; rintro e w5 ⟨rfl, hb5⟩)
          go_ret
          exact ⟨rfl, hb5⟩
        have hbi : ¬ (9000 : Int) < (N : Int) := by omega
        clear hbig hk30
        go_wp2
        obtain ⟨wh, hwh⟩ : ∃ wh, w.alloc (.cells #[.int .u64 0, .int .u64 4, .int .i64 3, .int .i64 2, .int .u64 0] 29) = wh := ⟨_, rfl⟩
        have hb0 : Below w.heap.size w wh := hwh ▸ boxed w _
        have hhd : Blk wh w.heap.size 29 #[.int .u64 0, .int .u64 4, .int .i64 3, .int .i64 2, .int .u64 0] := hwh ▸ Blk.new w _ _
        have HD : Hid (∀ wx, Below wh.heap.size wh wx → HdAt wx w.heap.size 0 4 3 2 0) := Lib.hid (fun wx hx => hdAt_blk (hhd.below hx hhd.lt))
        have HB0 := Lib.hid hb0
        rw [hwh]
        obtain ⟨gh, hgh⟩ : ∃ gh, w.heap.size = gh := ⟨_, rfl⟩
        rw [hgh] at HD
        try rw [hgh]
        have hb : Below wh.heap.size wh wh.drew := below_drewn (Below.refl _ _) 1
        have HK := Lib.hid (HD.out _ hb)
        clear hwh hhd hb0 hgh
        go_region_held3 (fun w' => HdAt w' gh 0 4 3 2 0)
          (first | assumption | exact HK.out | exact HD.out _ (by assumption))
          (first
            | (go_at_call 6; refine (crcMake_any _).mono ?_; rintro e w1 ⟨rfl, ht, hb1⟩; have HT := Lib.hid ht; have hb := hb.trans (hb1.mono hb.size); clear ht hb1)
            | (go_at_call 5; refine (NW.out wh.heap.size _ w1 hb.size HT.out).mono ?_; rintro e w2 ⟨p, rfl, hb2, S2, bs2, hd2⟩; have HX := Lib.hid hd2; have hb := hb.trans (hb2.mono hb.size); clear hb2 hd2))
        have HR0 : Hid (RcdAt wh w2 p (.slice none 0 0) 0 0) := Lib.hid (RcdAt.start hb HX.out)
        have HIN := Lib.hid (HH.out.below HB0.out)
        clear HX hb HK HT NW
        go_wp2
        go_loopw [8, 9] (fun v i wr => ∃ (m k : Nat) (A1 : Option Addr) (c1 : Nat), v = .slice A1 m c1 ∧ i = .int .i64 k ∧ k ≤ n ∧ Hid (RcdAt wh wr p (.slice A1 m c1) m k)) (fun _ i _ => 100 - (intOf i).toNat)
        case atStart => exact ⟨0, 0, none, 0, rfl, rfl, Nat.zero_le _, HR0⟩
        case round =>
          clear HR0
          obtain ⟨m, k, A1, c1, rfl, rfl, hk, HA⟩ := hrel
          have HBL := Lib.hid HA.out.below
          by_cases hlt : k < n
          · have h40 : k < 40 := by omega
            obtain ⟨b, off, r, rfl, hb, hr, hok, x0, x1, x2, x3, x4⟩ := HIN.out.at_ HBL.out hlt
            have hrn : r.n ≤ 9223372036854775807 := Nat.le_trans hok.txt.le hok.txt.cap
            have hlti : (k : Int) < (n : Int) := by omega
            have hbw : b < wr.heap.size := Nat.lt_of_lt_of_le hb HBL.out.size
            have XK := Lib.hid (fun wx (hx : Below wr.heap.size wr wx) => (⟨(hx.cell (p := ⟨b, off + k * 5, none⟩) hbw).trans x0, (hx.cell (p := ⟨b, off + k * 5 + 1, none⟩) hbw).trans x1, (hx.cell (p := ⟨b, off + k * 5 + 2, none⟩) hbw).trans x2, (hx.cell (p := ⟨b, off + k * 5 + 3, none⟩) hbw).trans x3, (hx.cell (p := ⟨b, off + k * 5 + 4, none⟩) hbw).trans x4⟩ :
              wx.cell? ⟨b, off + k * 5, none⟩ = some (.int .u64 r.seq) ∧ wx.cell? ⟨b, off + k * 5 + 1, none⟩ = some (.int .u64 r.real) ∧ wx.cell? ⟨b, off + k * 5 + 2, none⟩ = some (.int .u64 r.mono) ∧ wx.cell? ⟨b, off + k * 5 + 3, none⟩ = some (.int .u64 r.boot) ∧ wx.cell? ⟨b, off + k * 5 + 4, none⟩ = some (.slice r.A r.n r.c)))
            have CK := Lib.hid (fun wx (hx : Below wr.heap.size wr wx) => rchecked_any (B := wh.heap.size) r wx (hok.below (HBL.out.trans (hx.mono HBL.out.size))).txt (Nat.le_trans HBL.out.size hx.size) hrn)
            obtain ⟨L, hL⟩ : ∃ L, chkL r.its = L := ⟨_, rfl⟩
            obtain ⟨ec, hec⟩ : ∃ ec, chkE r.its = ec := ⟨_, rfl⟩
            rw [hL, hec] at CK
            have HLL := Lib.hid hL
            have s1 := sr5a (m := m) (by have := HA.out.le; omega)
            have s2 := sr5b (m := m) (by have := HA.out.le; omega)
            have AD := Lib.hid (fun wx (hx : Below wr.heap.size wr wx) => RcdAt.add3 hec HA.out h40 hx ((hok.below (HBL.out.trans (hx.mono HBL.out.size))).more (Nat.le_trans HBL.out.size hx.size)) hrn)
            unfold RC.v at CK AD
            clear hL hec hr hok hrn hb hbw
            go_wp2_with (first
              | (go_at_call 7; go_loud (refine (CK.out _ (Below.refl _ _)).mono ?_; rintro e w1 ⟨B1, d1, rfl, ht1, hb1, hf1⟩; have HCB := Lib.hid (ChkBox.make (r := r) ht1 hb1 hf1); obtain ⟨u0, u1, u2, u3, u4⟩ := XK.out _ HCB.out.below; clear ht1 hb1 hf1))
              | (go_at_call 8; go_loud (refine (AD.out _ HCB.out.below).mono ?_; rintro e w3 (⟨a, rfl, rfl, h3⟩ | ⟨E, rfl, hE, rfl, h3⟩ | ⟨E, rfl, hE, hE2, h3⟩)))
              | (go_at_call 9; go_loud (refine (RcdTwo.done HLL.out h3 h40 HCB.out.txt HCB.out.fr HCB.out.box HCB.out.lo).mono ?_; rintro e w4 ⟨rfl, h4⟩; obtain ⟨hbx4, cs, hown4, hb4, hnx4⟩ := h4.next HLL.out; have y0 : w4.cell? ⟨w1.heap.size, 0, none⟩ = some (.int .u64 r.seq) := hbx4.cell 0; have y1 : w4.cell? ⟨w1.heap.size, 1, none⟩ = some (.int .u64 r.real) := hbx4.cell 1; have y2 : w4.cell? ⟨w1.heap.size, 2, none⟩ = some (.int .u64 r.mono) := hbx4.cell 2; have y3 : w4.cell? ⟨w1.heap.size, 3, none⟩ = some (.int .u64 r.boot) := hbx4.cell 3; have y4 : w4.cell? ⟨w1.heap.size, 4, none⟩ = some (.slice B1 L.length d1) := hbx4.cell 4; have HO4 := Lib.hid hown4; have HNX := Lib.hid hnx4; clear h3 h4 hbx4 hown4 hnx4))
              | (at_builtin; go_loud (refine wpList_append_any _ rfl _ _ 22 rfl wh.heap.size 26 i0 (.agg #[.int .u64 0, .int .u64 0, .int .u64 0, .int .u64 0, .slice none 0 0]) 5 56 Tryz.underlying22 hi hz0 hz1 hz2 rfl (by decide) (.slice A1 m c1) m cs rfl (HO4.out.alloc _) _ _ 1 1 [.int .u64 r.seq, .int .u64 r.real, .int .u64 r.mono, .int .u64 r.boot, .slice B1 L.length d1] rfl (recNew w4 _ _ _ _ _ _) (recOne _ _ _ _ _ _ _) s1 s2 (by simp; omega) ?_; intro v1 w6 hown1 hg1 hat1; obtain ⟨A3, c3, rfl, -, -⟩ := own_form hown1; have H6 := Lib.hid (HNX.out w6 _ _ hown1 hg1 hat1); clear hown1 hg1 hat1)))
            · go_roundw
              case rel => exact ⟨m + 1, k + 1, A3, c3, rfl, by go_num, by omega, H6⟩
              case measure => simp [intOf]; omega
            all_goals
              go_roundw
              case rel => exact ⟨m, k + 1, A1, c1, rfl, by go_num, by omega, Lib.hid h3⟩
              case measure => simp [intOf]; omega
          · have hge : ¬ (k : Int) < (n : Int) := by omega
            obtain ⟨A3, c3, bs, L, lw, e1, hEnd⟩ := HA.out.fin (by omega)
            injection e1 with e1 e3 e4
            subst e1; subst e4
            obtain ⟨NB, hNB⟩ : ∃ NB, bs.length = NB := ⟨_, rfl⟩
            have HE := Lib.hid hEnd
            have HN := Lib.hid hNB
            have HDR : Hid (∀ wx, Below wr.heap.size wr wx → HdAt wx gh 0 4 3 2 0) := Lib.hid (fun wx hx => HD.out wx (HBL.out.trans (hx.mono HBL.out.size)))
            have BY := Lib.hid (fun wx (hx : Below wr.heap.size wr wx) => RcdEnd.told HE.out HN.out hx)
            have TL := Lib.hid (fun wx (hx : Below wr.heap.size wr wx) => HE.out.tail wx hx)
            rw [hNB] at TL
            clear hEnd hNB e3 hlt HIN HH HA HD
            go_wp2
            have hb : Below wr.heap.size wr wr.drew := below_drewn (Below.refl _ _) 1
            have HK := Lib.hid (HDR.out _ hb)
            go_region_held3 (fun w' => HdAt w' gh 0 4 3 2 0)
              (first | assumption | exact HK.out | exact HDR.out _ hb)
              (first
                | (go_at_call 11; refine (BY.out _ hb).mono ?_; rintro e w5 ⟨A5, c5, rfl, hr5, hb5, hl5, hc5⟩; have H5 := Lib.hid (And.intro hr5 (And.intro hl5 hc5)); have hb := hb.trans (hb5.mono hb.size); have hq := Below.refl w5.heap.size w5; clear hr5 hb5 hl5 hc5)
                | (go_at_call 12; refine (objects296 _).mono ?_; rintro e w6 ⟨rfl, hb6⟩; have hq := hq.trans (hb6.mono hq.size); have hb := hb.trans (hb6.mono hb.size); clear hb6)
                | (go_at_call 13; refine (TL.out _ hb).mono ?_; rintro e w7 ⟨rfl, rfl⟩)
                | (go_at_call 10; refine (RcdEnd.ents HE.out HN.out (H5.out.1.below hq) hq.size H5.out.2.1 H5.out.2.2).mono ?_; rintro e w8 ⟨A8, c8, l8, rfl, hR8, hS8, hb8⟩; have H8 := Lib.hid (And.intro hR8 hS8); have hb := hb.trans (hb8.mono hb.size); clear hR8 hS8 hb8 hq H5))
            go_wp2
            have hb := below_drewn hb 1
            have hy := below_drewn (Below.refl w8.heap.size w8) 1
            have HK := Lib.hid (HDR.out _ hb)
            go_region_held3 (fun w' => HdAt w' gh 0 4 3 2 0)
              (first | assumption | exact HK.out | exact HDR.out _ hb)
              (first
                | (go_at_call 14; refine (reall_same A8 A1 m c8 c1 l8 lw _ _ _ (H8.out.1.below hy) (HE.out.recs.below hb) hy.size hb.size H8.out.2).mono ?_; rintro e w9 ⟨rfl, hb9⟩; have hb := hb.trans (hb9.mono hb.size); clear hb9 hy)
                | (go_at_call 11; refine (BY.out _ hb).mono ?_; rintro e w5 ⟨A5, c5, rfl, hr5, hb5, hl5, hc5⟩; have H5 := Lib.hid (And.intro hr5 (And.intro hl5 hc5)); have hb := hb.trans (hb5.mono hb.size); have hq := Below.refl w5.heap.size w5; clear hr5 hb5 hl5 hc5)
                | (go_at_call 12; refine (objects296 _).mono ?_; rintro e w6 ⟨rfl, hb6⟩; have hq := hq.trans (hb6.mono hq.size); have hb := hb.trans (hb6.mono hb.size); clear hb6)
                | (go_at_call 13; refine (TL.out _ hb).mono ?_; rintro e w7 ⟨rfl, rfl⟩)
                | (go_at_call 15; refine (RcdEnd.whole HE.out HN.out (H5.out.1.below hq) hq.size H5.out.2.1 H5.out.2.2).mono ?_; rintro e w8 ⟨rfl, hb8⟩; have hb := hb.trans (hb8.mono hb.size); clear hb8 hq)
                | (go_at_call 4; refine (AW.out _).mono ?_; rintro e wA ⟨rfl, hbA⟩; have hb := hb.trans (hbA.mono hb.size); clear hbA))
            go_wp2
            go_ret
            exact ⟨rfl, HB0.out.trans ((HBL.out.trans (hb.mono HBL.out.size)).mono HB0.out.size)⟩
      · have h30i : (30 : Int) < (n : Int) := by omega
        clear hmore
        rcases hend with hend | ⟨hend1, hend⟩
        all_goals
          go_wp2_with (go_at_call 4; refine (AW.out _).mono ?_; rintro e w5 ⟨rfl, hb5⟩)
          go_ret
          exact ⟨rfl, hb5⟩
end Go.Proofs.YtjpfbkhjhainpaaGreat
