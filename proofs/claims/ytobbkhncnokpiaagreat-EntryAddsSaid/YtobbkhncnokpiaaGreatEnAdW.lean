/-
  LAYER 16: the walk of EntryAdds.
-/
import Derived.Test.YtobbkhncnokpiaaGreatEnAdA
set_option linter.unusedVariables false
set_option maxRecDepth 100000
set_option linter.unusedSimpArgs false
namespace Go.Proofs.YtobbkhncnokpiaaGreat
open Go.RowKit Go.Shelf

theorem AdFive.drew {w wz : World} {p lim m k g g15 g17 b off c c1 : Nat} {v : Value} {r : RC} {A A8 : Option Addr} {L : List ByteArray} (H : AdFive w wz p lim v m k r A c g A8 g15 g17 b off c1 L) : Below wz.heap.size wz (wz.drewN 1) := below_drewn (Below.refl _ _) 1
theorem ad_same (r : RC) (A : Option Addr) (wx : World) (h1 : Txt wx wx.heap.size A r.n r.n r.its) (h2 : Txt wx wx.heap.size r.A r.n r.c r.its) :
    Calls Tryz.prog 17 #[.agg #[.int .u64 r.seq, .int .u64 r.real, .int .u64 r.mono, .int .u64 r.boot, .slice A r.n r.n], .agg #[.int .u64 r.seq, .int .u64 r.real, .int .u64 r.mono, .int .u64 r.boot, .slice r.A r.n r.c]] wx fun e w' => e = .returned (.bool true) ∧ Below wx.heap.size wx w' := by
  have h := resame_any ⟨r.seq, r.real, r.mono, r.boot, A, r.n, r.n, r.its⟩ r _ _ wx h1 h2 (Nat.le_refl _) (Nat.le_refl _)
  have hs : RC.same ⟨r.seq, r.real, r.mono, r.boot, A, r.n, r.n, r.its⟩ r = true := same_refl rfl rfl rfl rfl rfl
  rw [hs] at h
  exact h
set_option maxHeartbeats 3000000 in
theorem adds_law (A : Option Addr) (n c : Nat) (l : List RC) (lim0 i : Int) (w : World) (hin : InRC w A n c l) (hlm : (Lit.int .u16 lim0).wf = true) (hiw : (Lit.int .i64 i).wf = true) :
    Calls Tryz.prog 3 #[.slice A n c, .int .u16 lim0, .int .i64 i] w fun e w' => e = .returned (.bool true) ∧ Below w.heap.size w w' := by
  have hib := bounds_i64 hiw
  have hlb := bounds_u16 hlm
  obtain ⟨lm, rfl⟩ : ∃ lm : Nat, lim0 = lm := ⟨lim0.toNat, by omega⟩
  have hwl : IntKind.i64.wrap (lm : Int) = (lm : Int) := wrap_i64_of (by omega) (by omega)
  have hwl2 : IntKind.i64.wrap (304 + (lm : Int)) = ((304 + lm : Nat) : Int) := by rw [wrap_i64_of (by omega) (by omega)]; omega
  have AW := Lib.hid eawake_any
  have LI := Lib.hid (fun wx (hb : Below w.heap.size w wx) => light_any wx (hin.below hb))
  have FR := Lib.hid (fun wx (hb : w.heap.size ≤ wx.heap.size) => fresh_ed (base := w.heap.size) (304 + lm) wx hb (by omega))
  have hcap := hin.cap
  have hle := hin.le
  have HIN := Lib.hid hin
  have HIB := Lib.hid hib
  clear hin hlm hiw hlb hib
  unfold LightT at LI
  obtain ⟨i0, hi, hz0, hz1, hz2⟩ := info_parts recInfo
  go_enter Tryz.func3, Tryz.ntmps3
  have m1 : True := trivial
  go_wp2_with (first
    | (go_at_call 7; clear m1; refine (AW.out _).mono ?_; rintro e w1 ⟨rfl, hb1⟩)
    | (go_at_call 8; refine (LI.out _ hb1).mono ?_; rintro e w2 ⟨q, rfl, rfl, hq⟩; cases q)
    | (go_at_call 9; go_loud (refine (FR.out _ hb1.size).mono ?_; rintro e w3 ⟨p, rfl, hb3, bs, hD⟩))
    | (go_at_call 7; refine (AW.out _).mono ?_; rintro e w5 ⟨rfl, hb5⟩))
  · go_ret
    exact ⟨rfl, hb1.trans (hb5.mono hb1.size)⟩
  obtain ⟨lim, hlim⟩ : ∃ lim, 304 + lm = lim := ⟨_, rfl⟩
  rw [hlim] at hD
  have HR0 : Hid (AdAt w w3 p lim (.slice none 0 0) 0 0 bs) := Lib.hid (AdAt.start (hb1.trans (hb3.mono hb1.size)) (hD.mono (fun j hj => hj) (fun j hj => ⟨Nat.le_trans hb1.size hj.1, hj.2⟩)))
  obtain ⟨hn40, hr70⟩ := hq trivial
  have H70 := Lib.hid hr70
  clear hq hb1 hb3 hD hr70 LI FR hwl hwl2 hlim
  go_loopw [8, 9] (fun v i wr => ∃ (m k : Nat) (A1 : Option Addr) (c1 : Nat) (bs : List Int), v = .slice A1 m c1 ∧ i = .int .i64 k ∧ k ≤ n ∧ Hid (AdAt w wr p lim (.slice A1 m c1) m k bs)) (fun _ i _ => 100 - (intOf i).toNat)
  case atStart => exact ⟨0, 0, none, 0, bs, rfl, rfl, Nat.zero_le _, HR0⟩
  case round =>
    clear HR0
    obtain ⟨m, k, A1, c1, bs, rfl, rfl, hk, HA⟩ := hrel
    have HBL := Lib.hid HA.out.below
    by_cases hlt : k < n
    · have h40 : k < 40 := by omega
      obtain ⟨b, off, r, rfl, hb, hr, hok, x0, x1, x2, x3, x4⟩ := HIN.out.at_ HBL.out hlt
      have hr70 := H70.out r (List.mem_of_getElem? hr)
      have hlti : (k : Int) < (n : Int) := by omega
      have XK := Lib.hid (fun wx (hx : Below w.heap.size w wx) => (⟨(hx.cell (p := ⟨b, off + k * 5, none⟩) hb).trans ((HBL.out.cell (p := ⟨b, off + k * 5, none⟩) hb).symm.trans x0), (hx.cell (p := ⟨b, off + k * 5 + 1, none⟩) hb).trans ((HBL.out.cell (p := ⟨b, off + k * 5 + 1, none⟩) hb).symm.trans x1), (hx.cell (p := ⟨b, off + k * 5 + 2, none⟩) hb).trans ((HBL.out.cell (p := ⟨b, off + k * 5 + 2, none⟩) hb).symm.trans x2), (hx.cell (p := ⟨b, off + k * 5 + 3, none⟩) hb).trans ((HBL.out.cell (p := ⟨b, off + k * 5 + 3, none⟩) hb).symm.trans x3), (hx.cell (p := ⟨b, off + k * 5 + 4, none⟩) hb).trans ((HBL.out.cell (p := ⟨b, off + k * 5 + 4, none⟩) hb).symm.trans x4)⟩ :
        wx.cell? ⟨b, off + k * 5, none⟩ = some (.int .u64 r.seq) ∧ wx.cell? ⟨b, off + k * 5 + 1, none⟩ = some (.int .u64 r.real) ∧ wx.cell? ⟨b, off + k * 5 + 2, none⟩ = some (.int .u64 r.mono) ∧ wx.cell? ⟨b, off + k * 5 + 3, none⟩ = some (.int .u64 r.boot) ∧ wx.cell? ⟨b, off + k * 5 + 4, none⟩ = some (.slice r.A r.n r.c)))
      have CK := Lib.hid (fun wx (hx : Below w.heap.size w wx) => rchecked_any (B := w.heap.size) r wx (hok.below hx).txt hx.size (by omega))
      obtain ⟨L, hL⟩ : ∃ L, chkL r.its = L := ⟨_, rfl⟩
      obtain ⟨ec, hec⟩ : ∃ ec, chkE r.its = ec := ⟨_, rfl⟩
      rw [hL, hec] at CK
      have HLL := Lib.hid (And.intro hL hec)
      have s1 := sr5a (m := m) (by have := HA.out.le; omega)
      have s2 := sr5b (m := m) (by have := HA.out.le; omega)
      have BY := Lib.hid HA.out.bytes
      have AD := Lib.hid (fun wx vw nw xs (hx : Below wr.heap.size wr wx) hW => AdAt.add (vw := vw) (nw := nw) (xs := xs) hec HA.out h40 hx ((hok.below (HBL.out.trans (hx.mono HBL.out.size))).more (Nat.le_trans HBL.out.size hx.size)) hr70 hW)
      unfold RC.v at CK AD
      clear hL hec hr hok hr70 hb x0 x1 x2 x3 x4
      have m2 : True := trivial
      go_wp2_with (first
        | (go_at_call 10; clear m2; go_loud (refine (BY.out.2 _ (Below.refl _ _)).mono ?_; unfold Told; rintro e wB ⟨Aw, Nw, cw, rfl, hNw, how, hbB, -, -⟩; obtain ⟨u0, u1, u2, u3, u4⟩ := XK.out _ (HBL.out.trans (hbB.mono HBL.out.size)); have HOW := Lib.hid how; have HBB := Lib.hid hbB; clear how hbB hNw))
        | (go_at_call 11; go_loud (refine (AD.out _ _ _ _ HBB.out HOW.out).mono ?_; rintro e w3 (⟨a, rfl, rfl, ha, h3⟩ | ⟨rfl, hne, h3, hw3⟩ | ⟨rfl, rfl, h3, hw3⟩) <;> (have HW3 := Lib.hid h3.below; obtain ⟨q0, q1, q2, q3, q4⟩ := XK.out _ HW3.out)))
        | (go_at_call 12; go_loud (refine (CK.out _ HW3.out).mono ?_; rintro e w4 ⟨B1, d1, rfl, ht4, hb4, hf4⟩; have HCB := Lib.hid (ChkBox.make (r := r) ht4 hb4 hf4); clear ht4 hb4 hf4))
        | (go_at_call 14; go_loud (refine (AdTwo.done HLL.out.1 h3 h40 HCB.out.below HCB.out.txt HCB.out.fr HCB.out.box HCB.out.lo).mono ?_; rintro e w5 ⟨rfl, h5⟩; obtain ⟨hbx5, cs, hown5, hb5, hnx5⟩ := h5.next HLL.out.1; have y0 : w5.cell? ⟨w4.heap.size, 0, none⟩ = some (.int .u64 r.seq) := hbx5.cell 0; have y1 : w5.cell? ⟨w4.heap.size, 1, none⟩ = some (.int .u64 r.real) := hbx5.cell 1; have y2 : w5.cell? ⟨w4.heap.size, 2, none⟩ = some (.int .u64 r.mono) := hbx5.cell 2; have y3 : w5.cell? ⟨w4.heap.size, 3, none⟩ = some (.int .u64 r.boot) := hbx5.cell 3; have y4 : w5.cell? ⟨w4.heap.size, 4, none⟩ = some (.slice B1 L.length d1) := hbx5.cell 4; have HO5 := Lib.hid hown5; have HNX := Lib.hid hnx5; have hwa : IntKind.u64.wrap (a : Int) = (a : Int) := wrap_u64_of (by omega) (by omega); clear h3 h5 hbx5 hown5 hnx5))
        | (at_builtin; go_loud (refine wpList_append_any _ rfl _ _ 22 rfl w.heap.size 36 i0 (.agg #[.int .u64 0, .int .u64 0, .int .u64 0, .int .u64 0, .slice none 0 0]) 5 56 Tryz.underlying22 hi hz0 hz1 hz2 rfl (by decide) (.slice A1 m c1) m cs rfl (HO5.out.alloc _) _ _ 1 1 [.int .u64 r.seq, .int .u64 r.real, .int .u64 r.mono, .int .u64 r.boot, .slice B1 L.length d1] rfl (recNew w5 _ _ _ _ _ _) (recOne _ _ _ _ _ _ _) s1 s2 (by simp; omega) ?_; intro v1 w7 hown1 hg1 hat1; obtain ⟨A3, c3, rfl, -, -⟩ := own_form hown1; have H7 := Lib.hid (HNX.out w7 _ _ h40 hown1 hg1 hat1); clear hown1 hg1 hat1))
        | (go_at_call 15; go_loud (refine (H7.out.get _ (Below.refl _ _)).mono ?_; rintro e w8 ⟨A8, rfl, ht8, hb8⟩; have HT8 := Lib.hid ht8; have HB8 := Lib.hid hb8; have HB9 := Lib.hid (hb8.alloc hb8.size (.cells #[.int .u64 r.seq, .int .u64 r.real, .int .u64 r.mono, .int .u64 r.boot, .slice A8 L.length L.length] 36)); clear ht8 hb8))
        | (go_at_call 16; go_loud (refine (H7.out.at3 _ HB9.out).mono ?_; rintro e w10 ⟨bo, oo, n1, c1', A2', n2, c2', A3', n3, c3', rfl, hb10, rfl, hbl, hcell⟩; have H5 := Lib.hid (AdFour.five (c1 := c1') (A2 := A2') (A3 := A3') (n2 := n2) (n3 := n3) (c2 := c2') (c3 := c3') H7.out HB8.out HT8.out hb10 hbl hcell); clear hb10 hbl hcell))
        | (go_at_call 10; go_loud (refine (h3.bytes.2 _ HCB.out.below).mono ?_; unfold Told; rintro e w6 ⟨A6, N6, c6, rfl, -, ho6, hb6, -, -⟩; have HB6 := Lib.hid (HCB.out.below.trans (hb6.mono HCB.out.below.size)); have R6 := Lib.hid (Reads.of_own ho6); have RW6 := Lib.hid ((Reads.of_own hw3).below HB6.out); clear ho6 hb6))
        | (go_at_call 13; go_loud (refine (same_yes _ _ _ _ _ _ bs _ R6.out RW6.out h3.bytes.1).mono ?_; rintro e w9 ⟨rfl, rfl⟩)))
      · have hb := AdFive.drew H5.out
        have HK5 := Lib.hid H5.out.keep
        have HK := Lib.hid (HK5.out _ hb)
        obtain ⟨bs5, hA5⟩ := H5.out.at_
        have HA5 := Lib.hid hA5
        clear hA5 y0 y1 y2 y3 y4 q0 q1 q2 q3 q4 u0 u1 u2 u3 u4
        go_region_held3 (fun w' => RcIn w' w4.heap.size r.seq r.real r.mono r.boot B1 L.length d1 ∧ RcIn w' w8.heap.size r.seq r.real r.mono r.boot A8 L.length L.length ∧ w'.cell? ⟨w10.heap.size, 1, none⟩ = some (.slice (some ⟨bo, oo, none⟩) 5 c1') ∧ w'.cell? ⟨bo, oo + 4, none⟩ = some (.int .u64 (xorL 3 L)))
          (first | assumption | exact HK.out | exact HK5.out _ hb)
          (first
            | (go_at_call 17; refine (H5.out.same _ hb).mono ?_; rintro e wx ⟨rfl, hbx⟩; have hb := hb.trans (hbx.mono hb.size); clear hbx)
            | (go_at_call 18; refine (H5.out.rx _ hb).mono ?_; rintro e wx ⟨rfl, hbx⟩; have hb := hb.trans (hbx.mono hb.size); clear hbx)
            | (go_at_call 19; refine (H5.out.ex _ hb).mono ?_; rintro e wx ⟨rfl, hbx⟩; have hb := hb.trans (hbx.mono hb.size); clear hbx))
        go_wp2
        go_roundw
        case rel => exact ⟨m + 1, k + 1, A3, c3, bs5, rfl, by go_num, by omega, Lib.hid (HA5.out.belowW hb)⟩
        case measure => simp [intOf]; omega
      all_goals
        go_roundw
        case rel => exact ⟨m, k + 1, A1, c1, bs, rfl, by go_num, by omega, Lib.hid (h3.belowW HB6.out)⟩
        case measure => simp [intOf]; omega
    · have hge : ¬ (k : Int) < (n : Int) := by omega
      obtain ⟨A9, c9, l9, e9, hRec, hLen, hAll, hYes, hNo⟩ := HA.out.fin (by omega)
      injection e9 with e1 e3 e4
      subst e1; subst e4
      have hm40 : m ≤ 40 := by have := HA.out.le; omega
      have HREC := Lib.hid hRec
      have HLEN := Lib.hid hLen
      have HALL := Lib.hid hAll
      clear hLen hAll e3 hlt HIN H70
      by_cases hir : 0 ≤ i ∧ i < m
      · obtain ⟨q, rfl⟩ : ∃ q : Nat, i = q := ⟨i.toNat, by omega⟩
        have hqm : (q : Int) < (m : Int) := hir.2
        obtain ⟨pl, rr, hrr, hrn, hNG⟩ := hYes q (by omega)
        obtain ⟨b9, off9, rq, rfl, hb9, hrq, htq, x0, x1, x2, x3, x4⟩ := hRec.at_ (by omega : q < m)
        have hrq2 : rq = rr := by rw [hrr] at hrq; injection hrq with hrq; exact hrq.symm
        subst hrq2
        have HTQ := Lib.hid htq
        have HNG := Lib.hid hNG
        have XQ := Lib.hid (fun wx (hx : Below wr.heap.size wr wx) => (⟨(hx.cell (p := ⟨b9, off9 + q * 5, none⟩) hb9).trans x0, (hx.cell (p := ⟨b9, off9 + q * 5 + 1, none⟩) hb9).trans x1, (hx.cell (p := ⟨b9, off9 + q * 5 + 2, none⟩) hb9).trans x2, (hx.cell (p := ⟨b9, off9 + q * 5 + 3, none⟩) hb9).trans x3, (hx.cell (p := ⟨b9, off9 + q * 5 + 4, none⟩) hb9).trans x4⟩ :
          wx.cell? ⟨b9, off9 + q * 5, none⟩ = some (.int .u64 rq.seq) ∧ wx.cell? ⟨b9, off9 + q * 5 + 1, none⟩ = some (.int .u64 rq.real) ∧ wx.cell? ⟨b9, off9 + q * 5 + 2, none⟩ = some (.int .u64 rq.mono) ∧ wx.cell? ⟨b9, off9 + q * 5 + 3, none⟩ = some (.int .u64 rq.boot) ∧ wx.cell? ⟨b9, off9 + q * 5 + 4, none⟩ = some (.slice rq.A rq.n rq.c)))
        clear hNG htq hRec hYes hNo hrr hrq hrn hb9 x0 x1 x2 x3 x4 hir
        go_wp2_with (first
          | (go_at_call 20; go_loud (refine (HNG.out _ (Below.refl _ _)).1.mono ?_; rintro e w2 ⟨rfl, hb2⟩; have HB2 := Lib.hid hb2; clear hb2))
          | (go_at_call 15; go_loud (refine (HNG.out _ HB2.out).2.mono ?_; rintro e w3 ⟨A3, rfl, ht3, hb3⟩; have HT3 := Lib.hid ht3; have HB3 := Lib.hid (HB2.out.trans (hb3.mono HB2.out.size)); clear ht3 hb3)))
        have h4 := boxed w3 (.cells #[.int .u64 rq.seq, .int .u64 rq.real, .int .u64 rq.mono, .int .u64 rq.boot, .slice A3 rq.n rq.n] 36)
        have h4k := Blk.new w3 36 #[.int .u64 rq.seq, .int .u64 rq.real, .int .u64 rq.mono, .int .u64 rq.boot, .slice A3 rq.n rq.n]
        have HB4 := Lib.hid (HB3.out.trans (h4.mono HB3.out.size))
        have SM := Lib.hid (fun wx (hx : Below (w3.alloc (.cells #[.int .u64 rq.seq, .int .u64 rq.real, .int .u64 rq.mono, .int .u64 rq.boot, .slice A3 rq.n rq.n] 36)).heap.size (w3.alloc (.cells #[.int .u64 rq.seq, .int .u64 rq.real, .int .u64 rq.mono, .int .u64 rq.boot, .slice A3 rq.n rq.n] 36)) wx) =>
          ad_same rq A3 wx ((HT3.out.below (h4.trans (hx.mono h4.size))).more (Nat.le_trans h4.size hx.size)) ((HTQ.out.below (HB4.out.trans (hx.mono HB4.out.size))).more (Nat.le_trans HB4.out.size hx.size)))
        have KP := Lib.hid (fun wx (hx : Below (w3.alloc (.cells #[.int .u64 rq.seq, .int .u64 rq.real, .int .u64 rq.mono, .int .u64 rq.boot, .slice A3 rq.n rq.n] 36)).heap.size (w3.alloc (.cells #[.int .u64 rq.seq, .int .u64 rq.real, .int .u64 rq.mono, .int .u64 rq.boot, .slice A3 rq.n rq.n] 36)) wx) =>
          (And.intro (rcIn_of (h4k.below hx h4k.lt)) (XQ.out wx (HB4.out.trans (hx.mono HB4.out.size)))))
        clear h4 h4k
        generalize (w3.alloc (.cells #[.int .u64 rq.seq, .int .u64 rq.real, .int .u64 rq.mono, .int .u64 rq.boot, .slice A3 rq.n rq.n] 36)) = w4 at *
        have hb := below_drewn (Below.refl w4.heap.size w4) 1
        have HK := Lib.hid (KP.out _ hb)
        go_region_held3 (fun w' => RcIn w' w3.heap.size rq.seq rq.real rq.mono rq.boot A3 rq.n rq.n ∧ (w'.cell? ⟨b9, off9 + q * 5, none⟩ = some (.int .u64 rq.seq) ∧ w'.cell? ⟨b9, off9 + q * 5 + 1, none⟩ = some (.int .u64 rq.real) ∧ w'.cell? ⟨b9, off9 + q * 5 + 2, none⟩ = some (.int .u64 rq.mono) ∧ w'.cell? ⟨b9, off9 + q * 5 + 3, none⟩ = some (.int .u64 rq.boot) ∧ w'.cell? ⟨b9, off9 + q * 5 + 4, none⟩ = some (.slice rq.A rq.n rq.c)))
          (first | assumption | exact HK.out | exact KP.out _ hb)
          (first | (go_at_call 17; refine (SM.out _ hb).mono ?_; rintro e wx ⟨rfl, hbx⟩; have hb := hb.trans (hbx.mono hb.size); clear hbx))
        have HB5 := Lib.hid (HB4.out.trans (hb.mono HB4.out.size))
        clear hb SM KP HK XQ
        go_wp2_with (first
          | (go_at_call 22; go_loud (refine (HALL.out _ HB5.out).mono ?_; rintro e w5 ⟨A5, c5, l5, rfl, hR5, hS5, hb5⟩; have HR5 := Lib.hid hR5; have HS5 := Lib.hid hS5; have HB6 := Lib.hid (HB5.out.trans (hb5.mono HB5.out.size)); clear hR5 hS5 hb5))
          | (go_at_call 21; go_loud (refine (reall_same _ _ m _ _ l5 l9 _ _ _ HR5.out (HREC.out.below HB6.out) (Nat.le_refl _) HB6.out.size HS5.out).mono ?_; rintro e w6 ⟨rfl, hb6⟩; have HB7 := Lib.hid (HB6.out.trans (hb6.mono HB6.out.size)); clear hb6))
          | (go_at_call 23; go_loud (refine (HLEN.out _ HB7.out).mono ?_; rintro e w7 ⟨rfl, hb7⟩; have HB8 := Lib.hid (HB7.out.trans (hb7.mono HB7.out.size)); clear hb7))
          | (go_at_call 7; go_loud (refine (AW.out _).mono ?_; rintro e w8 ⟨rfl, hb8⟩)))
        go_ret
        exact ⟨rfl, HBL.out.trans ((HB8.out.trans (hb8.mono HB8.out.size)).mono HBL.out.size)⟩
      · have HNO := Lib.hid (hNo i HIB.out.1 HIB.out.2 (by omega))
        have hir2 : i < 0 ∨ (0 ≤ i ∧ ¬ i < m) := by omega
        clear hRec hYes hNo hir
        rcases hir2 with hneg | ⟨hpos, hge2⟩
        all_goals
          go_wp2_with (first
            | (go_at_call 20; go_loud (refine (HNO.out _ (Below.refl _ _)).1.mono ?_; rintro e w2 ⟨rfl, hb2⟩; have HB2 := Lib.hid hb2; clear hb2))
            | (go_at_call 15; go_loud (refine (HNO.out _ HB2.out).2.mono ?_; unfold rcZ; rintro e w3 ⟨rfl, hb3⟩; have HB3 := Lib.hid (HB2.out.trans (hb3.mono HB2.out.size)); clear hb3)))
          have HB4 := Lib.hid (HB3.out.trans ((boxed w3 (.cells #[.int .u64 0, .int .u64 0, .int .u64 0, .int .u64 0, .slice none 0 0] 36)).mono HB3.out.size))
          go_quiet (fail)
          have HB5 := Lib.hid (below_drewn HB4.out nq)
          clear HB4
          go_wp2_with (first
            | (go_at_call 22; go_loud (refine (HALL.out _ HB5.out).mono ?_; rintro e w5 ⟨A5, c5, l5, rfl, hR5, hS5, hb5⟩; have HR5 := Lib.hid hR5; have HS5 := Lib.hid hS5; have HB6 := Lib.hid (HB5.out.trans (hb5.mono HB5.out.size)); clear hR5 hS5 hb5))
            | (go_at_call 21; go_loud (refine (reall_same _ _ m _ _ l5 l9 _ _ _ HR5.out (HREC.out.below HB6.out) (Nat.le_refl _) HB6.out.size HS5.out).mono ?_; rintro e w6 ⟨rfl, hb6⟩; have HB7 := Lib.hid (HB6.out.trans (hb6.mono HB6.out.size)); clear hb6))
            | (go_at_call 23; go_loud (refine (HLEN.out _ HB7.out).mono ?_; rintro e w7 ⟨rfl, hb7⟩; have HB8 := Lib.hid (HB7.out.trans (hb7.mono HB7.out.size)); clear hb7))
            | (go_at_call 7; go_loud (refine (AW.out _).mono ?_; rintro e w8 ⟨rfl, hb8⟩)))
          go_ret
          exact ⟨rfl, HBL.out.trans ((HB8.out.trans (hb8.mono HB8.out.size)).mono HBL.out.size)⟩

end Go.Proofs.YtobbkhncnokpiaaGreat
