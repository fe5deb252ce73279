/-
  LAYER 6: the walk of FileSafe.
-/
import Derived.Test.YtdpoffedmafmhaaFileLaw2
import Derived.Deep.RegionHeld3
set_option linter.unusedVariables false
set_option linter.unusedSimpArgs false
namespace Go.Proofs.Ytdpoffedmafmhaa
open Go.RowKit

theorem AtL.synced {w wr w' : World} {p q k : Nat} {T : Nat → Prop} {s : FS} (H : AtL w wr p q T s k) (ht : Turn w.heap.size T p q s.sync s wr w') : Below w.heap.size w w' :=
  H.below.trans (ht.1.below H.below.size (fun k _ hk => (H.two.foot k hk).1))

set_option maxHeartbeats 4000000 in
theorem safe_law (A : Option Addr) (len cap : Nat) (l : List ActM) (K : Option Addr) (m d : Nat) (ks : List Bool) (w : World) (hin : InActs w A len cap l) (hk : InBools w K m d ks) :
    Calls Try.prog 4 #[.slice A len cap, .slice K m d] w fun e w' => e = .returned (.bool true) ∧ Below w.heap.size w w' := by
  obtain ⟨i0, hi, hz0, hz1, hz2⟩ := info_parts boolInfo
  have hle := hin.le
  have hcap := hin.cap
  have hkle := hk.le
  have hkcap := hk.cap
  have HS := Lib.hid (AtL.start w)
  have HIN := Lib.hid hin
  have HK := Lib.hid hk
  clear hin hk
  by_cases g1 : 300 < m
  · have HB := Lib.hid (AtL.start w).below
    have g2 : 300 < (m : Int) := by omega
    go_enter Try.func4, Try.ntmps4
    go_wp2_with (first
      | (go_at_call 6; refine (fnew_any w).mono ?_; rintro e w1 ⟨rfl, hx⟩; obtain rfl := hx.out; clear hx)
      | (go_at_call 7; refine (awake_any _).mono ?_; rintro e w5 ⟨rfl, hb5⟩))
    go_ret
    exact ⟨rfl, HB.out.trans (hb5.mono HB.out.size)⟩
  · have g2 : ¬ 300 < (m : Int) := by omega
    go_enter Try.func4, Try.ntmps4
    go_wp2_with (go_at_call 6; refine (fnew_any w).mono ?_; rintro e w1 ⟨rfl, hx⟩; obtain rfl := hx.out; clear hx)
    go_loopw [5, 6, 7] (fun f r i wr => ∃ (k p q : Nat) (T : Nat → Prop) (s : FS), k ≤ len ∧ k ≤ 20 ∧ i = .int .i64 k ∧ f = .pointer (some ⟨p, 0, none⟩) ∧ r = .pointer (some ⟨q, 0, none⟩) ∧ Hid (AtL w wr p q T s k)) (fun _ _ i _ => len - (intOf i).toNat)
    case atStart => exact ⟨0, _, _, _, _, Nat.zero_le _, Nat.zero_le _, rfl, rfl, by simp, HS⟩
    case round =>
      clear HS
      obtain ⟨k, p, q, T, s, hk, hk20, rfl, rfl, rfl, H⟩ := hrel
      by_cases hlt : k < len ∧ k < 20
      · obtain ⟨hlt, h20⟩ := hlt
        have t1 : (k : Int) < (len : Int) := by omega
        have t2 : (k : Int) < 20 := by omega
        obtain ⟨b, off, a, rfl, hok, y0, y1, y2, y3⟩ := HIN.out.at_ H.out.below hlt
        have LG := Lib.hid (light_any a wr hok.at_)
        cases hlb : lightB a with
        | false =>
          rw [hlb] at LG
          clear hlb
          go_wp2_with (first
            | (go_at_call 8; refine LG.out.mono ?_; rintro e w2 ⟨rfl, hb2⟩)
            | (go_at_call 7; refine (awake_any _).mono ?_; rintro e w5 ⟨rfl, hb5⟩))
          go_ret
          exact ⟨rfl, (H.out.later hb2).below.trans (hb5.mono (H.out.later hb2).below.size)⟩
        | true =>
          rw [hlb] at LG
          have DO := Lib.hid (fun (w1 : World) (hb : Below wr.heap.size wr w1) => does_any p q w.heap.size T s (10 * k) a w1 (H.out.two.below hb) H.out.good (by omega) (ActAt.of hok (H.out.later hb).below) hlb)
          have NX := Lib.hid (fun (w1 w2 : World) (e : Ending) (hb : Below wr.heap.size wr w1) (hd : Did w.heap.size T (s.act a) w1 e w2) => H.out.next hb (lightB_len hlb hok).1 (lightB_len hlb hok).2 hd)
          clear hlb hok
          go_wp2_with (first
            | (go_at_call 8; (with_reducible refine LG.out.mono ?_); rintro e w2 ⟨rfl, hb2⟩; obtain ⟨z0, z1, z2, z3⟩ := act_cells y0 y1 y2 y3 hb2)
            | (go_at_call 9; go_loud ((with_reducible refine (DO.out _ hb2).mono ?_); rintro e w3 hd; obtain ⟨p', q', T', rfl, hN⟩ := NX.out _ _ _ hb2 hd; have HN := Lib.hid hN; clear hd hN)))
          go_roundw
          case rel => exact ⟨k + 1, p', q', T', _, by omega, by omega, by go_num, rfl, rfl, HN⟩
          case measure => simp [intOf]; omega
      · obtain ⟨n, hn⟩ : ∃ n, n = s.ops.length := ⟨_, rfl⟩
        have hn6 : n ≤ 200 := by have := H.out.good.few; omega
        have PE := Lib.hid H.out.two.pend
        rw [← hn] at PE
        have HN := Lib.hid hn
        have hnb : n * 1 ≤ 140737488355328 := by omega
        have hnm : n ≤ maxLen := by unfold maxLen; omega
        have t12 : (¬ (k : Int) < 20 ∧ (k : Int) < (len : Int)) ∨ ¬ (k : Int) < (len : Int) := by omega
        clear hn hlt
        rcases t12 with ⟨t2, t3⟩ | t3
        all_goals
          go_wp2_with (first
            | (go_at_call 11; refine PE.out.mono ?_; rintro e w9 ⟨rfl, rfl⟩)
            | (at_make; go_loud (refine wpList_make_full _ rfl _ _ 32 rfl wr.heap.size 4 i0 (.bool false) 1 Try.underlying32 hi hz0 hz1 _ _ _ _ n rfl rfl rfl rfl (by rw [hz2]; omega) hnm (Nat.le_refl _) ?_; intro w1 hown hgr; have hb1 : Below wr.heap.size wr w1 := (Below.refl _ _).grown hgr (Nat.le_refl _) (by simp); have HA := Lib.hid (AllAt.start H.out hb1 (made_bools hown)); clear hown hgr)))
          clear hb1
          generalize wr.heap.size = g at HA ⊢
          obtain ⟨wo, rfl⟩ : ∃ wo : World, wo = wr := ⟨_, rfl⟩
          go_loopw [12] (fun i wr => ∃ j : Nat, j ≤ n ∧ i = .int .i64 j ∧ Hid (AllAt w wr p q T s k g n j)) (fun i _ => n - (intOf i).toNat)
          case atStart => exact ⟨0, Nat.zero_le _, rfl, HA⟩
          case round =>
            clear HA
            obtain ⟨j, hj, rfl, HJ⟩ := hrel
            by_cases hjn : j < n
            · obtain ⟨u, cu⟩ := HJ.out.cell hjn
              have fu := HJ.out.blk.frozen j
              have j1 : (j : Int) < (n : Int) := by omega
              have HNX := Lib.hid (HJ.out.next hjn)
              go_wp2
              go_roundw
              case rel => exact ⟨j + 1, by omega, by go_num, HNX⟩
              case measure => simp [intOf]; omega
            · obtain rfl : j = n := by omega
              have j1 : ¬ (j : Int) < (j : Int) := by omega
              have HKP := Lib.hid (show (s.crash (trues j j)).now = s.now from HJ.out.at_.good.ok.kept (fun i hi => trues_kept j i (by rw [HN.out]; exact hi)))
              have BY := HJ.out.at_.good.ok.now
              have hsz1 : (s.crash (trues j j)).now.length ≤ 1048576 := (HJ.out.at_.good.ok.crash _).size
              have HSZ := Lib.hid (And.intro hsz1 HJ.out.at_.good.ok.size)
              have CR := Lib.hid (two_fcrash (Bk := wr.drew.heap.size) (some ⟨g, 0, none⟩) j j (trues j j) (HJ.out.at_.two.drewN 1) (HJ.out.blk.reads (by rw [cellsB_length, trues_length (Nat.le_refl _)])).drew (Nat.le_refl _) (Nat.le_refl _) (by omega) HJ.out.at_.good (by omega))
              obtain ⟨Aq, cq, hnw⟩ := HJ.out.at_.two.now2
              obtain ⟨mq, hmq⟩ : ∃ mq, mq = s.now.length := ⟨_, rfl⟩
              rw [← hmq] at hnw
              have NW := Lib.hid hnw
              have hb0 : Below wr.heap.size wr wr.drew := below_drewn (Below.refl _ _) 1
              have m1 : True := trivial
              have m2 : True := trivial
              clear hnw hmq hsz1
              go_wp2
              go_region_held3 (fun w' => w'.cell? ⟨q, 0, none⟩ = some (.slice Aq mq cq))
                (first | assumption | exact (NW.out _ (by assumption)).1)
                (first
                  | (go_at_call 13; refine CR.out.mono ?_; rintro e wA ⟨p1, nv1, sv1, pv1, rfl, hbx, hcf⟩; have hbA := hb0.trans (hbx.mono hb0.size); have RD := fread_all p1 _ _ _ _ _ _ wA hcf HSZ.out.1; rw [HKP.out] at RD; have RDH := Lib.hid RD; clear RD hbx hcf)
                  | (go_at_call 14; refine RDH.out.mono ?_; rintro e wB hg; obtain ⟨Ab, nb, cb, rfl, -, rb, -, -, hbx⟩ := hg.reads; have hbB := hbA.trans (hbx.mono hbA.size); clear hg hbx)
                  | (go_at_call 12; refine (same_self Ab Aq nb mq cb cq _ wB rb (NW.out _ hbB).2 BY).mono ?_; rintro e w9 ⟨rfl, rfl⟩))
              have HT := Lib.hid (HJ.out.at_.later hbB)
              clear hbA hbB rb
              go_wp2_with (first
                | (go_at_call 15; go_loud (refine (two_fsync HT.out.two HT.out.good).mono ?_; rintro e wC ⟨rfl, hx⟩; have HX := Lib.hid hx; have HXB := Lib.hid (HT.out.synced hx); clear hx))
                | (go_at_call 13; go_loud (refine (two_fcrash (Bk := w.heap.size) K m d ks HX.out.2 (HK.out.reads.below HXB.out) HXB.out.size hkle hkcap HT.out.good.sync (Nat.zero_le _)).mono ?_; rintro e wD ⟨p2, nv2, sv2, pv2, rfl, hbx, hcf⟩; have HD := Lib.hid (And.intro hbx hcf); clear hbx hcf)))
              obtain ⟨Ar, cr, hnw2⟩ := (HX.out.2.below HD.out.1).now2
              obtain ⟨mr, hmr⟩ : ∃ mr, mr = s.now.length := ⟨_, rfl⟩
              rw [← hmr] at hnw2
              have NW2 := Lib.hid hnw2
              have HBD := Lib.hid (HXB.out.trans (HD.out.1.mono HXB.out.size))
              have RD2 := Lib.hid (show Calls Try.prog 14 #[.pointer (some ⟨p2, 0, none⟩), .int .i64 0, .int .i64 1048576] wD.drew (Gives s.now wD.drew) from fread_all p2 _ _ (s.sync.crash ks) _ _ _ wD.drew HD.out.2.drew HSZ.out.2)
              have PE2 := Lib.hid (fun wz (hb : Below wD.heap.size wD wz) => (show Calls Try.prog 11 #[.pointer (some ⟨p2, 0, none⟩)] wz (fun e w' => e = .returned (.int .i64 0) ∧ wz = w') from cf_pend (HD.out.2.below hb)))
              have hc0 : Below wD.heap.size wD wD.drew := below_drewn (Below.refl _ _) 1
              clear hnw2 hmr
              go_region_held3 (fun w' => w'.cell? ⟨q, 0, none⟩ = some (.slice Ar mr cr))
                (first | assumption | exact (NW2.out _ (by assumption)).1)
                (first
                  | (go_at_call 14; refine RD2.out.mono ?_; rintro e wE hg; obtain ⟨Ae, ne, ce, rfl, -, re, -, -, hbx⟩ := hg.reads; have hcE := hc0.trans (hbx.mono hc0.size); clear hg hbx)
                  | (go_at_call 12; refine (same_self Ae Ar ne mr ce cr _ wE re (NW2.out _ hcE).2 BY).mono ?_; rintro e w9 ⟨rfl, rfl⟩)
                  | (go_at_call 11; refine (PE2.out _ hcE).mono ?_; rintro e w9 ⟨rfl, rfl⟩)
                  | (go_at_call 7; refine (awake_any _).mono ?_; rintro e wG ⟨rfl, hbx⟩; have hcG := hcE.trans (hbx.mono hcE.size); clear hbx))
              go_wp2
              go_ret
              exact ⟨rfl, HBD.out.trans (hcG.mono HBD.out.size)⟩

end Go.Proofs.Ytdpoffedmafmhaa
