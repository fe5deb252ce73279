/-
  LAYER 8: WHAT shows DOES. Written by a program (gen8s.py).
-/
import Derived.Test.YtclglbddibjenaaGreatVdAct
import Derived.Deep.RegionHeld3
set_option linter.unusedVariables false
set_option linter.unusedSimpArgs false
set_option maxRecDepth 100000
namespace Go.Proofs.YtclglbddibjenaaGreat
open Go.RowKit

theorem namesN_get {l : NmL} {j : Nat} {p : ByteArray × Int} (h : l[j]? = some p) : nthT (namesN l) j = p.1 := by
  unfold nthT namesN
  rw [List.getD_eq_getElem?_getD, List.getElem?_map, h]; rfl


set_option maxHeartbeats 4000000 in
theorem shows_dead (p q base N : Nat) (T : Nat → Prop) (v : VS) (w : World) (h : Two w base T p q v N) (hN : N ≤ 1000) (hdd : v.dead = true) :
    Calls Tryz.prog 12 #[.pointer (some ⟨p, 0, none⟩), .pointer (some ⟨q, 0, none⟩)] w fun e w' => e = .returned (.bool true) ∧ Below w.heap.size w w' := by
  obtain ⟨S, S2, os, ⟨dp, mb, bn, bs, pv, SD, SF, ps, Ss, hv⟩, hg, ⟨dq, fv, nv, sv, ov, SD2, SF2, qs, Ss2, hr⟩, -, -, -⟩ := h.ex
  obtain ⟨An, cn, rfl, hNm⟩ := Nms.of_own hr.dir.now
  obtain ⟨n, hn⟩ : ∃ n, n = v.d.now.length := ⟨_, rfl⟩
  have hn9 : n ≤ 900000 := by have := hg.d.now; omega
  rw [← hn] at hr hNm
  have HV := Lib.hid (fun (wz : World) (hb : Below w.heap.size w wz) => VDT.start (hv.below hb))
  have HR := Lib.hid (fun (wz : World) (hb : Below w.heap.size w wz) => RVT.start (hr.below hb))
  have HC := Lib.hid (fun (wz : World) (hb : Below w.heap.size w wz) => (show wz.cell? ⟨p, 0, none⟩ = some (.pointer (some ⟨dp, 0, none⟩)) ∧ wz.cell? ⟨q, 5, none⟩ = some (.bool true) from ⟨(hv.below hb).cells.c0, hdd ▸ (hr.below hb).cells.c5⟩))
  have RN := Lib.hid (rnames_any An n cn w.heap.size v.d.now w hNm (Nat.le_refl _) (by omega) hg.d.okn)
  have DN := Lib.hid (fun (wz : World) (hb : Below w.heap.size w wz) => dnames_any dp bn v.d.now wz ((hv.below hb).dir.cells (Below.refl _ _)).1 (hv.below hb).dir.now (by omega) hg.d.okn)
  have DD := Lib.hid (fun (wz : World) (hb : Below w.heap.size w wz) => vdead_any p mb true wz (hv.below hb).cells.c1 (hdd ▸ (hv.below hb).cells.c4))
  have US := Lib.hid (fun (wz : World) (hb : Below w.heap.size w wz) => vused_any (VDT.start (hv.below hb)) hg (by omega))
  have RU := Lib.hid (fun (wz : World) (hb : Below w.heap.size w wz) => rvused_any (RVT.start (hr.below hb)) hg hN)
  have LO := Lib.hid (fun (wz : World) (hb : Below w.heap.size w wz) => vloose_any (VDT.start (hv.below hb)) hg (by omega))
  have RL := Lib.hid (fun (wz : World) (hb : Below w.heap.size w wz) => rvloose_any (RVT.start (hr.below hb)) hg hN)
  rw [← hn] at DN
  generalize (v.used : Int) = u at US RU
  generalize (v.loose : Int) = lo at LO RL
  have HG := Lib.hid hg
  have HDD := Lib.hid hdd
  have HNM := Lib.hid hn
  have c0 := hr.cells.c0
  have d0 := (hr.dir.cells (Below.refl _ _)).1
  clear h hv hr hg hNm hn hdd
  go_enter Tryz.func12, Tryz.ntmps12
  go_wp2_with (go_at_call 16; go_loud (refine RN.out.mono ?_; rintro e wN ⟨A2, c2, rfl, hT, hbN⟩; have HT := Lib.hid hT; clear hT))
  clear c0 d0 RN
  have hb0 : Below w.heap.size w wN.drew := below_drewn hbN 1
  have HT1 := Lib.hid (HT.out.drewN 1)
  go_region_held3 (fun w' => w'.cell? ⟨p, 0, none⟩ = some (.pointer (some ⟨dp, 0, none⟩)) ∧ w'.cell? ⟨q, 5, none⟩ = some (.bool true))
    (first | assumption | exact HC.out _ (by assumption))
    (first
      | (go_at_call 21; go_loud (refine (DN.out _ hb0).mono ?_; rintro e wA ⟨A1, c1, rfl, hT1, hbx⟩; have hbA := hb0.trans (hbx.mono hb0.size); have HZA := Lib.hid hbx.size; have HTA := Lib.hid hT1; have HTB := Lib.hid (HT1.out.below (hbx.mono (by simp))); clear hbx hT1))
      | (go_at_call 20; go_loud (refine (texts_same A1 A2 n c1 c2 _ _ _ wA HTA.out HTB.out).mono ?_; rintro e w9 ⟨rfl, nq, rfl⟩; have hbB := below_drewn hbA nq; have HTC := Lib.hid (HTB.out.drewN nq)))
      | (go_at_call 32; go_loud (refine (DD.out _ hbB).mono ?_; rintro e w9 ⟨rfl, rfl⟩))
      | (go_at_call 14; go_loud (refine (US.out _ hbB).mono ?_; rintro e wC ⟨rfl, hbx⟩; have hbC := hbB.trans (hbx.mono hbB.size); have HTD := Lib.hid hbx; clear hbx))
      | (go_at_call 42; go_loud (refine (RU.out _ hbC).mono ?_; rintro e wD ⟨rfl, hbx⟩; have hbD := hbC.trans (hbx.mono hbC.size); have HTE := Lib.hid (HTD.out.trans (hbx.mono HTD.out.size)); clear hbx))
      | (go_at_call 15; go_loud (refine (LO.out _ hbD).mono ?_; rintro e wE ⟨rfl, hbx⟩; have hbE := hbD.trans (hbx.mono hbD.size); have HTF := Lib.hid (HTE.out.trans (hbx.mono HTE.out.size)); clear hbx))
      | (go_at_call 13; go_loud (refine (RL.out _ hbE).mono ?_; rintro e w9 ⟨rfl, rfl⟩)))
  have HTL := Lib.hid (HTC.out.below (HTF.out.mono HZA.out))
  have HTL0 := Lib.hid (show wN.drew.heap.size ≤ wE.heap.size from Nat.le_trans HZA.out HTF.out.size)
  clear hb0 hbA hbB hbC hbD hbN HT HT1 HTA HTB HTC HTD HTE HTF HZA DN DD US RU LO RL
  go_wp2
  go_loopw [6, 7, 8, 9, 10, 11] (fun i b e n2 f now wr => ∃ j : Nat, j ≤ n ∧ i = .int .i64 j ∧ Hid (Below wE.heap.size wE wr)) (fun i _ _ _ _ _ _ => n - (intOf i).toNat)
  case atStart => exact ⟨0, Nat.zero_le _, rfl, Lib.hid (Below.refl _ _)⟩
  case round =>
    obtain ⟨j, hj, rfl, H⟩ := hrel
    have hbr : Below w.heap.size w wr := hbE.trans (H.out.mono hbE.size)
    obtain ⟨o0, o5⟩ := HC.out wr hbr
    by_cases hlt : j < n
    · obtain ⟨pr, hp⟩ : ∃ pr, v.d.now[j]? = some pr := ⟨_, List.getElem?_eq_getElem (by rw [← HNM.out]; exact hlt)⟩
      obtain ⟨b9, off, rfl, hb9, hc⟩ := (HTL.out.below (H.out.mono HTL0.out)).at_ (by omega)
      have y0 := hc j hlt
      rw [namesN_get hp] at y0
      have hlti : (j : Int) < (n : Int) := by omega
      have RD := Lib.hid (vread_dead pr.1 0 1048576 (HV.out wr hbr) HDD.out)
      have SZ := Lib.hid (vsize_dead pr.1 (HV.out wr hbr) HDD.out)
      clear hp hc
      go_wp2_with (first
        | (go_at_call 22; go_loud (refine RD.out.mono ?_; rintro e w9 ⟨rfl, rfl⟩))
        | (go_at_call 26; go_loud (refine SZ.out.mono ?_; rintro e w9 ⟨rfl, rfl⟩)))
      go_round
      case rel => exact ⟨j + 1, by omega, by go_num, H⟩
      case measure => simp [intOf]; omega
    · obtain rfl : j = n := by omega
      have hlti : ¬ (j : Int) < (j : Int) := by omega
      go_wp2
      go_ret
      exact ⟨rfl, hbr⟩


set_option maxHeartbeats 4000000 in
theorem shows_live (p q base N : Nat) (T : Nat → Prop) (v : VS) (w : World) (h : Two w base T p q v N) (hN : N ≤ 1000) (hdd : v.dead = false) :
    Calls Tryz.prog 12 #[.pointer (some ⟨p, 0, none⟩), .pointer (some ⟨q, 0, none⟩)] w fun e w' => e = .returned (.bool true) ∧ Below w.heap.size w w' := by
  obtain ⟨S, S2, os, ⟨dp, mb, bn, bs, pv, SD, SF, ps, Ss, hv⟩, hg, ⟨dq, fv, nv, sv, ov, SD2, SF2, qs, Ss2, hr⟩, -, -, -⟩ := h.ex
  obtain ⟨An, cn, rfl, hNm⟩ := Nms.of_own hr.dir.now
  obtain ⟨n, hn⟩ : ∃ n, n = v.d.now.length := ⟨_, rfl⟩
  have hn9 : n ≤ 900000 := by have := hg.d.now; omega
  rw [← hn] at hr hNm
  have HV := Lib.hid (fun (wz : World) (hb : Below w.heap.size w wz) => VDT.start (hv.below hb))
  have HR := Lib.hid (fun (wz : World) (hb : Below w.heap.size w wz) => RVT.start (hr.below hb))
  have HC := Lib.hid (fun (wz : World) (hb : Below w.heap.size w wz) => (show wz.cell? ⟨p, 0, none⟩ = some (.pointer (some ⟨dp, 0, none⟩)) ∧ wz.cell? ⟨q, 5, none⟩ = some (.bool false) from ⟨(hv.below hb).cells.c0, hdd ▸ (hr.below hb).cells.c5⟩))
  have RN := Lib.hid (rnames_any An n cn w.heap.size v.d.now w hNm (Nat.le_refl _) (by omega) hg.d.okn)
  have DN := Lib.hid (fun (wz : World) (hb : Below w.heap.size w wz) => dnames_any dp bn v.d.now wz ((hv.below hb).dir.cells (Below.refl _ _)).1 (hv.below hb).dir.now (by omega) hg.d.okn)
  have DD := Lib.hid (fun (wz : World) (hb : Below w.heap.size w wz) => vdead_any p mb false wz (hv.below hb).cells.c1 (hdd ▸ (hv.below hb).cells.c4))
  have US := Lib.hid (fun (wz : World) (hb : Below w.heap.size w wz) => vused_any (VDT.start (hv.below hb)) hg (by omega))
  have RU := Lib.hid (fun (wz : World) (hb : Below w.heap.size w wz) => rvused_any (RVT.start (hr.below hb)) hg hN)
  have LO := Lib.hid (fun (wz : World) (hb : Below w.heap.size w wz) => vloose_any (VDT.start (hv.below hb)) hg (by omega))
  have RL := Lib.hid (fun (wz : World) (hb : Below w.heap.size w wz) => rvloose_any (RVT.start (hr.below hb)) hg hN)
  rw [← hn] at DN
  generalize (v.used : Int) = u at US RU
  generalize (v.loose : Int) = lo at LO RL
  have HG := Lib.hid hg
  have HDD := Lib.hid hdd
  have HNM := Lib.hid hn
  have c0 := hr.cells.c0
  have d0 := (hr.dir.cells (Below.refl _ _)).1
  clear h hv hr hg hNm hn hdd
  go_enter Tryz.func12, Tryz.ntmps12
  go_wp2_with (go_at_call 16; go_loud (refine RN.out.mono ?_; rintro e wN ⟨A2, c2, rfl, hT, hbN⟩; have HT := Lib.hid hT; clear hT))
  clear c0 d0 RN
  have hb0 : Below w.heap.size w wN.drew := below_drewn hbN 1
  have HT1 := Lib.hid (HT.out.drewN 1)
  go_region_held3 (fun w' => w'.cell? ⟨p, 0, none⟩ = some (.pointer (some ⟨dp, 0, none⟩)) ∧ w'.cell? ⟨q, 5, none⟩ = some (.bool false))
    (first | assumption | exact HC.out _ (by assumption))
    (first
      | (go_at_call 21; go_loud (refine (DN.out _ hb0).mono ?_; rintro e wA ⟨A1, c1, rfl, hT1, hbx⟩; have hbA := hb0.trans (hbx.mono hb0.size); have HZA := Lib.hid hbx.size; have HTA := Lib.hid hT1; have HTB := Lib.hid (HT1.out.below (hbx.mono (by simp))); clear hbx hT1))
      | (go_at_call 20; go_loud (refine (texts_same A1 A2 n c1 c2 _ _ _ wA HTA.out HTB.out).mono ?_; rintro e w9 ⟨rfl, nq, rfl⟩; have hbB := below_drewn hbA nq; have HTC := Lib.hid (HTB.out.drewN nq)))
      | (go_at_call 32; go_loud (refine (DD.out _ hbB).mono ?_; rintro e w9 ⟨rfl, rfl⟩))
      | (go_at_call 14; go_loud (refine (US.out _ hbB).mono ?_; rintro e wC ⟨rfl, hbx⟩; have hbC := hbB.trans (hbx.mono hbB.size); have HTD := Lib.hid hbx; clear hbx))
      | (go_at_call 42; go_loud (refine (RU.out _ hbC).mono ?_; rintro e wD ⟨rfl, hbx⟩; have hbD := hbC.trans (hbx.mono hbC.size); have HTE := Lib.hid (HTD.out.trans (hbx.mono HTD.out.size)); clear hbx))
      | (go_at_call 15; go_loud (refine (LO.out _ hbD).mono ?_; rintro e wE ⟨rfl, hbx⟩; have hbE := hbD.trans (hbx.mono hbD.size); have HTF := Lib.hid (HTE.out.trans (hbx.mono HTE.out.size)); clear hbx))
      | (go_at_call 13; go_loud (refine (RL.out _ hbE).mono ?_; rintro e w9 ⟨rfl, rfl⟩)))
  have HTL := Lib.hid (HTC.out.below (HTF.out.mono HZA.out))
  have HTL0 := Lib.hid (show wN.drew.heap.size ≤ wE.heap.size from Nat.le_trans HZA.out HTF.out.size)
  clear hb0 hbA hbB hbC hbD hbN HT HT1 HTA HTB HTC HTD HTE HTF HZA DN DD US RU LO RL
  go_wp2
  go_loopw [6, 7, 8, 9, 10, 11] (fun i b e n2 f now wr => ∃ j : Nat, j ≤ n ∧ i = .int .i64 j ∧ Hid (Below wE.heap.size wE wr)) (fun i _ _ _ _ _ _ => n - (intOf i).toNat)
  case atStart => exact ⟨0, Nat.zero_le _, rfl, Lib.hid (Below.refl _ _)⟩
  case round =>
    obtain ⟨j, hj, rfl, H⟩ := hrel
    have hbr : Below w.heap.size w wr := hbE.trans (H.out.mono hbE.size)
    obtain ⟨o0, o5⟩ := HC.out wr hbr
    by_cases hlt : j < n
    · obtain ⟨pr, hp⟩ : ∃ pr, v.d.now[j]? = some pr := ⟨_, List.getElem?_eq_getElem (by rw [← HNM.out]; exact hlt)⟩
      obtain ⟨b9, off, rfl, hb9, hc⟩ := (HTL.out.below (H.out.mono HTL0.out)).at_ (by omega)
      have y0 := hc j hlt
      rw [namesN_get hp] at y0
      have hlti : (j : Int) < (n : Int) := by omega
      have hgt := get_rise8 HG.out.d.riseN hp
      obtain ⟨k, f, hik, -, hvf, hfa, hfg⟩ := HG.out.at_ hgt
      have hxs := (HG.out.d.okn pr (List.mem_of_getElem? hp)).1
      have R0 := vread_yes pr.1 pr.2 0 1048576 (HV.out wr hbr) HG.out (by omega) HDD.out hxs hgt (by omega) (by omega) (by omega) (by omega)
      rw [hfa, FS.read_all f (by have := hfg.ok.size; omega)] at R0
      have RD := Lib.hid R0
      have S0 := fun (wz : World) (hb : Below w.heap.size w wz) => vsize_yes pr.1 pr.2 (HV.out wz hb) HG.out (by omega) HDD.out hxs hgt
      rw [hfa] at S0
      rw [hik] at hgt
      obtain ⟨r, S9, a9, b8, d9, xs9, hq9, hS9, hrf, -⟩ := (HR.out wr hbr).rv.file hvf
      have GT := Lib.hid (fun (wz : World) (hb : Below w.heap.size w wz) => rvget_yes pr.1 k r f (HR.out wz hb) hgt hvf hq9)
      obtain ⟨Am, cm, rfl, -, -⟩ := own_form hrf.now
      have HM := Lib.hid (fun (wz : World) (hb : Below wr.heap.size wr wz) => (show Reads wz wz.heap.size 1 Am f.now.length (cellsOf .u8 f.now) from ((hrf.below hb).nowR rfl).1))
      have H0 := Lib.hid (fun (wz : World) (hb : Below wr.heap.size wr wz) => (hrf.cells3 hb).1)
      obtain ⟨mm, hmm⟩ : ∃ mm, mm = f.now.length := ⟨_, rfl⟩
      rw [← hmm] at S0 H0 HM
      have SZ := Lib.hid S0
      have HMM := Lib.hid hmm
      have HAR := Lib.hid hfg.ok.now
      have hb9w : b9 < wr.heap.size := World.block_lt_of_cell? wr _ y0
      have hbrS := Lib.hid hbr
      clear hp hc hgt hvf hfa hfg R0 S0 hrf hq9 hS9 hmm
      go_wp2_with (first
        | (go_at_call 22; go_loud (refine RD.out.mono ?_; rintro e w2 ⟨bv, rfl, Ab, cb, hbv, hown, hb2⟩; injection hbv with hbv; subst hbv; rw [← HMM.out] at hown ⊢; have hbr2 := hbrS.out.trans (hb2.mono hbrS.out.size); obtain ⟨n0, n5⟩ := HC.out w2 hbr2; have y2 : w2.cell? ⟨b9, off + j, none⟩ = some (.string pr.1) := (hb2.cell (p := ⟨b9, off + j, none⟩) hb9w).trans y0; have r0 := H0.out w2 hb2; have HRD := Lib.hid (Reads.of_own hown); have HM2 := Lib.hid (HM.out w2 hb2); have H2 := Lib.hid (H.out.trans (hb2.mono H.out.size)); clear hown hb2))
        | (go_at_call 26; go_loud (refine (SZ.out _ hbr2).mono ?_; rintro e w9 ⟨rfl, rfl⟩))
        | (go_at_call 24; go_loud (refine (GT.out _ hbr2).mono ?_; rintro e w9 ⟨rfl, rfl⟩))
        | (go_at_call 23; go_loud (refine (same_yes Ab Am mm mm cb cm _ _ w2 HRD.out HM2.out HAR.out (Lib.hid rfl)).mono ?_; rintro e w9 ⟨rfl, rfl⟩)))
      go_round
      case rel => exact ⟨j + 1, by omega, by go_num, H2⟩
      case measure => simp [intOf]; omega
    · obtain rfl : j = n := by omega
      have hlti : ¬ (j : Int) < (j : Int) := by omega
      go_wp2
      go_ret
      exact ⟨rfl, hbr⟩


theorem shows_any (p q base N : Nat) (T : Nat → Prop) (v : VS) (w : World) (h : Two w base T p q v N) (hN : N ≤ 1000) :
    Calls Tryz.prog 12 #[.pointer (some ⟨p, 0, none⟩), .pointer (some ⟨q, 0, none⟩)] w fun e w' => e = .returned (.bool true) ∧ Below w.heap.size w w' := by
  cases hd : v.dead with
  | true => exact shows_dead p q base N T v w h hN hd
  | false => exact shows_live p q base N T v w h hN hd


end Go.Proofs.YtclglbddibjenaaGreat
