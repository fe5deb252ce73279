/-
  LAYER 8: WHAT THE DOCUMENT'S OWN change, Arm, Get, Used, room AND Loose DO: contracts.
-/
import Derived.Test.YtclglbddibjenaaGreatVdRMem
import Derived.Deep.RegionHeld3
set_option linter.unusedVariables false
set_option linter.unusedSimpArgs false
set_option maxRecDepth 100000
namespace Go.Proofs.YtclglbddibjenaaGreat
open Go.RowKit

section
variable {w w0 w' : World} {base q dq N : Nat} {T U T0 : Nat → Prop} {v v' : VS} {os : OsL} {fv nv sv ov : Value} {SD SF : Nat → Prop} {qs : List Nat} {Ss : List (Nat → Prop)}

theorem RVT.setDead (h : RVT w0 T0 w base q v dq fv nv sv ov SD SF qs Ss) : RVT w0 T0 (w.setCell ⟨q, 5, none⟩ (.bool true)) base q { v with dead := true } dq fv nv sv ov SD SF qs Ss :=
  h.block (chg_cell w q 5 _) (h.rv.blk.set_ 5 (.bool true)) rfl rfl
theorem RVT.setFuse (h : RVT w0 T0 w base q v dq fv nv sv ov SD SF qs Ss) (n : Int) : RVT w0 T0 (w.setCell ⟨q, 3, none⟩ (.int .i64 n)) base q { v with fuse := n } dq fv nv sv ov SD SF qs Ss :=
  h.block (chg_cell w q 3 _) (h.rv.blk.set_ 3 (.int .i64 n)) rfl rfl
theorem RVT.setArm (h : RVT w0 T0 w base q v dq fv nv sv ov SD SF qs Ss) : RVT w0 T0 (w.setCell ⟨q, 4, none⟩ (.bool true)) base q { v with armed := true } dq fv nv sv ov SD SF qs Ss :=
  h.block (chg_cell w q 4 _) (h.rv.blk.set_ 4 (.bool true)) rfl rfl

/-! ### change, Arm -/
theorem rvchange_any (h : RVT w0 T0 w base q v dq fv nv sv ov SD SF qs Ss) (f0 : 0 ≤ v.fuse) (f1 : v.fuse ≤ 9223372036854775807) :
    Calls Tryz.prog 71 #[.pointer (some ⟨q, 0, none⟩)] w fun e w' => e = .returned (.bool (!v.stops)) ∧ RVT w0 T0 w' base q v.tick dq fv nv sv ov SD SF qs Ss := by
  obtain ⟨c0, c1, c2, c3, c4, c5, g1, g3, g4, g5⟩ := h.rv.cells
  have HV := Lib.hid h
  clear h c0 c1 c2 g1 g4
  cases hd : v.dead with
  | true =>
    obtain ⟨e1, e2⟩ := stops_dead hd
    have h2 : { v with dead := true } = v := by
      obtain ⟨d, fs, room, fuse, armed, dead⟩ := v
      have hd : dead = true := hd
      subst hd; rfl
    rw [e1, e2]
    rw [hd] at c5
    have HW := Lib.hid (HV.out.setDead)
    rw [h2] at HW
    clear e1 e2 hd c3 c4 h2 HV f0 f1
    go_enter Tryz.func71, Tryz.ntmps71
    go_wp2
    go_ret
    exact ⟨rfl, HW.out⟩
  | false =>
    rw [hd] at c5
    cases ha : v.armed with
    | false =>
      obtain ⟨e1, e2⟩ := stops_free hd ha
      rw [e1, e2]
      rw [ha] at c4
      clear e1 e2 hd ha c3
      go_enter Tryz.func71, Tryz.ntmps71
      go_wp2
      go_ret
      exact ⟨rfl, HV.out⟩
    | true =>
      rw [ha] at c4
      by_cases hf : v.fuse = 0
      · obtain ⟨e1, e2⟩ := stops_now hd ha hf
        rw [e1, e2]
        rw [hf] at c3
        clear e1 e2 hd ha hf
        go_enter Tryz.func71, Tryz.ntmps71
        go_wp2
        go_ret
        exact ⟨rfl, HV.out.setDead⟩
      · obtain ⟨e1, e2⟩ := stops_later hd ha hf
        rw [e1, e2]
        obtain ⟨n, hn⟩ : ∃ n, n = v.fuse := ⟨_, rfl⟩
        rw [← hn] at c3 hf f0 f1 ⊢
        have hq : (n == 0) = false := by simpa using hf
        have n1 : IntKind.i64.wrap (n - 1) = n - 1 := by rw [IntKind.wrap_i64]; omega
        clear e1 e2 hd ha hf hn
        go_enter Tryz.func71, Tryz.ntmps71
        go_wp2
        go_ret
        exact ⟨rfl, HV.out.setFuse _⟩
theorem rvarm_any (n : Int) (h : RVT w0 T0 w base q v dq fv nv sv ov SD SF qs Ss) (h0 : -9223372036854775808 ≤ n) (h1 : n ≤ 9223372036854775807) :
    Calls Tryz.prog 40 #[.pointer (some ⟨q, 0, none⟩), .int .i64 n] w fun e w' => e = .returned (.tuple #[]) ∧ RVT w0 T0 w' base q (v.arm n) dq fv nv sv ov SD SF qs Ss := by
  obtain ⟨c0, c1, c2, c3, c4, c5, g1, g3, g4, g5⟩ := h.rv.cells
  have HV := Lib.hid h
  clear h c0 c1 c2 c5 g1 g5
  by_cases hn : n < 0
  · rw [show v.arm n = { v with fuse := 0, armed := true } by unfold VS.arm; rw [if_pos hn]]
    go_enter Tryz.func40, Tryz.ntmps40
    go_wp2
    go_end0
    exact ⟨rfl, (HV.out.setFuse _).setArm⟩
  · rw [show v.arm n = { v with fuse := n, armed := true } by unfold VS.arm; rw [if_neg hn]]
    go_enter Tryz.func40, Tryz.ntmps40
    go_wp2
    go_end0
    exact ⟨rfl, (HV.out.setFuse _).setArm⟩

/-! ### Get -/
theorem RVT.names (h : RVT w0 T0 w base q v dq fv nv sv ov SD SF qs Ss) : ∃ A c, nv = .slice A v.d.now.length c ∧ Nms w w.heap.size A v.d.now.length c v.d.now ∧ w.cell? ⟨dq, 0, none⟩ = some nv := by
  obtain ⟨A, c, rfl, hn⟩ := Nms.of_own h.rv.dir.now
  exact ⟨A, c, rfl, hn, (h.rv.dir.cells (Below.refl _ _)).1⟩
theorem rvget_none (x : ByteArray) (h : RVT w0 T0 w base q v dq fv nv sv ov SD SF qs Ss) (hg : getN v.d.now x = none) :
    Calls Tryz.prog 24 #[.pointer (some ⟨q, 0, none⟩), .string x] w fun e w' => e = .returned (.pointer none) ∧ w = w' := by
  obtain ⟨c0, c1, -, -, -, -, -, -, -, -⟩ := h.rv.cells
  obtain ⟨A, c, rfl, hn, d0⟩ := h.names
  have G := rget_any A _ c _ v.d.now x w hn
  rw [hg] at G
  have GH := Lib.hid G
  clear h hn hg G c1
  go_enter Tryz.func24, Tryz.ntmps24
  go_wp2_with (go_at_call 63; refine GH.out.mono ?_; rintro e w9 ⟨rfl, rfl⟩)
  go_ret
  exact ⟨rfl, rfl⟩
theorem rvget_yes (x : ByteArray) (k r : Nat) (f : FS) (h : RVT w0 T0 w base q v dq fv nv sv ov SD SF qs Ss) (hg : getN v.d.now x = some (k : Int)) (hf : v.fs[k]? = some f) (hr : qs[k]? = some r) :
    Calls Tryz.prog 24 #[.pointer (some ⟨q, 0, none⟩), .string x] w fun e w' => e = .returned (.pointer (some ⟨r, 0, none⟩)) ∧ w = w' := by
  obtain ⟨c0, c1, -, -, -, -, -, -, -, -⟩ := h.rv.cells
  obtain ⟨A, c, rfl, hn, d0⟩ := h.names
  have G := rget_any A _ c _ v.d.now x w hn
  rw [hg] at G
  have GH := Lib.hid G
  obtain ⟨g, n, c', r', S, a, b, d, xs, rfl, -, hkn, hnc, ck, hr', -, -⟩ := h.rv.elem hf
  rw [hr] at hr'
  injection hr' with hr'
  subst hr'
  have hki : (k : Int) < (n : Int) := by omega
  clear h hn hg G hf hr
  go_enter Tryz.func24, Tryz.ntmps24
  go_wp2_with (go_at_call 63; refine GH.out.mono ?_; rintro e w9 ⟨rfl, rfl⟩)
  go_ret
  exact ⟨rfl, rfl⟩

/-! ### Used -/
theorem rcount_nat (m : Nat) (hm : m ≤ 4000000) (W : World) : Calls Tryz.prog 80 #[.int .i64 (m : Int)] W fun e w' => e = .returned (.int .i64 (cntN m : Int)) ∧ W = w' := by
  have h := rcount_any (m : Int) W (by omega) (by omega)
  rwa [cntI_nat] at h

set_option maxHeartbeats 2000000 in
theorem rvused_any (h : RVT w0 T0 w base q v dq fv nv sv ov SD SF qs Ss) (hgd : GoodV v os N) (hN : N ≤ 1000) :
    Calls Tryz.prog 42 #[.pointer (some ⟨q, 0, none⟩)] w fun e w' => e = .returned (.int .i64 v.used) ∧ Below w.heap.size w w' := by
  obtain ⟨A, c, hnv, hnm, -⟩ := h.names
  obtain ⟨n, hn⟩ : ∃ n, n = v.d.now.length := ⟨_, rfl⟩
  rw [← hn] at hnv hnm
  subst hnv
  have hn9 : n ≤ 1000 := by have := hgd.d.now; omega
  have hle := hnm.le
  have hcap := hnm.cap
  have HV := Lib.hid h
  have HG := Lib.hid hgd
  have HNM := Lib.hid hnm
  have HN := Lib.hid hn
  have HU := Lib.hid (show ∀ l : NmL, usedL v.fs l ≤ l.length * 16384 from fun l => by rw [usedL_sum]; exact sumZ_le _ (szL_le hgd) l)
  clear h hgd hnm hn
  go_enter Tryz.func42, Tryz.ntmps42
  go_wp2
  go_loopw [3, 4] (fun s i wr => ∃ j : Nat, j ≤ n ∧ i = .int .i64 j ∧ s = .int .i64 (usedL v.fs (v.d.now.take j)) ∧ Hid (Below w.heap.size w wr)) (fun _ i _ => n - (intOf i).toNat)
  case atStart => exact ⟨0, Nat.zero_le _, rfl, rfl, Lib.hid (Below.refl _ _)⟩
  case round =>
    obtain ⟨j, hj, rfl, rfl, H⟩ := hrel
    have hvr := HV.out.below H.out
    obtain ⟨c0, c1, -, -, -, -, -, -, -, -⟩ := hvr.rv.cells
    have d0 := (hvr.rv.dir.cells (Below.refl _ _)).1
    by_cases hlt : j < n
    · obtain ⟨b, off, pr, rfl, hb, hp, y0, y1⟩ := (HNM.out.below H.out).at_ hlt
      have hgt := get_rise8 HG.out.d.riseN hp
      obtain ⟨k, f, hik, -, hvf, hfa, hfg⟩ := HG.out.at_ hgt
      obtain ⟨g, nf, c', r, S, a, b', d, xs, rfl, hnf, hkn, hnc, ck, -, -, hrf⟩ := hvr.rv.elem hvf
      obtain ⟨m, hm⟩ : ∃ m, m = f.now.length := ⟨_, rfl⟩
      obtain ⟨Ar, cr, hav, -, -⟩ := own_form hrf.now
      subst hav
      have r0 : wr.cell? ⟨r, 0, none⟩ = some (.slice Ar m cr) := by rw [hm]; exact hrf.blk.cell 0
      have hmm : m ≤ 1048576 := by rw [hm]; exact hfg.ok.size
      have hnx := usedL_next v.fs (k := j) (l := v.d.now) (by rw [← HN.out]; exact hlt)
      have hpe : v.d.now[j]'(by rw [← HN.out]; exact hlt) = pr := by
        have := List.getElem?_eq_getElem (l := v.d.now) (i := j) (by rw [← HN.out]; exact hlt)
        rw [hp] at this; injection this with this; exact this.symm
      rw [hpe, hfa, ← hm] at hnx
      have hu := HU.out (v.d.now.take j)
      rw [List.length_take] at hu
      obtain ⟨s0, hs0⟩ : ∃ s0, s0 = usedL v.fs (v.d.now.take j) := ⟨_, rfl⟩
      obtain ⟨s1, hs1⟩ : ∃ s1, s1 = cntN m := ⟨_, rfl⟩
      rw [← hs0] at hu hnx ⊢
      rw [← hs1] at hnx
      have hs3 : s0 ≤ 16384000 := by
        have : min j v.d.now.length ≤ 1000 := by omega
        omega
      have hs2 : s1 ≤ 16384 := by rw [hs1]; unfold cntN; omega
      have CT := Lib.hid (fun W => rcount_nat m (by omega) W)
      rw [← hs1] at CT
      obtain ⟨x, i⟩ := pr
      simp only at hik y1
      subst hik
      have hlti : (j : Int) < (n : Int) := by omega
      have hki : (k : Int) < (nf : Int) := by omega
      have n1 : IntKind.i64.wrap ((s0 : Int) + (s1 : Int)) = (s0 : Int) + (s1 : Int) := by rw [IntKind.wrap_i64]; omega
      have HX := Lib.hid hnx
      have hbd : Below w.heap.size w wr.drew := below_drewn H.out 1
      have HBD := Lib.hid hbd
      have HCC := Lib.hid (And.intro c0 (And.intro c1 (And.intro d0 (And.intro y1 (And.intro ck r0)))))
      have k0 : wr.drew.cell? ⟨q, 0, none⟩ = some (.pointer (some ⟨dq, 0, none⟩)) := c0
      have k1 : wr.drew.cell? ⟨q, 1, none⟩ = some (.slice (some ⟨g, 0, none⟩) nf c') := c1
      have k2 : wr.drew.cell? ⟨dq, 0, none⟩ = some (.slice (some ⟨b, off, none⟩) n c) := d0
      have k3 : wr.drew.cell? ⟨b, off + j * 2 + 1, none⟩ = some (.int .i64 (k : Int)) := y1
      have k4 : wr.drew.cell? ⟨g, k, none⟩ = some (.pointer (some ⟨r, 0, none⟩)) := ck
      have k5 : wr.drew.cell? ⟨r, 0, none⟩ = some (.slice Ar m cr) := r0
      clear hvr hgt hvf hfa hfg hnf hrf hm hnx hpe hu hs0 hs1 hp hb y0 hbd H
      go_wp2
      go_region_held3 (fun w' => w'.cell? ⟨q, 0, none⟩ = some (.pointer (some ⟨dq, 0, none⟩)) ∧ w'.cell? ⟨q, 1, none⟩ = some (.slice (some ⟨g, 0, none⟩) nf c') ∧ w'.cell? ⟨dq, 0, none⟩ = some (.slice (some ⟨b, off, none⟩) n c) ∧ w'.cell? ⟨b, off + j * 2 + 1, none⟩ = some (.int .i64 (k : Int)) ∧ w'.cell? ⟨g, k, none⟩ = some (.pointer (some ⟨r, 0, none⟩)) ∧ w'.cell? ⟨r, 0, none⟩ = some (.slice Ar m cr))
        (first | assumption | exact ⟨k0, k1, k2, k3, k4, k5⟩)
        (first
          | (go_at_call 80; go_loud (refine (CT.out _).mono ?_; rintro e w9 ⟨rfl, rfl⟩)))
      go_wp2
      go_roundw
      case rel => exact ⟨j + 1, by omega, by go_num, by rw [HX.out]; go_num, HBD⟩
      case measure => simp [intOf]; omega
    · obtain rfl : j = n := by omega
      have hlti : ¬ (j : Int) < (j : Int) := by omega
      have HB := Lib.hid H.out
      rw [show usedL v.fs (v.d.now.take j) = v.used by rw [HN.out, List.take_length]; rfl]
      clear hvr H
      go_wp2
      go_ret
      exact ⟨rfl, HB.out⟩

/-! ### room -/
set_option maxHeartbeats 2000000 in
theorem rvroom_any {x : ByteArray} {k r : Nat} {f : FS} (size : Nat) (h : RVT w0 T0 w base q v dq fv nv sv ov SD SF qs Ss) (hgd : GoodV v os N) (hN : N ≤ 1000) (hx : getN v.d.now x = some (k : Int)) (hf : v.fs[k]? = some f) (hr : qs[k]? = some r) (hsz : size ≤ 1048576) :
    Calls Tryz.prog 73 #[.pointer (some ⟨q, 0, none⟩), .pointer (some ⟨r, 0, none⟩), .int .i64 (size : Int)] w fun e w' => e = .returned (.bool (v.fits f size)) ∧ Below w.heap.size w w' := by
  obtain ⟨-, -, c2, -, -, -, -, -, -, -⟩ := h.rv.cells
  obtain ⟨r', S, a, b, d, xs, hr', hS, hrf, -⟩ := h.rv.file hf
  rw [hr] at hr'
  injection hr' with hr'
  subst hr'
  have hfl : f.now.length ≤ 1048576 := (hgd.fs f (List.mem_of_getElem? hf)).ok.size
  obtain ⟨m, hm⟩ : ∃ m, m = f.now.length := ⟨_, rfl⟩
  obtain ⟨Ar, cr, hav, -, -⟩ := own_form hrf.now
  subst hav
  have r0 : w.cell? ⟨r, 0, none⟩ = some (.slice Ar m cr) := by rw [hm]; exact hrf.blk.cell 0
  have CT := Lib.hid (fun (z : Nat) (hz : z ≤ 4000000) W => rcount_nat z hz W)
  have hm9 : m ≤ 4000000 := by omega
  have hz9 : size ≤ 4000000 := by omega
  by_cases hle : cntN size ≤ cntN m
  · rw [fits_yes (by rw [← hm]; exact hle)]
    have q1 : (cntN size : Int) ≤ (cntN m : Int) := by omega
    have hbd : Below w.heap.size w w.drew := below_drewn (Below.refl _ _) 1
    have k2 : w.drew.cell? ⟨q, 2, none⟩ = some (.int .i64 v.room) := c2
    have HB := Lib.hid hbd
    clear h hgd hx hf hr hS hrf hfl hm hle hbd
    go_enter Tryz.func73, Tryz.ntmps73
    go_wp2_with (go_at_call 80; go_loud (refine (CT.out _ (by assumption) _).mono ?_; rintro e w9 ⟨rfl, rfl⟩))
    go_quiet (fail)
    go_wp2
    go_ret
    exact ⟨rfl, below_drewn (Below.refl _ _) nq⟩
  · have hs := sum_other hgd hx hf size
    have hfit : v.fits f size = decide ((v.used : Int) - cntN m + cntN size ≤ v.room) := by
      unfold VS.fits
      rw [← hm, decide_eq_false hle, Bool.false_or]
    rw [hfit]
    have q1 : ¬ (cntN size : Int) ≤ (cntN m : Int) := by omega
    have hu9 : v.used ≤ 16384000 := by
      have : v.used ≤ v.d.now.length * 16384 := by
        show usedL v.fs v.d.now ≤ _
        rw [usedL_sum]; exact sumZ_le _ (szL_le hgd) _
      have := hgd.d.now
      omega
    have US := Lib.hid (fun (wz : World) (hb : Below w.heap.size w wz) => rvused_any (h.below hb) hgd hN)
    obtain ⟨us, hus⟩ : ∃ us, us = v.used := ⟨_, rfl⟩
    obtain ⟨rm, hrm⟩ : ∃ rm, rm = v.room := ⟨_, rfl⟩
    obtain ⟨za, hza⟩ : ∃ za, za = cntN size := ⟨_, rfl⟩
    obtain ⟨zb, hzb⟩ : ∃ zb, zb = cntN m := ⟨_, rfl⟩
    have hza9 : za ≤ 16384 := by rw [hza]; unfold cntN; omega
    have hzb9 : zb ≤ 16384 := by rw [hzb]; unfold cntN; omega
    have C1 := Lib.hid (fun W => rcount_nat m hm9 W)
    have C2 := Lib.hid (fun W => rcount_nat size hz9 W)
    have HC := Lib.hid (fun (wz : World) (hb : Below w.heap.size w wz) => (h.below hb).rv.cells.c2)
    rw [← hus] at US hu9 ⊢
    rw [← hrm] at HC c2 ⊢
    rw [← hza] at C2 q1 ⊢
    rw [← hzb] at C1 q1 ⊢
    have n1 : IntKind.i64.wrap ((us : Int) - (zb : Int)) = (us : Int) - (zb : Int) := by rw [IntKind.wrap_i64]; omega
    have n2 : IntKind.i64.wrap ((us : Int) - (zb : Int) + (za : Int)) = (us : Int) - (zb : Int) + (za : Int) := by rw [IntKind.wrap_i64]; omega
    have hbd : Below w.heap.size w w.drew := below_drewn (Below.refl _ _) 1
    have k2 := HC.out _ hbd
    have m1 : True := trivial
    have q3 : decide ((za : Int) ≤ (zb : Int)) = false := decide_eq_false q1
    have q4 : ¬ za ≤ zb := by omega
    clear h hgd hx hf hr hS hrf hfl hm hle hs hfit hus hrm hza hzb CT q1
    go_enter Tryz.func73, Tryz.ntmps73
    go_wp2_with (first
      | (go_at_call 80; clear m1; go_loud (refine (C1.out _).mono ?_; rintro e w9 ⟨rfl, rfl⟩))
      | (go_at_call 80; go_loud (refine (C2.out _).mono ?_; rintro e w9 ⟨rfl, rfl⟩)))
    first
    | (
      go_region_held3 (fun w' => w'.cell? ⟨q, 2, none⟩ = some (.int .i64 rm))
        (first | assumption | exact k2)
        (first
          | (go_at_call 42; go_loud (refine (US.out _ hbd).mono ?_; rintro e w3 ⟨rfl, hb3⟩; have hb4 := hbd.trans (hb3.mono hbd.size); have k3 := HC.out _ hb4; clear hb3))))
    | fail
    go_wp2
    go_ret
    exact ⟨rfl, hb4⟩

/-! ### Loose -/
set_option maxHeartbeats 2000000 in
theorem rvloose_any (h : RVT w0 T0 w base q v dq fv nv sv ov SD SF qs Ss) (hgd : GoodV v os N) (hN : N ≤ 1000) :
    Calls Tryz.prog 13 #[.pointer (some ⟨q, 0, none⟩)] w fun e w' => e = .returned (.int .i64 v.loose) ∧ w = w' := by
  obtain ⟨c0, c1, -, -, -, -, -, -, -, -⟩ := h.rv.cells
  obtain ⟨-, -, d2, -, -, -⟩ := h.rv.dir.cells (Below.refl _ _)
  obtain ⟨Ao, co, rfl, -, -⟩ := own_form h.rv.dir.pend
  obtain ⟨m, hm⟩ : ∃ m, m = v.d.ops.length := ⟨_, rfl⟩
  rw [← hm] at d2
  obtain ⟨Af, cf, rfl, hfc, hfm⟩ := own_form h.rv.row
  obtain ⟨n, hn⟩ : ∃ n, n = v.fs.length := ⟨_, rfl⟩
  rw [← hn] at c1 hfc
  have hn9 : n ≤ 1000 := by have := hgd.few; omega
  have hm9 : m ≤ 1000 := by have := hgd.d.safe; omega
  have HB := Lib.hid (show ∀ j, looseF (v.fs.take j) ≤ 10000000 from fun j => by
    have h1 : ∀ j, j ≤ v.fs.length → looseF (v.fs.take j) ≤ j * (N * 10) := by
      intro j
      induction j with
      | zero => intro _; simp [looseF]
      | succ j ih =>
        intro hj
        rw [looseF_next (show j < v.fs.length by omega), Nat.add_mul]
        have := ih (by omega)
        have := (hgd.fs _ (List.getElem_mem (show j < v.fs.length by omega))).few
        omega
    have h3 : ∀ j, j ≤ v.fs.length → looseF (v.fs.take j) ≤ 10000000 := fun j hj => by
      have := h1 j hj
      have h4 : j * (N * 10) ≤ 1000 * 10000 := Nat.mul_le_mul (by omega) (by omega)
      omega
    by_cases hj : j ≤ v.fs.length
    · exact h3 j hj
    · have := h3 v.fs.length (Nat.le_refl _)
      rw [List.take_length] at this
      rw [List.take_of_length_le (by omega)]
      exact this)
  have HV := Lib.hid h
  have HM := Lib.hid hm
  have HN := Lib.hid hn
  clear h hgd hm hn
  go_enter Tryz.func13, Tryz.ntmps13
  go_wp2
  go_loop [3, 4] (fun s i => ∃ j : Nat, j ≤ n ∧ i = .int .i64 j ∧ s = .int .i64 ((m + looseF (v.fs.take j) : Nat) : Int)) (fun _ i => n - (intOf i).toNat)
  case atStart => exact ⟨0, Nat.zero_le _, rfl, by simp [looseF]⟩
  case round =>
    obtain ⟨j, hj, rfl, rfl⟩ := hrel
    by_cases hlt : j < n
    · have hjl : j < v.fs.length := by rw [← HN.out]; exact hlt
      have hfj := List.getElem?_eq_getElem hjl
      obtain ⟨g, nf, c', r, S, a, b, d, xs, hve, hnf, hkn, hnc, ck, -, -, hrf⟩ := HV.out.rv.elem hfj
      injection hve with hv1 hv2 hv3
      subst hv1
      obtain ⟨Ap, cp, hov, -, -⟩ := own_form hrf.pend
      subst hov
      obtain ⟨pn, hpn⟩ : ∃ pn, pn = v.fs[j].ops.length := ⟨_, rfl⟩
      have r2 : w.cell? ⟨r, 2, none⟩ = some (.slice Ap pn cp) := by rw [hpn]; exact hrf.blk.cell 2
      have hnx := looseF_next hjl
      rw [← hpn] at hnx
      have hu := HB.out j
      have hu2 := HB.out (j + 1)
      obtain ⟨s0, hs0⟩ : ∃ s0, s0 = m + looseF (v.fs.take j) := ⟨_, rfl⟩
      rw [← hs0]
      have HX := Lib.hid (show m + looseF (v.fs.take (j + 1)) = s0 + pn by rw [hnx, hs0]; omega)
      have hs9 : s0 ≤ 10001000 := by omega
      have hp9 : pn ≤ 10000000 := by omega
      have hlti : (j : Int) < (n : Int) := by omega
      have n1 : IntKind.i64.wrap ((s0 : Int) + (pn : Int)) = (s0 : Int) + (pn : Int) := by rw [IntKind.wrap_i64]; omega
      clear hjl hfj hv2 hv3 hnf hkn hnc hrf hpn hnx hu hu2 hs0
      go_wp2
      go_round
      case rel => exact ⟨j + 1, by omega, by go_num, by rw [HX.out]; go_num⟩
      case measure => simp [intOf]; omega
    · obtain rfl : j = n := by omega
      have hlti : ¬ (j : Int) < (j : Int) := by omega
      rw [show m + looseF (v.fs.take j) = v.loose by rw [HN.out, List.take_length, HM.out]; rfl]
      go_wp2
      go_ret
      exact ⟨rfl, rfl⟩
end

end Go.Proofs.YtclglbddibjenaaGreat
