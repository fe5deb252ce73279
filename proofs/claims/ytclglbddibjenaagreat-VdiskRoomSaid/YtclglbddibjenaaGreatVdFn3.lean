/-
  LAYER 8: WHAT Used, fits, Size AND Read DO: contracts.
-/
import Derived.Test.YtclglbddibjenaaGreatVdFn2
import Derived.Deep.RegionHeld3
import Derived.LaidEqlPtr
set_option linter.unusedVariables false
set_option linter.unusedSimpArgs false
set_option maxRecDepth 100000
namespace Go.Proofs.YtclglbddibjenaaGreat
open Go.RowKit Go.Shelf

section
variable {w w0 w' : World} {base p dp mb bn bs N : Nat} {T U T0 : Nat → Prop} {v v' : VS} {os : OsL} {pv : Value} {SD SF : Nat → Prop} {ps : List Nat} {Ss : List (Nat → Prop)}

def szL (fs : List FS) (i : Int) : Nat := (fileAt fs i).now.length
theorem szL_le (h : GoodV v os N) (i : Int) : szL v.fs i ≤ 1048576 := by
  unfold szL fileAt
  rw [List.getD_eq_getElem?_getD]
  cases hc : v.fs[i.toNat]? with
  | none => exact Nat.zero_le _
  | some f => exact (h.fs f (List.mem_of_getElem? hc)).ok.size
/-- The file that is found under a number. -/
theorem VDT.found (h : VDT w0 T0 w base p v os dp mb bn bs pv SD SF ps Ss) (hg : GoodV v os N) {i : Int} {q : Nat} (hq : lookP ps os i = some q) :
    ∃ (k : Nat) (f : FS) (S : Nat → Prop) (A : Option Addr) (c : Nat) (sv : Value) (B : Option Addr) (d : Nat), i = k ∧ os[k]? = some (some f) ∧ ps[k]? = some q ∧ Ss[k]? = some S ∧ fileAt v.fs i = f ∧ CF w base S q f (.slice A f.now.length c) sv (.slice B f.ops.length d) := by
  obtain ⟨k, f, rfl, hf, hpk⟩ := lookP_some hq
  obtain ⟨q', S, nv, sv, qv, h1, h2, h3, -, -⟩ := h.vd.file hf
  rw [hpk] at h1
  injection h1 with h1
  subst h1
  obtain ⟨A, c, rfl, -, -⟩ := own_form h3.now
  obtain ⟨B, d, rfl, -, -⟩ := own_form h3.pend
  exact ⟨k, f, S, A, c, sv, B, d, rfl, hf, hpk, h2, fileAt_some (hg.live k f hf), h3⟩
theorem VDT.len (h : VDT w0 T0 w base p v os dp mb bn bs pv SD SF ps Ss) (hg : GoodV v os N) {i : Int} {q : Nat} (hq : lookP ps os i = some q) : ∃ A c, w.cell? ⟨q, 0, none⟩ = some (.slice A (szL v.fs i) c) := by
  obtain ⟨k, f, S, A, c, sv, B, d, -, -, -, -, hfa, hcf⟩ := h.found hg hq
  refine ⟨A, c, ?_⟩
  unfold szL
  rw [hfa]
  exact hcf.blk.cell 0

/-! ### Used -/
theorem vused_any (h : VDT w0 T0 w base p v os dp mb bn bs pv SD SF ps Ss) (hgd : GoodV v os N) (hN : N ≤ 900000) :
    Calls Tryz.prog 14 #[.pointer (some ⟨p, 0, none⟩)] w fun e w' => e = .returned (.int .i64 v.used) ∧ Below w.heap.size w w' := by
  obtain ⟨c0, c1, -, -, -, -, -, -, -, -, -, -⟩ := h.vd.cells
  have M := Lib.hid (vmade_yes p mb w c1)
  have SE := vsectors_any 45 #[] (szL v.fs) h hgd hN (enters_of Tryz.func45 (by kernel_rfl) rfl) (szL_le hgd) (fun W i q hb hq => by
    obtain ⟨A, c, hc⟩ := (h.below hb).len hgd hq
    exact flen_any q _ A c W hc)
  rw [show sumZ (szL v.fs) v.d.now = v.used from (usedL_sum v.fs v.d.now).symm] at SE
  have SEH := Lib.hid SE
  clear h hgd SE c0 c1
  go_enter Tryz.func14, Tryz.ntmps14
  go_wp2_with (first
    | (go_at_call 43; refine M.out.mono ?_; rintro e w9 ⟨rfl, rfl⟩)
    | (go_at_call 44; refine SEH.out.mono ?_; rintro e w9 ⟨rfl, hb⟩))
  go_ret
  exact ⟨rfl, hb⟩

/-! ### fits -/
theorem fileInfo : (Tryz.prog.info? 122).map (·.size) = some 3 := by kernel_rfl
theorem fits1_same (b1 b2 q : Nat) (size : Int) (w : World) (h1 : w.cell? ⟨b1, 0, none⟩ = some (.pointer (some ⟨q, 0, none⟩))) (h2 : w.cell? ⟨b2, 0, none⟩ = some (.int .i64 size)) :
    Calls Tryz.prog 100 (#[.pointer (some ⟨q, 0, none⟩)] ++ #[.pointer (some ⟨b1, 0, none⟩), .pointer (some ⟨b2, 0, none⟩)]) w fun e w' => e = .returned (.int .i64 size) ∧ w = w' := by
  obtain ⟨j, hj, hjs⟩ := Option.map_eq_some_iff.1 fileInfo
  go_enter Tryz.func100, Tryz.ntmps100
  go_wp2
  rw [run_eql_ptr_same w _ Tryz.underlying83 hj]
  go_wp2
  go_ret
  exact ⟨rfl, rfl⟩
theorem fits1_other (b1 b2 q q' n : Nat) (A : Option Addr) (c : Nat) (cs cs' : Array Value) (w : World) (h1 : w.cell? ⟨b1, 0, none⟩ = some (.pointer (some ⟨q, 0, none⟩))) (hne : ¬ q' = q) (hb : Blk w q 122 cs) (hb' : Blk w q' 122 cs') (h2 : w.cell? ⟨q', 0, none⟩ = some (.slice A n c)) :
    Calls Tryz.prog 100 (#[.pointer (some ⟨q', 0, none⟩)] ++ #[.pointer (some ⟨b1, 0, none⟩), .pointer (some ⟨b2, 0, none⟩)]) w fun e w' => e = .returned (.int .i64 n) ∧ w = w' := by
  obtain ⟨j, hj, hjs⟩ := Option.map_eq_some_iff.1 fileInfo
  have L := Lib.hid (flen_any q' n A c w h2)
  have hn2 : (⟨q', 0, none⟩ : Addr) ≠ ⟨q, 0, none⟩ := fun e => hne (by injection e)
  have HB := Lib.hid hb
  have HB2 := Lib.hid hb'
  clear h2 hne hb hb'
  go_enter Tryz.func100, Tryz.ntmps100
  go_wp2
  rw [run_eql_ptr_other w Tryz.underlying83 hj (by rw [hjs]; decide) hn2 HB2.out HB.out]
  go_wp2_with (go_at_call 45; refine L.out.mono ?_; rintro e w9 ⟨rfl, rfl⟩)
  go_ret
  exact ⟨rfl, rfl⟩

/-- The sizes, if one file had another one. -/
def szO (fs : List FS) (k : Nat) (size : Nat) (i : Int) : Nat := if i = k then size else szL fs i
theorem sum_other (hg : GoodV v os N) {x : ByteArray} {k : Nat} {f : FS} (hx : getN v.d.now x = some (k : Int)) (hf : v.fs[k]? = some f) (size : Nat) : sumZ (szO v.fs k size) v.d.now + cntN f.now.length = v.used + cntN size := by
  have hk := (List.getElem?_eq_some_iff.1 hf).1
  have h1 := usedL_set (fs := v.fs) (i := (k : Int)) (g := ⟨List.replicate size 0, [], []⟩) (by omega) (by omega) hg.inR hg.uq hx
  rw [fileAt_some hf, List.length_replicate, usedL_sum] at h1
  have h2 : sumZ (szO v.fs k size) v.d.now = sumZ (fun i => (fileAt (v.fs.set (k : Int).toNat ⟨List.replicate size 0, [], []⟩) i).now.length) v.d.now := sumZ_congr fun p hp => by
    have hp1 := hg.inR p hp
    rw [fileAt_set (by omega) (by omega) hp1.1]
    unfold szO szL
    split
    · simp
    · rfl
  rw [h2]
  exact h1
theorem fits_yes {f : FS} {size : Nat} (h : cntN size ≤ cntN f.now.length) : v.fits f size = true := by unfold VS.fits; rw [decide_eq_true h]; rfl
theorem fits_no {f : FS} {size s : Nat} (h : ¬ cntN size ≤ cntN f.now.length) (hs : s + cntN f.now.length = v.used + cntN size) : v.fits f size = decide ((s : Int) ≤ v.room) := by
  unfold VS.fits
  rw [decide_eq_false h, Bool.false_or, decide_eq_decide]
  omega

abbrev FBox (w' : World) (b q : Nat) (size : Int) (A : Option Addr) (n c : Nat) : Prop := w'.cell? ⟨b, 0, none⟩ = some (.pointer (some ⟨q, 0, none⟩)) ∧ w'.cell? ⟨b + 1, 0, none⟩ = some (.int .i64 size) ∧ w'.cell? ⟨q, 0, none⟩ = some (.slice A n c)
theorem fbox_at (w : World) (q : Nat) (size : Int) (A : Option Addr) (n c : Nat) {w' : World} (hq : w.cell? ⟨q, 0, none⟩ = some (.slice A n c)) (hql : q < w.heap.size)
    (hb : Below (w.heap.size + 2) ((w.alloc (.cells #[.pointer (some ⟨q, 0, none⟩)] 83)).alloc (.cells #[.int .i64 size] 3)) w') : FBox w' w.heap.size q size A n c := by
  have hs1 : (w.alloc (.cells #[.pointer (some ⟨q, 0, none⟩)] 83)).heap.size = w.heap.size + 1 := by simp
  have h1 := ((Blk.new w 83 #[.pointer (some ⟨q, 0, none⟩)]).alloc (.cells #[.int .i64 size] 3)).cell 0
  have h2 := (Blk.new (w.alloc (.cells #[.pointer (some ⟨q, 0, none⟩)] 83)) 3 #[.int .i64 size]).cell 0
  rw [hs1] at h2
  refine ⟨(hb.cell (by show w.heap.size < _; omega)).trans h1, (hb.cell (by show w.heap.size + 1 < _; omega)).trans h2, (hb.cell (by show q < _; omega)).trans ?_⟩
  rw [World.cell?_alloc_lt _ _ _ (by show q < _; rw [hs1]; omega), World.cell?_alloc_lt _ _ _ (by show q < _; omega)]
  exact hq

set_option maxHeartbeats 2000000 in
theorem vfits_any {x : ByteArray} {k q : Nat} {f : FS} (size : Nat) (h : VDT w0 T0 w base p v os dp mb bn bs pv SD SF ps Ss) (hgd : GoodV v os N) (hN : N ≤ 900000) (hx : getN v.d.now x = some (k : Int)) (hf : os[k]? = some (some f)) (hq : lookP ps os k = some q) (hsz : size ≤ 1048576) :
    Calls Tryz.prog 66 #[.pointer (some ⟨p, 0, none⟩), .pointer (some ⟨q, 0, none⟩), .int .i64 size] w fun e w' => e = .returned (.bool (v.fits f size)) ∧ Below w.heap.size w w' := by
  obtain ⟨k', f', S, A, c, sv, B, d, e1, e2, -, -, -, hcf⟩ := h.found hgd hq
  obtain rfl : k = k' := by omega
  rw [hf] at e2
  injection e2 with e2; injection e2 with e2
  subst e2
  have hfs := hgd.live k f hf
  have hfl : f.now.length ≤ 1048576 := (hgd.fs f (List.mem_of_getElem? hfs)).ok.size
  obtain ⟨n, hn⟩ : ∃ n, n = f.now.length := ⟨_, rfl⟩
  have hq0 : w.cell? ⟨q, 0, none⟩ = some (.slice A n c) := by rw [hn]; exact hcf.blk.cell 0
  have hql : q < w.heap.size := hcf.blk.lt
  obtain ⟨wb, hwb⟩ : ∃ wb, wb = (w.alloc (.cells #[.pointer (some ⟨q, 0, none⟩)] 83)).alloc (.cells #[.int .i64 (size : Int)] 3) := ⟨_, rfl⟩
  have hwbs : wb.heap.size = w.heap.size + 2 := by rw [hwb]; simp
  have hbb : Below w.heap.size w wb := by rw [hwb]; exact ((Below.refl _ _).alloc (Nat.le_refl _) _).alloc (by simp) _
  have FB := Lib.hid (fun (W : World) (hb : Below wb.heap.size wb W) => fbox_at w q size A n c hq0 hql (by rw [hwbs, hwb] at hb; exact hb))
  have CT := Lib.hid (fun (m : Nat) (hm : m ≤ 1048576) (W : World) => (show Calls Tryz.prog 82 #[.int .i64 (m : Int)] W (fun e w' => e = .returned (.int .i64 (cntN m : Int)) ∧ W = w') by have h := count_any (m : Int) W (by omega) (by omega); rwa [cntI_nat] at h))
  have g1 : size ≤ 1048576 := hsz
  have g2 : n ≤ 1048576 := by omega
  have LN := Lib.hid (fun (W : World) (hc : W.cell? ⟨q, 0, none⟩ = some (.slice A n c)) => flen_any q n A c W hc)
  have HK := FB.out wb (Below.refl _ _)
  obtain ⟨k1, k2, k3⟩ := HK
  have HWB := Lib.hid hwb
  by_cases hle : cntN size ≤ cntN n
  · rw [fits_yes (by rw [← hn]; exact hle)]
    have q1 : (cntN size : Int) ≤ (cntN n : Int) := by omega
    have HB := Lib.hid hbb
    clear h hgd hx hf hq hcf hfs hfl hn hq0 hql hwbs hwb hbb hle FB
    go_enter Tryz.func66, Tryz.ntmps66
    go_wp2
    rw [← HWB.out]
    go_region_held3 (fun w' => FBox w' w.heap.size q size A n c)
      (first | assumption | exact ⟨k1, k2, k3⟩)
      (first
        | (go_at_call 82; go_loud (refine (CT.out _ (by assumption) _).mono ?_; rintro e w9 ⟨rfl, rfl⟩))
        | (go_at_call 45; go_loud (refine (LN.out _ (by assumption)).mono ?_; rintro e w9 ⟨rfl, rfl⟩)))
    go_wp2
    go_ret
    exact ⟨rfl, below_drewn HB.out 1⟩
  · have hfit := fits_no (v := v) (by rw [← hn]; exact hle) (sum_other hgd hx hfs size)
    rw [hfit]
    have q1 : ¬ (cntN size : Int) ≤ (cntN n : Int) := by omega
    have SE := Lib.hid (fun (wz : World) (hb : Below wb.heap.size wb wz) =>
      vsectors_any 100 #[.pointer (some ⟨w.heap.size, 0, none⟩), .pointer (some ⟨w.heap.size + 1, 0, none⟩)] (szO v.fs k size) (h.below (hbb.trans (hb.mono (by rw [hwbs]; omega)))) hgd hN (enters_of Tryz.func100 (by kernel_rfl) rfl)
        (fun i => by unfold szO; split; exact hsz; exact szL_le hgd i) (fun W i q' hbW hq' => by
          have hbx := hb.trans (hbW.mono hb.size)
          have hv := (h.below (hbb.trans (hb.mono (by rw [hwbs]; omega)))).below hbW
          obtain ⟨m1, m2, m3⟩ := FB.out W hbx
          by_cases e : i = (k : Int)
          · subst e
            rw [hq] at hq'
            injection hq' with hq'
            subst hq'
            rw [show szO v.fs k size (k : Int) = size by unfold szO; rw [if_pos rfl]]
            exact fits1_same _ _ q _ W m1 m2
          · rw [show szO v.fs k size i = szL v.fs i by unfold szO; rw [if_neg e]]
            obtain ⟨A', c', hc'⟩ := hv.len hgd hq'
            obtain ⟨_, _, _, _, _, _, _, _, _, _, _, _, _, hcf'⟩ := hv.found hgd hq'
            obtain ⟨_, _, _, _, _, _, _, _, _, _, _, _, _, hcf2⟩ := hv.found hgd hq
            exact fits1_other _ _ q q' _ A' c' _ _ W m1 (fun e2 => e (hv.vd.inj hq' (by rw [e2]; exact hq))) hcf2.blk hcf'.blk hc'))
    have RM := Lib.hid (fun (wz : World) (hb : Below wb.heap.size wb wz) => ((h.below (hbb.trans (hb.mono (by rw [hwbs]; omega)))).vd.cells).c3)
    obtain ⟨sm, hsm⟩ : ∃ sm, sm = sumZ (szO v.fs k size) v.d.now := ⟨_, rfl⟩
    rw [← hsm] at SE ⊢
    obtain ⟨rm, hrm⟩ : ∃ rm, rm = v.room := ⟨_, rfl⟩
    rw [← hrm] at RM ⊢
    have HB := Lib.hid hbb
    have hz1 : Below wb.heap.size wb wb.drew := below_drewn (Below.refl _ _) 1
    have hz2 : Below wb.heap.size wb wb.drew.drew := below_drewn (Below.refl _ _) 2
    have HSZ := Lib.hid hwbs
    have hp1 := RM.out _ hz1
    have hp2 := RM.out _ hz2
    clear h hgd hx hf hq hcf hfs hfl hn hq0 hql hwb hwbs hbb hle FB hfit hsm hrm
    go_enter Tryz.func66, Tryz.ntmps66
    go_wp2
    rw [← HWB.out]
    go_region_held3 (fun w' => FBox w' w.heap.size q size A n c)
      (first | assumption | exact ⟨k1, k2, k3⟩)
      (first
        | (go_at_call 82; go_loud (refine (CT.out _ (by assumption) _).mono ?_; rintro e w9 ⟨rfl, rfl⟩))
        | (go_at_call 45; go_loud (refine (LN.out _ (by assumption)).mono ?_; rintro e w9 ⟨rfl, rfl⟩)))
    clear CT LN
    go_wp2
    go_region_held3 (fun w' => w'.cell? ⟨p, 3, none⟩ = some (.int .i64 rm))
      (first | assumption)
      (first
        | (go_at_call 44; go_loud (refine (SE.out _ hz2).mono ?_; rintro e w3 ⟨rfl, hb3⟩; have hb4 := hz2.trans (hb3.mono hz2.size); have hp3 := RM.out _ hb4; clear hb3)))
    go_wp2
    go_ret
    exact ⟨rfl, HB.out.trans (hb4.mono (by rw [HSZ.out]; omega))⟩
end

end Go.Proofs.YtclglbddibjenaaGreat
