/-
  LAYER 8: WHAT awake DOES: the chapter's example of a disk that is full.
-/
import Derived.Test.YtclglbddibjenaaGreatVdFn8
import Derived.Deep.RegionHeld3
set_option linter.unusedVariables false
set_option linter.unusedSimpArgs false
set_option maxRecDepth 100000
namespace Go.Proofs.YtclglbddibjenaaGreat
open Go.RowKit

section
variable {w w0 w' : World} {base p N : Nat} {T T0 : Nat → Prop} {v : VS} {os : OsL}

set_option maxHeartbeats 2000000 in
/-- Write of bytes that lie anywhere but in the disk, of a name that is there, on a disk that goes. -/
theorem vwrite_off (x : ByteArray) (z : Nat) (A : Option Addr) (B m c : Nat) (l : List Int) (i : Int) (h : VX w base T p v os) (hg : GoodV v os N) (hN : N ≤ 1000) (hs : v.stops = false) (hgx : getN v.d.now x = some i) (hx : x.size ≤ 200) (hr : Reads w B 1 A m (cellsOf .u8 l)) (hB : B ≤ w.heap.size) (hA : ∀ ad, A = some ad → ¬ T ad.block ∧ ad.block < w.heap.size) (hb : AreB l) (hmc : m ≤ c) (hc : c ≤ 9223372036854775807) (hm : m ≤ 300) (h0 : 0 < m) (h1 : z + m ≤ 1048576) :
    Calls Tryz.prog 28 #[.pointer (some ⟨p, 0, none⟩), .string x, .int .i64 z, .slice A m c] w fun e w' => e = .returned (.int .i64 (v.writeE x z l)) ∧ VOut w T base p (v.tick.write x z l) (N + 1) w' := by
  obtain ⟨dp, mb, bn, bs, pv, SD, SF, ps, Ss, hv⟩ := h
  have hgt := hg.tick
  rw [← writeE_tick]
  have hgx2 : getN v.tick.d.now x = some i := by rw [tick_d]; exact hgx
  obtain ⟨k, q, f, -, -, -, -, -, -, rfl, hof, hlk, hq, -, hvf, hfa, hfg, -⟩ := (VDT.start hv).named hg hgx
  have hvf2 : v.tick.fs[k]? = some f := by rw [tick_fs]; exact hvf
  have O := Lib.hid (votc_yes x k q (VDT.start hv) hg.f0 hg.f1 hs hx hgx (wf_k hg (by omega) hvf) hlk)
  have HG := Lib.hid hgt
  have hfew := hfg.few
  have hml : m = l.length := by have := hr.1; rw [cellsOf_length] at this; omega
  have FW := Lib.hid (fun (w1 : World) (h1' : VDT w T w1 base p v.tick os dp mb bn bs pv SD SF ps Ss) => (show Calls Tryz.prog 67 #[.pointer (some ⟨q, 0, none⟩), .int .i64 (z : Int), .slice A m c] w1 (fun e w' => e = .returned (.int .i64 (writeE (z : Int) m)) ∧ VOut w T base p (v.tick.put (k : Int) (f.writeI (z : Int) l)) (N + 1) w') by
    obtain ⟨q', S, nv, sv, qv, hq', hS, hcf, hSF, -⟩ := h1'.vd.file hof
    rw [hq] at hq'
    injection hq' with hq'
    subst hq'
    have hr1 : Reads w1 B 1 A m (cellsOf .u8 l) := hr.chg h1'.chg hB (fun _ ad e => (hA ad e).1)
    refine (fwrite_any q (z : Int) A m c l B base S f nv sv qv w1 hcf hr1 (by have := h1'.chg.size; omega) (fun ad e hSa => ?_) hmc hc (by omega) (by omega) (by omega) hfg.ok.size (by omega)).mono ?_
    · rcases h1'.vd.inf _ (hSF _ hSa) with hh | ⟨hh, _⟩
      · exact (hA ad e).1 hh
      · have := (hA ad e).2; omega
    · rintro e w' ⟨rfl, hcc⟩
      exact ⟨rfl, h1'.putFile hgt hof hq hS hcc ((hfg.writeI _ hb).more (by omega))⟩))
  have q2 : 0 < (m : Int) := by omega
  have n1 : IntKind.i64.wrap (1048576 - (m : Int)) = 1048576 - (m : Int) := by rw [IntKind.wrap_i64]; omega
  have g1 : (z : Int) ≤ 1048576 - (m : Int) := by omega
  have g0 : 0 ≤ (z : Int) := by omega
  have n2 : IntKind.i64.wrap ((z : Int) + (m : Int)) = (z : Int) + (m : Int) := by rw [IntKind.wrap_i64]; omega
  have FT0 := (fun (w1 : World) (h1' : VDT w T w1 base p v.tick os dp mb bn bs pv SD SF ps Ss) => vfits_any (z + m) h1' hgt (by omega) hgx2 hof hlk (by omega))
  rw [show ((z + m : Nat) : Int) = (z : Int) + (m : Int) by omega] at FT0
  cases hfit : v.tick.fits f (z + m) with
  | true =>
    obtain ⟨e1, e2⟩ := write_through (a := (z : Int)) (bs := l) hgx2 hvf2 (fun _ _ _ => by rw [Int.toNat_natCast, ← hml]; exact hfit)
    rw [e1, e2, ← hml]
    rw [hfit] at FT0
    have FT := Lib.hid FT0
    clear hv hg hgt hs hgx hgx2 hof hlk hq hvf hvf2 hfa hfg e1 e2 hfew hr hb hml FT0 hfit hA
    go_enter Tryz.func28, Tryz.ntmps28
    go_wp2_with (first
      | (go_at_call 48; refine O.out.mono ?_; rintro e w1 ⟨rfl, hx⟩; have HX := Lib.hid hx; clear hx)
      | (go_at_call 66; go_loud (refine (FT.out _ HX.out).mono ?_; rintro e w2 ⟨rfl, hb⟩; have HY := Lib.hid (HX.out.below hb); clear hb))
      | (go_at_call 67; go_loud (refine (FW.out _ HY.out).mono ?_; rintro e w3 ⟨rfl, hz⟩; have HZ := Lib.hid hz; clear hz)))
    go_ret
    exact ⟨rfl, HZ.out⟩
  | false =>
    obtain ⟨e1, e2⟩ := write_full (a := (z : Int)) (bs := l) hgx2 hvf2 (by omega) (by omega) (by omega) (by rw [Int.toNat_natCast, ← hml]; exact hfit)
    rw [e1, e2]
    rw [hfit] at FT0
    have FT := Lib.hid FT0
    clear hv hg hgt hs hgx hgx2 hof hlk hq hvf hvf2 hfa hfg e1 e2 hfew hr hb hml FT0 hfit FW hA
    go_enter Tryz.func28, Tryz.ntmps28
    go_wp2_with (first
      | (go_at_call 48; refine O.out.mono ?_; rintro e w1 ⟨rfl, hx⟩; have HX := Lib.hid hx; clear hx)
      | (go_at_call 66; go_loud (refine (FT.out _ HX.out).mono ?_; rintro e w2 ⟨rfl, hb⟩; have HY := Lib.hid (HX.out.below hb); clear hb)))
    go_ret
    exact ⟨rfl, HY.out.vout (HG.out.more (Nat.le_succ _))⟩
end

/-! ### the example, as plain data -/
def av0 : VS := VS.new 1
def av1 : VS := av0.tick.create ⟨#[65]⟩
def zeros64 : List Int := List.replicate 64 0
def av2 : VS := av1.tick.write ⟨#[65]⟩ 0 zeros64
theorem avE0 : orStop av0 (doE av0.d.now (createO av0 ⟨#[65]⟩)) = 0 := by kernel_rfl
theorem avO0 : orTick av0 (av0.tick.create ⟨#[65]⟩) = av1 := by kernel_rfl
theorem avS1 : av1.stops = false := by kernel_rfl
theorem avG1 : getN av1.d.now ⟨#[65]⟩ = some 0 := by kernel_rfl
theorem avE1 : av1.writeE ⟨#[65]⟩ (0 : Nat) zeros64 = 0 := by kernel_rfl
theorem avD2 : av2.d = av1.d ∧ av2.stops = false := by
  unfold av2 VS.write
  have e : av1.tick.writeE ⟨#[65]⟩ 0 zeros64 = 0 := by kernel_rfl
  rw [if_pos e]
  exact ⟨rfl, rfl⟩
theorem avE2 : av2.writeE ⟨#[65]⟩ (64 : Nat) [1] = 20 := by
  have e : av1.tick.writeE ⟨#[65]⟩ 0 zeros64 = 0 := by kernel_rfl
  have hgt : getN av1.tick.d.now ⟨#[65]⟩ = some 0 := by kernel_rfl
  have h2 : av2 = av1.tick.put 0 ((fileAt av1.tick.fs 0).writeI 0 zeros64) := by
    unfold av2 VS.write
    rw [if_pos e, hgt]
  have hf : fileAt av1.tick.fs 0 = FS.new := by kernel_rfl
  have hfs : av1.tick.fs = [FS.new] := by kernel_rfl
  rw [hf] at h2
  obtain ⟨g, hg⟩ : ∃ g, g = FS.new.writeI 0 zeros64 := ⟨_, rfl⟩
  have hlen : g.now.length = 64 := by
    have e : FS.new.writeI 0 zeros64 = FS.new.write 0 zeros64 := by unfold FS.writeI; rw [if_neg (by simp [zeros64])]; rfl
    rw [hg, e]
    unfold FS.write
    rw [if_neg (by simp [zeros64])]
    show (wrL _ _ _).length = _
    rw [wrL_length (by rw [growL_length]; exact Nat.le_max_right _ _), growL_length]; simp [zeros64, FS.new]
  rw [← hg] at h2
  rw [h2]
  have hd : getN (av1.tick.put 0 g).d.now ⟨#[65]⟩ = some 0 := hgt
  have hu : (av1.tick.put 0 g).used = 1 := by
    show usedL (av1.tick.fs.set 0 g) av1.tick.d.now = 1
    rw [hfs]
    show usedL [g] [(⟨#[65]⟩, 0)] = 1
    show cntN g.now.length + 0 = 1
    rw [hlen]; rfl
  have hfa : fileAt (av1.tick.put 0 g).fs 0 = g := by
    show fileAt (av1.tick.fs.set 0 g) 0 = g
    rw [hfs]; rfl
  have hr : (av1.tick.put 0 g).room = 1 := rfl
  have hfin : (av1.tick.put 0 g).fits g (max g.now.length (((64 : Nat) : Int).toNat + [(1 : Int)].length)) = false := by
    unfold VS.fits
    rw [hu, hr, hlen]
    rfl
  unfold VS.writeE
  rw [hd]
  simp only [hfa]
  rw [if_neg (by simp), if_pos ⟨by simp, hfin⟩]

theorem VXT.vx {w0 w : World} {T0 : Nat → Prop} {base p : Nat} {v : VS} {os : OsL} (h : VXT w0 T0 w base p v os) : VX w base (grow T0 w0 w) p v os ∧ Chg T0 w0 w := by
  obtain ⟨dp, mb, bn, bs, pv, SD, SF, ps, Ss, hv⟩ := h
  exact ⟨⟨_, _, _, _, _, _, _, _, _, hv.vd⟩, hv.chg⟩
theorem VX.foot {w : World} {T : Nat → Prop} {base p : Nat} {v : VS} {os : OsL} (h : VX w base T p v os) : ∀ k, T k → base ≤ k ∧ k < w.heap.size := by
  obtain ⟨dp, mb, bn, bs, pv, SD, SF, ps, Ss, hv⟩ := h
  exact hv.foot
theorem VX.below' {w w1 : World} {T : Nat → Prop} {base p : Nat} {v : VS} {os : OsL} (h : VX w base T p v os) (hb : Below w.heap.size w w1) : VX w1 base T p v os := by
  obtain ⟨dp, mb, bn, bs, pv, SD, SF, ps, Ss, hv⟩ := h
  exact ⟨_, _, _, _, _, _, _, _, _, hv.below hb⟩

/-- The second and the third call. -/
theorem aw_write {w : World} {T : Nat → Prop} {base P : Nat} {os : OsL} (h : VX w base T P av1 os) (hg : GoodV av1 os (0 + 1)) :
    Calls Tryz.prog 28 #[.pointer (some ⟨P, 0, none⟩), .string ⟨#[65]⟩, .int .i64 0, .slice (some ⟨w.heap.size, 0, none⟩) 64 64] (w.alloc (.cells (cellsOf .u8 zeros64).toArray 5)) fun e w3 => e = .returned (.int .i64 0) ∧ Below base w w3 ∧
      Calls Tryz.prog 28 #[.pointer (some ⟨P, 0, none⟩), .string ⟨#[65]⟩, .int .i64 64, .slice (some ⟨w3.heap.size, 0, none⟩) 1 1] (w3.alloc (.cells #[.int .u8 1] 5)) fun e w4 => e = .returned (.int .i64 20) ∧ Below base w3 w4 := by
  have hf := h.foot
  have hbas : base ≤ w.heap.size := by
    obtain ⟨dp, mb, bn, bs, pv, SD, SF, ps, Ss, hv⟩ := h
    exact hv.bas
  have hba : Below w.heap.size w (w.alloc (.cells (cellsOf .u8 zeros64).toArray 5)) := (Below.refl _ _).alloc (Nat.le_refl _) _
  have h1 := vwrite_off ⟨#[65]⟩ 0 (some ⟨w.heap.size, 0, none⟩) (w.heap.size + 1) 64 64 zeros64 0 (h.below' hba) hg (by omega) avS1 avG1 (by decide) (litReads w 5 zeros64) (by simp) (fun ad e => by
    injection e with e; subst e
    exact ⟨fun hk => by have := (hf _ hk).2; simp at this, by simp⟩) (fun z hz => by
      have := List.eq_of_mem_replicate hz
      subst this; omega) (Nat.le_refl _) (by omega) (by omega) (by omega) (by omega)
  rw [avE1] at h1
  refine h1.mono ?_
  rintro e w3 ⟨rfl, os3, hx3, hg3⟩
  obtain ⟨hv3, hc3⟩ := VXT.vx hx3
  have hb3 : Below base w w3 := (hba.mono hbas).trans (hc3.below (by simp; omega) (fun k _ hk => (hf k hk).1))
  refine ⟨rfl, hb3, ?_⟩
  have hf3 := hv3.foot
  have hba3 : Below w3.heap.size w3 (w3.alloc (.cells #[.int .u8 1] 5)) := (Below.refl _ _).alloc (Nat.le_refl _) _
  have h2 := vwrite_off ⟨#[65]⟩ 64 (some ⟨w3.heap.size, 0, none⟩) (w3.heap.size + 1) 1 1 [1] 0 (hv3.below' hba3) hg3 (by omega) avD2.2 (by show getN av2.d.now _ = _; rw [avD2.1]; exact avG1) (by decide) (litReads w3 5 [1]) (by simp) (fun ad e => by
    injection e with e; subst e
    exact ⟨fun hk => by have := (hf3 _ hk).2; simp at this, by simp⟩) (fun z hz => by simp at hz; subst hz; omega) (Nat.le_refl _) (by omega) (by omega) (by omega) (by omega)
  rw [show VS.writeE (av1.tick.write ⟨#[65]⟩ ((0 : Nat) : Int) zeros64) ⟨#[65]⟩ ((64 : Nat) : Int) [1] = 20 from avE2] at h2
  refine h2.mono ?_
  rintro e w4 ⟨rfl, os4, hx4, hg4⟩
  obtain ⟨hv4, hc4⟩ := VXT.vx hx4
  have hs := hb3.size
  exact ⟨rfl, (hba3.mono (by omega)).trans (hc4.below (by simp; omega) (fun k _ hk => (hf3 k hk).1))⟩

set_option maxHeartbeats 2000000 in
theorem awake_any (w : World) : Calls Tryz.prog 7 #[] w fun e w' => e = .returned (.bool true) ∧ Below w.heap.size w w' := by
  have VN := Lib.hid (vnew_any 1 w w.heap.size (Nat.le_refl _) (by omega) (by omega))
  have m1 : True := trivial
  have hmk : ∀ w : World, (Instr.makeSlice 29 (.int .i64 64) (.int .i64 64)).run Tryz.prog w = .ok (.slice (some ⟨w.heap.size, 0, none⟩) 64 64) (w.alloc (.cells (cellsOf .u8 zeros64).toArray 5)) := fun _ => by kernel_rfl
  go_enter Tryz.func7, Tryz.ntmps7
  go_wp2_with (first
    | (go_at_call 8; go_loud (refine VN.out.mono ?_; rintro e w1 ⟨P, rfl, hx⟩; have hx1 := VXT.vx hx.out; have HCR := vcreate_any ⟨#[65]⟩ hx1.1 (GoodV.new 1 (by omega)) (by omega) (by decide); rw [show orStop (VS.new 1) (doE (VS.new 1).d.now (createO (VS.new 1) ⟨#[65]⟩)) = 0 from avE0, show orTick (VS.new 1) ((VS.new 1).tick.create ⟨#[65]⟩) = av1 from avO0] at HCR; have HC := Lib.hid HCR; have HB1 := Lib.hid (show Below w.heap.size w w1 from hx1.2.below (Nat.le_refl _) (fun k _ hk => hk.elim)); have HF1 := Lib.hid hx1.1.foot; clear hx hx1 HCR))
    | (go_at_call 27; go_loud (refine HC.out.mono ?_; rintro e w2 ⟨rfl, os2, hx2, hg2⟩; have hy2 := VXT.vx hx2; have HB2 := Lib.hid (show Below w.heap.size w w2 from HB1.out.trans (hy2.2.below HB1.out.size (fun k _ hk => (HF1.out k hk).1))); have HW2 := Lib.hid (aw_write hy2.1 hg2); clear hx2 hg2 hy2))
    | (go_at_call 28; clear m1; go_loud (refine HW2.out.mono ?_; rintro e w3 ⟨rfl, hb3, hw3⟩; have HB3 := Lib.hid (HB2.out.trans hb3); have HW3 := Lib.hid hw3; clear hb3 hw3))
    | (go_at_call 28; go_loud (refine HW3.out.mono ?_; rintro e w4 ⟨rfl, hb4⟩; have HB4 := Lib.hid (HB3.out.trans hb4); clear hb4)))
  go_ret
  exact ⟨rfl, HB4.out⟩

end Go.Proofs.YtclglbddibjenaaGreat
