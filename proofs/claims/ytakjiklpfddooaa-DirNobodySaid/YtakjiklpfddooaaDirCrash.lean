/-
  LAYER 7: WHAT Crash DOES: its contract.
-/
import Derived.Test.YtakjiklpfddooaaDirSync
import Derived.Test.YtakjiklpfddooaaActs4
set_option linter.unusedVariables false
set_option linter.unusedSimpArgs false
namespace Go.Proofs.Ytakjiklpfddooaa
open Go.RowKit

/-- A directory has been made. -/
structure NewAt (w w1 : World) (base P0 b0 b1 : Nat) : Prop where
  cd : CD w1 base (fun k => w.heap.size ≤ k ∧ k < w1.heap.size) P0 newD b0 b1 (.slice none 0 0)
  below : Below w.heap.size w w1
theorem dnew_ex (w : World) (base : Nat) (hb : base ≤ w.heap.size) : Calls Try.prog 6 #[] w fun e w' => ∃ P0 b0 b1, e = .returned (.pointer (some ⟨P0, 0, none⟩)) ∧ Hid (NewAt w w' base P0 b0 b1) :=
  (dnew_any w).mono fun e w' ⟨he, hw⟩ => ⟨w.heap.size + 2, w.heap.size, w.heap.size + 1, he, Lib.hid (by rw [hw.out]; exact ⟨newW_CD w base hb, newW_below w⟩)⟩

theorem dcrash_nil (v : Value) (w : World) : Calls Try.prog 14 #[.pointer none, v] w fun e w' => e = .returned (.pointer none) ∧ w = w' := by
  go_enter Try.func14, Try.ntmps14
  go_wp2
  go_ret
  exact ⟨rfl, rfl⟩

/-- At the head of each round: what the first k have left. -/
structure CrA (w wr : World) (base : Nat) (F : Nat → Prop) (P0 b0 b1 : Nat) (s : DB) (ks : List Bool) (k : Nat) : Prop where
  cd : CD wr base F P0 ⟨[], crashN cfT s.safe (s.ops.take k) ks, []⟩ b0 b1 (.slice none 0 0)
  below : Below w.heap.size w wr
  lo : ∀ j, F j → w.heap.size ≤ j
  bas : base ≤ w.heap.size

section
variable {w wr wz w' : World} {base P0 b0 b1 k : Nat} {F : Nat → Prop} {s : DB} {ks : List Bool}
theorem CrA.stay (h : CrA w wr base F P0 b0 b1 s ks k) (hk : k < s.ops.length) (hb : ks.getD k false = false) : CrA w wr base F P0 b0 b1 s ks (k + 1) := by
  refine ⟨?_, h.below, h.lo, h.bas⟩
  rw [crashN_next hk, hb]
  exact h.cd
theorem CrA.step (h : CrA w wr base F P0 b0 b1 s ks k) {o : OpB} (ho : s.ops[k]? = some o) (hb : ks.getD k false = true) (hz : Below wr.heap.size wr wz) (hm : MapAt w' b1 (didN cfT (crashN cfT s.safe (s.ops.take k) ks) o)) (hc : Chg (fun j => j = b1) wz w') : CrA w w' base F P0 b0 b1 s ks (k + 1) := by
  obtain ⟨hlt, he⟩ := List.getElem?_eq_some_iff.1 ho
  refine ⟨?_, (h.below.trans (hz.mono h.below.size)).trans (hc.below (Nat.le_trans h.below.size hz.size) (fun j _ hj => by have hj : j = b1 := hj; subst hj; exact h.lo _ h.cd.ins)), h.lo, h.bas⟩
  rw [crashN_next hlt, hb, if_pos rfl, he]
  exact (h.cd.below hz).setSafe hm hc
theorem CrA.out (h : CrA w wr base F P0 b0 b1 s ks k) (hk : ks.length ≤ k ∨ s.ops.length ≤ k) (hz : Below wr.heap.size wr wz) (hm : MapAt w' b0 (crashN cfT s.safe (s.ops.take k) ks)) (hc : Chg (fun j => j = b0) wz w') : CDnew base (s.crash cfT ks) w (.returned (.pointer (some ⟨P0, 0, none⟩))) w' := by
  have hcd := (h.cd.below hz).setNow hm hc
  rw [crashN_take _ _ _ _ hk] at hcd
  refine ⟨P0, b0, b1, _, rfl, (h.below.trans (hz.mono h.below.size)).trans (hc.below (Nat.le_trans h.below.size hz.size) (fun j _ hj => by have hj : j = b0 := hj; subst hj; exact h.lo _ h.cd.inn)), hcd.mono (fun j hj => ⟨h.lo j hj, (hcd.foot j hj).2⟩) (fun j hj => ⟨by have := h.bas; omega, hj.2⟩)⟩
end

theorem CrA.size {k N : Nat} {s : DB} {ks : List Bool} (hg : GoodD s N) : (crashN cfT s.safe (s.ops.take k) ks).length ≤ N ∧ ∀ p ∈ crashN cfT s.safe (s.ops.take k) ks, okN p := by
  have h1 := crashN_length (s.ops.take k) s.safe ks
  have h2 := hg.safe
  rw [List.length_take] at h1
  exact ⟨by omega, crash_ok _ _ ks hg.oks (fun o ho => hg.oko o (List.mem_of_mem_take ho))⟩

set_option maxHeartbeats 2000000 in
theorem dcrash_any (p : Nat) (K : Option Addr) (m d : Nat) (ks : List Bool) (Bk base N : Nat) (S : Nat → Prop) (s : DB) (bn bs : Nat) (pv : Value) (w : World) (h : CD w base S p s bn bs pv) (hr : Reads w Bk 1 K m (cellsB ks)) (hB : Bk ≤ w.heap.size) (hmd : m ≤ d) (hdc : d ≤ 9223372036854775807) (hg : GoodD s N) (hN : N ≤ 900000) :
    Calls Try.prog 14 #[.pointer (some ⟨p, 0, none⟩), .slice K m d] w (CDnew base (s.crash cfT ks) w) := by
  obtain ⟨Ap, cp, rfl, hqc, hcm⟩ := own_form h.pend
  have hlk : ks.length = m := by have := hr.1; rw [cellsB_length] at this; omega
  obtain ⟨q, hq⟩ : ∃ q, q = s.ops.length := ⟨_, rfl⟩
  have hq9 : q ≤ 900000 := by have := hg.safe; omega
  rw [← hq] at h hqc
  obtain ⟨M, hM⟩ : ∃ M, M = min m q := ⟨_, rfl⟩
  have n7 : min (m : Int) (q : Int) = (M : Int) := by omega
  have hMm : M ≤ m := by omega
  have hMq : M ≤ q := by omega
  have HKK := Lib.hid (show ks.length ≤ M ∨ s.ops.length ≤ M by omega)
  have HQ := Lib.hid hq
  have HG := Lib.hid hg
  have HR := Lib.hid hr
  have H := Lib.hid (fun (w1 : World) (hb : Below w.heap.size w w1) => h.below hb)
  have NW := Lib.hid (dnew_ex w base h.bas)
  have HBAS := Lib.hid h.bas
  have HPL := Lib.hid (And.intro h.blk.lt (And.intro h.safe.lt h.bas))
  have hsl : s.safe.length ≤ 1000000 := by have := hg.safe; omega
  clear h hq hg hr hM hlk
  go_enter Try.func14, Try.ntmps14
  go_wp2_with (go_at_call 6; refine NW.out.mono ?_; rintro e w1 ⟨P0, b0, b1, rfl, hx⟩)
  have hb1 := hx.out.below
  obtain ⟨c0, c1, -, -⟩ := hx.out.cd.cells (Below.refl _ _)
  obtain ⟨d0, d1, d2, -⟩ := (H.out w1 hb1).cells (Below.refl _ _)
  have hne : ¬ p = b1 := by have := hx.out.cd.ins; have := HPL.out.1; omega
  have hbs : ¬ bs = b1 := by have := hx.out.cd.ins; have := HPL.out.2.1; omega
  have hb0 : Below w1.heap.size w1 w1.drew := below_drewn (Below.refl _ _) 1
  have KP := Lib.hid (fun (w' : World) (hc : Chg (fun j => j = b1) w1.drew w') => (show w'.cell? ⟨P0, 1, none⟩ = some (.map (some b1)) ∧ w'.cell? ⟨p, 1, none⟩ = some (.map (some bs)) from
    ⟨((hx.out.cd.below hb0).blk.chg hc (fun e => hx.out.cd.sp e.symm)).cell 1, (((H.out w1 hb1).below hb0).blk.chg hc hne).cell 1⟩))
  have CO := Lib.hid (copy_any b1 bs s.safe w1.drew (hx.out.cd.below hb0).safe ((H.out w1 hb1).below hb0).safe (fun e => hbs e.symm) hsl)
  have HA := Lib.hid (fun (w' : World) (hm : MapAt w' b1 s.safe) (hc : Chg (fun j => j = b1) w1.drew w') => (show CrA w w' base (fun j => w.heap.size ≤ j ∧ j < w1.heap.size) P0 b0 b1 s ks 0 from
    ⟨by rw [List.take_zero]; exact (hx.out.cd.below hb0).setSafe hm hc, (hb1.trans (hb0.mono hb1.size)).trans (hc.below (Nat.le_trans hb1.size hb0.size) (fun j _ hj => by have hj : j = b1 := hj; subst hj; exact hx.out.cd.ins.1)), fun j hj => hj.1, HBAS.out⟩))
  have HK := Lib.hid (KP.out _ (Chg.refl _ _))
  clear hx hne hbs d2 d0 c0 c1 d1
  go_region_held3 (fun w' => w'.cell? ⟨P0, 1, none⟩ = some (.map (some b1)) ∧ w'.cell? ⟨p, 1, none⟩ = some (.map (some bs)))
    (first | assumption | exact HK.out)
    (first | (go_at_call 29; go_loud (refine CO.out.mono ?_; rintro e w2 ⟨rfl, hm, hc⟩; have HC0 := Lib.hid (HA.out _ hm hc); have hk2 := KP.out _ hc; clear hm hc)))
  clear HA CO KP HK hk2 hb0
  obtain ⟨d0, d1, d2, -⟩ := (H.out w2 HC0.out.below).cells (Below.refl _ _)
  generalize (fun j => w.heap.size ≤ j ∧ j < w1.heap.size) = F at HC0
  go_wp2
  clear d0 d1 d2 n7 hb1
  go_loopw [6, 27] (fun _ i wr => ∃ k : Nat, k ≤ M ∧ i = .int .i64 k ∧ Hid (CrA w wr base F P0 b0 b1 s ks k)) (fun _ i _ => M - (intOf i).toNat)
  case atStart => exact ⟨0, Nat.zero_le _, rfl, HC0⟩
  case round =>
    clear HC0
    obtain ⟨k, hk, rfl, C⟩ := hrel
    by_cases hlt : k < M
    · obtain ⟨o, ho⟩ : ∃ o, s.ops[k]? = some o := ⟨_, List.getElem?_eq_getElem (by rw [← HQ.out]; omega)⟩
      obtain ⟨b, off, rfl, hbB, hc⟩ := HR.out.bools (by omega)
      obtain ⟨bt, hbt⟩ : ∃ bt, bt = ks.getD k false := ⟨_, rfl⟩
      have ck : wr.cell? ⟨b, off + k, none⟩ = some (.bool bt) := by rw [hbt]; exact (C.out.below.cell (p := ⟨b, off + k, none⟩) (by show b < _; omega)).trans (hc k (by omega))
      have kM : (k : Int) < (M : Int) := by omega
      have kmi : (k : Int) < (m : Int) := by omega
      have kmn : k < m := by omega
      cases bt with
      | false =>
        have HN := Lib.hid (C.out.stay (by rw [← HQ.out]; omega) hbt.symm)
        clear hbt ho hc
        go_wp2
        go_roundw
        case rel => exact ⟨k + 1, by omega, by go_num, HN⟩
        case measure => simp [intOf]; omega
      | true =>
        obtain ⟨n, hn⟩ : ∃ n, normO o = n := ⟨_, rfl⟩
        have hok := norm_ok (HG.out.oko o (List.mem_of_getElem? ho))
        rw [hn] at hok
        have hw := H.out wr C.out.below
        obtain ⟨g, cap, hv, -⟩ := (hw.pend_ HQ.out).form (by omega)
        injection hv with hv1 hv2 hv3
        subst hv1
        clear hv2 hv3
        obtain ⟨c0, c1, c2, c3⟩ := hw.step_at ho hn
        obtain ⟨-, -, e2, -⟩ := hw.cells (Below.refl _ _)
        obtain ⟨-, f1, -, -⟩ := C.out.cd.cells (Below.refl _ _)
        have kq : k < q := by omega
        have kqi : (k : Int) < (q : Int) := by omega
        obtain ⟨hb1, hb2⟩ := CrA.size (k := k) (ks := ks) HG.out
        obtain ⟨kd, x, y, i⟩ := n
        have hpb : ¬ p = b1 := by have := C.out.lo _ C.out.cd.ins; have := HPL.out.1; omega
        have hgb : ¬ g = b1 := by have := C.out.lo _ C.out.cd.ins; have := hw.pend.lt g rfl; have h9 := (H.out w (Below.refl _ _)).pend.lt g rfl; omega
        have hb0 : Below wr.heap.size wr wr.drew := below_drewn (Below.refl _ _) 1
        have DO := Lib.hid (do_any ⟨kd, x, y, i⟩ b1 (crashN cfT s.safe (s.ops.take k) ks) wr.drew (C.out.cd.below hb0).safe (by omega) hok hb2)
        have NX := Lib.hid (fun (w' : World) (hm : MapAt w' b1 (didN cfT (crashN cfT s.safe (s.ops.take k) ks) ⟨kd, x, y, i⟩)) (hc : Chg (fun j => j = b1) wr.drew w') => (show CrA w w' base F P0 b0 b1 s ks (k + 1) from
          C.out.step ho hbt.symm hb0 (by rw [← hn, did_norm] at hm; exact hm) hc))
        simp only at c0 c1 c2 c3
        have KP := Lib.hid (fun (w' : World) (hc : Chg (fun j => j = b1) wr.drew w') => (show w'.cell? ⟨p, 2, none⟩ = some (.slice (some ⟨g, 0, none⟩) q cp) ∧ w'.cell? ⟨P0, 1, none⟩ = some (.map (some b1)) ∧ w'.cell? ⟨g, k * 4, none⟩ = some (.int .i64 kd) ∧ w'.cell? ⟨g, k * 4 + 1, none⟩ = some (.string x) ∧ w'.cell? ⟨g, k * 4 + 2, none⟩ = some (.string y) ∧ w'.cell? ⟨g, k * 4 + 3, none⟩ = some (.int .i64 i) from by
          have hgl := (hw.pend.lt g rfl).2
          have hg := fun o => World.cell?_of_block (w := wr.drew) (a := ⟨g, o, none⟩) (hc.block g hgl hgb)
          exact ⟨((hw.below hb0).blk.chg hc hpb).cell 2, ((C.out.cd.below hb0).blk.chg hc (fun e => C.out.cd.sp e.symm)).cell 1, (hg _).trans c0, (hg _).trans c1, (hg _).trans c2, (hg _).trans c3⟩))
        have HK := Lib.hid (KP.out _ (Chg.refl _ _))
        clear hbt ho hc hok hn hb1 hb2 hw hpb hgb hb0
        go_wp2
        clear c0 c1 c2 c3 e2 f1 ck
        go_region_held3 (fun w' => w'.cell? ⟨p, 2, none⟩ = some (.slice (some ⟨g, 0, none⟩) q cp) ∧ w'.cell? ⟨P0, 1, none⟩ = some (.map (some b1)) ∧ w'.cell? ⟨g, k * 4, none⟩ = some (.int .i64 kd) ∧ w'.cell? ⟨g, k * 4 + 1, none⟩ = some (.string x) ∧ w'.cell? ⟨g, k * 4 + 2, none⟩ = some (.string y) ∧ w'.cell? ⟨g, k * 4 + 3, none⟩ = some (.int .i64 i))
          (first | assumption | exact HK.out)
          (first | (go_at_call 28; go_loud (refine DO.out.mono ?_; rintro e w3 ⟨rfl, hm, hc⟩; have HN := Lib.hid (NX.out _ hm hc); have hk3 := KP.out _ hc; clear hm hc)))
        go_wp2
        go_roundw
        case rel => exact ⟨k + 1, by omega, by go_num, HN⟩
        case measure => simp [intOf]; omega
    · obtain rfl : k = M := by omega
      have kM : ¬ (k : Int) < (k : Int) := by omega
      have hb0 : Below wr.heap.size wr wr.drew := below_drewn (Below.refl _ _) 1
      obtain ⟨f0, f1, -, -⟩ := C.out.cd.cells (Below.refl _ _)
      have hls : (crashN cfT s.safe (s.ops.take k) ks).length ≤ 1000000 := by have := (CrA.size (k := k) (ks := ks) HG.out).1; omega
      have CO := Lib.hid (copy_any b0 b1 (crashN cfT s.safe (s.ops.take k) ks) wr.drew (C.out.cd.below hb0).now (C.out.cd.below hb0).safe C.out.cd.ne hls)
      have KP := Lib.hid (fun (w' : World) (hc : Chg (fun j => j = b0) wr.drew w') => (show w'.cell? ⟨P0, 0, none⟩ = some (.map (some b0)) ∧ w'.cell? ⟨P0, 1, none⟩ = some (.map (some b1)) from by
        have hb := (C.out.cd.below hb0).blk.chg hc (fun e => C.out.cd.np e.symm)
        exact ⟨hb.cell 0, hb.cell 1⟩))
      have HK := Lib.hid (KP.out _ (Chg.refl _ _))
      have NX := Lib.hid (fun (w' : World) (hm : MapAt w' b0 (crashN cfT s.safe (s.ops.take k) ks)) (hc : Chg (fun j => j = b0) wr.drew w') => C.out.out HKK.out hb0 hm hc)
      clear hb0 hls f0 f1
      go_wp2
      go_region_held3 (fun w' => w'.cell? ⟨P0, 0, none⟩ = some (.map (some b0)) ∧ w'.cell? ⟨P0, 1, none⟩ = some (.map (some b1)))
        (first | assumption | exact HK.out)
        (first | (go_at_call 29; go_loud (refine CO.out.mono ?_; rintro e w3 ⟨rfl, hm, hc⟩; have HN := Lib.hid (NX.out _ hm hc); have hk3 := KP.out _ hc; clear hm hc)))
      go_wp2
      go_ret
      exact HN.out

end Go.Proofs.Ytakjiklpfddooaa
