/-
  LAYER 6: WHAT touched DOES: its contract.
-/
import Derived.Test.YtdpoffedmafmhaaFileFn3
import Derived.Test.YtdpoffedmafmhaaSecAt
import Derived.Test.YtdpoffedmafmhaaRegion
set_option linter.unusedVariables false
set_option linter.unusedSimpArgs false
namespace Go.Proofs.Ytdpoffedmafmhaa
open Go.RowKit

theorem splice_whole (l cs : List Value) (h : cs.length = l.length) : splice l 0 cs = cs := by unfold splice; simp [h]
theorem stepA_len (b : Bool) (n : Int) : (stepA b n).toList.length = 66 := by rw [Array.length_toList]; exact stepA_size _ _

/-- A block that has come, and has turned alone. -/
theorem new_turned {w w1 : World} {o : Obj} (hc : Chg (fun k => k = w.heap.size) (w.alloc o) w1) : Below w.heap.size w w1 :=
  ((Below.refl _ _).alloc (Nat.le_refl _) _).trans (hc.below (by simp) (fun k _ e => by omega))

theorem CF.nowR {w : World} {base p m c : Nat} {S : Nat → Prop} {s : FS} {A : Option Addr} {sv pv : Value} (h : CF w base S p s (.slice A m c) sv pv) (hm : m = s.now.length) : Reads w w.heap.size 1 A m (cellsOf .u8 s.now) ∧ m ≤ c ∧ c ≤ 9223372036854775807 := by
  subst hm
  obtain ⟨A', c', e, h1, h2⟩ := own_form h.now
  injection e with e1 _ e3
  subst e1; subst e3
  exact ⟨Reads.of_own h.now, h1, by unfold maxLen at h2; omega⟩
theorem CF.safeR {w : World} {base p m c : Nat} {S : Nat → Prop} {s : FS} {A : Option Addr} {nv pv : Value} (h : CF w base S p s nv (.slice A m c) pv) (hm : m = s.safe.length) : Reads w w.heap.size 1 A m (cellsOf .u8 s.safe) ∧ m ≤ c ∧ c ≤ 9223372036854775807 := by
  subst hm
  obtain ⟨A', c', e, h1, h2⟩ := own_form h.safe
  injection e with e1 _ e3
  subst e1; subst e3
  exact ⟨Reads.of_own h.safe, h1, by unfold maxLen at h2; omega⟩

set_option maxHeartbeats 1000000 in
theorem touched_any (p n : Nat) (base : Nat) (S : Nat → Prop) (s : FS) (nv sv pv : Value) (w : World) (h : CF w base S p s nv sv pv) (hn : n ≤ 1048576) (hl : s.now.length ≤ 1048576) (ho : s.ops.length ≤ 1000000) :
    Calls Try.prog 31 #[.pointer (some ⟨p, 0, none⟩), .int .i64 n] w fun e w' => e = .returned (.tuple #[]) ∧ CFT base S p ⟨s.now, s.safe, s.ops ++ [⟨false, n, secL s.now n⟩]⟩ w w' := by
  obtain ⟨A, c, rfl, hc1, hc2⟩ := own_form h.now
  obtain ⟨Ap, cp, rfl, hp1, hp2⟩ := own_form h.pend
  obtain ⟨i0, hi, hz0, hz1, hz2⟩ := info_parts stepInfo
  have s2 : s.ops.length + 1 ≤ maxLen := by unfold maxLen; omega
  have s3 : (s.ops.length + 1) * 80 ≤ 140737488355328 := by omega
  obtain ⟨m, hm⟩ : ∃ m, m = s.now.length := ⟨_, rfl⟩
  obtain ⟨q, hq⟩ : ∃ q, q = s.ops.length := ⟨_, rfl⟩
  rw [← hm] at hl
  rw [← hm, ← hq] at h
  rw [← hq] at s2 s3
  have H := Lib.hid h
  have HM := Lib.hid hm
  have HQ := Lib.hid hq
  clear h hc1 hp1 hm hq ho
  go_enter Try.func31, Try.ntmps31
  go_wp2_with (show wpList _ _ _ (Oper.mk _ (.build 57 _) _ _ _ _ :: _) _ _; refine wpList_build_run rfl _ _ rfl _ _ _ (run_step1 n _) (by kernel_rfl) ?_)
  rw [run_zeroS]
  go_wp2_with (show wpList _ _ _ (Oper.mk none (.store 57 (.tmp 4) (.tmp 6)) _ _ _ _ :: _) _ _; go_loud (refine wpList_store_blk (op := ⟨none, .store 57 (.tmp 4) (.tmp 6), _, _, _, _⟩) rfl 57 _ _ rfl w.heap.size 0 rfl (stepA false n).toList rfl (stepA false 0).toList 57 (Blk.new w _ _) stepSize (by simp [stepA_size]) (stepA_one _ _) ?_ rfl; intro w1 hb1 hc1))
  have hb2 : Blk w1 w.heap.size 57 (stepA false n).toList.toArray := by
    have := hb1.out
    rwa [splice_whole _ _ (by rw [stepA_len, stepA_len])] at this
  have hw1 := new_turned hc1
  have H1 := Lib.hid (H.out.below hw1)
  have c0 := H1.out.blk.cell 0
  simp at c0
  have AT := Lib.hid (at_any A m c n s.now w1.heap.size w1.drew (H1.out.nowR HM.out).1.drew (Nat.le_refl _) (H1.out.nowR HM.out).2.1 (H1.out.nowR HM.out).2.2 (by omega))
  clear hb1 hc1
  have HNL := Lib.hid (show (cellsOf .u8 (secL s.now n)).length = 64 by rw [cellsOf_length, secL_length])
  have HB2 := Lib.hid hb2
  have hf2 : 2 + 64 ≤ (stepA false n).toList.length := by rw [stepA_len]; decide
  clear hb2
  go_region_law ((first
    | (go_simp; go_at_call 37; refine AT.out.mono ?_; rintro e w2 ⟨gd, hgd, rfl, hbd, hw2⟩; rw [secL_length]; have hb3 := HB2.out.drew.below hw2 HB2.out.lt)
    | (go_loud (refine step_copy_blk rfl _ _ _ _ rfl 5 Try.underlying26 byteOne _ _ _ _ _ _ rfl rfl w.heap.size 2 64 (stepA false n).toList 57 hb3 (cellsOf .u8 (secL s.now n)) HNL.out rfl (fun _ => ⟨rfl, _, rfl, fun j v hj => by rw [row_addC, hbd.cell, Nat.zero_add, List.getElem?_toArray]; exact hj⟩) hf2 (cellsOf_one _ _) ?_; intro w3 HG3 hc3))))
  obtain ⟨cs, hcs⟩ : ∃ cs, cs = (stepC ⟨false, n, secL s.now n⟩).toArray := ⟨_, rfl⟩
  have hb4 : Blk w3 w.heap.size 57 cs := by rw [hcs, stepC_sec _ _ (secL_length _ _)]; exact HG3.out
  have hw3 : Below w.heap.size w w3 := chg_below2 (hw1.trans ((below_drew0 (w := w1) hw2).mono hw1.size)) hc3 (Nat.le_refl _) (Nat.le_trans hw1.size hw2.size)
  have hcz : cs.size = 66 := by rw [hcs, List.size_toArray, stepC_length]
  have hc1 : ∀ u ∈ cs.toList, u.oneCell' = true := by rw [hcs]; exact stepC_oneCell _
  have H3 := Lib.hid (H.out.below hw3)
  have HCS := Lib.hid hcs
  have HB4 := Lib.hid hb4
  have d2 := H3.out.blk.cell 2
  have f2 := H3.out.blk.frozen 2
  simp at d2
  clear HG3 hc3 hb3 hbd hw2 HB2 HNL AT c0 H1 hcs hb4
  go_wp2
  refine wp_region_any (by kernel_rfl) ?_
  change wpAny _ _ _ _ _ _ _ (World.drew _)
  refine take_yes (i := 0) (v := ?_) rfl (by kernel_rfl) (by kernel_rfl) (by kernel_rfl) (fun _ _ _ h => h) (by kernel_rfl) ?_ ?_
  rotate_left
  · intro wz; go_simp; try with_reducible rfl
  simp only [Act.put, List.setIfInBounds_toArray, List.set_cons_zero, List.set_cons_succ]
  refine take_yes (i := 1) (v := ?_) rfl (by kernel_rfl) (by kernel_rfl) (by kernel_rfl) (fun _ _ _ h => h) (by kernel_rfl) ?_ ?_
  rotate_left
  · intro wz; go_simp; try with_reducible rfl
  simp only [Act.put, List.setIfInBounds_toArray, List.set_cons_zero, List.set_cons_succ]
  refine take_yes (i := 2) (v := ?_) rfl (by kernel_rfl) (by kernel_rfl) (by kernel_rfl) (fun _ _ _ h => h) (by kernel_rfl) ?_ ?_
  rotate_left
  · intro wz; go_simp; try with_reducible rfl
  simp only [Act.put, List.setIfInBounds_toArray, List.set_cons_zero, List.set_cons_succ]
  refine take_yes (i := 3) (v := ?_) rfl (by kernel_rfl) (by kernel_rfl) (by kernel_rfl) (fun _ _ _ h => h) (by kernel_rfl) ?_ ?_
  rotate_left
  · intro wz; go_simp; try with_reducible rfl
  simp only [Act.put, List.setIfInBounds_toArray, List.set_cons_zero, List.set_cons_succ]
  refine wpAny_ready (rs := [4, 5]) (by kernel_rfl) (by simp) (AllReady.cons rfl (fun K hK => ?_) (AllReady.cons rfl (fun K hK => ?_) AllReady.nil))
  · go_simp
    refine hK _ _ ?_
    clear hK K
    refine wpAny_ready (rs := [5]) (by kernel_rfl) (by simp) (AllReady.cons rfl (fun K hK => ?_) AllReady.nil)
    refine step_load_row rfl _ _ rfl w.heap.size rfl 57 cs _ HB4.out.drew Try.underlying57 rfl (by rw [hcz]; exact stepSize) ?_
    refine hK _ _ ?_
    clear hK K
    refine wpAny_ready (rs := [6]) (by kernel_rfl) (by simp) (AllReady.cons rfl (fun K hK => ?_) AllReady.nil)
    refine step_slice_run rfl _ _ _ rfl _ _ _ (run_slice66 cs hcz _) (by kernel_rfl) ?_
    refine hK _ _ ?_
    clear hK K
    refine wpAny_ready (rs := [7]) (by kernel_rfl) (by simp) (AllReady.cons rfl (fun K hK => ?_) AllReady.nil)
    refine step_append_any _ rfl _ _ _ rfl base 57 i0 _ 66 80 Try.underlying48 hi hz0 hz1 hz2 (stepA_size false 0) (Nat.zero_lt_succ 65) (.slice Ap q cp) q (stepsC s.ops) rfl ((H3.out.drew.pend_ HQ.out).alloc _) _ _ 1 1 cs.toList rfl (new66 _ _ _ 66 hcz) hc1 s2 s3 (by have := H3.out.bas; simp at this ⊢; omega) ?_
    intro v4 w4 hown4 hg4 hat4
    obtain ⟨A4, c4, rfl, -, -⟩ := own_form hown4
    obtain ⟨g2, gf2⟩ := H3.out.drew.pcells hg4
    have HP := Lib.hid (H3.out.drew.pushed (op := ⟨false, n, secL s.now n⟩) HQ.out hg4 (by rw [show stepC ⟨false, n, secL s.now n⟩ = cs.toList by rw [HCS.out]]; exact hown4) hat4)
    clear hown4 hg4 hat4
    refine hK _ _ ?_
    clear hK K
    refine take_yes (i := 8) (v := ?_) rfl (by kernel_rfl) (by kernel_rfl) (by kernel_rfl) (fun _ _ _ h => h) (by kernel_rfl) ?_ ?_
    rotate_left
    · intro wz; go_simp; try with_reducible rfl
    simp only [Act.put, List.setIfInBounds_toArray, List.set_cons_zero, List.set_cons_succ]
    refine take_yes (i := 9) (v := ?_) rfl (by kernel_rfl) (by kernel_rfl) (by kernel_rfl) (fun _ _ _ h => h) (by kernel_rfl) ?_ ?_
    rotate_left
    · intro wz; go_simp; try with_reducible rfl
    simp only [Act.put, List.setIfInBounds_toArray, List.set_cons_zero, List.set_cons_succ]
    refine wpAny_ready (rs := [10]) (by kernel_rfl) (by simp) (AllReady.cons rfl (fun K hK => ?_) AllReady.nil)
    go_simp
    refine hK _ _ ?_
    clear hK K
    refine wpAny_done (by kernel_rfl) ?_ _
    go_wp2
    go_end0
    exact ⟨rfl, CFT.step H.out (Chg.of_below hw3 (Nat.le_refl _) S).drew (fun k hk => .inl hk) HP.out.1 HP.out.2⟩
  · refine step_load_row rfl _ _ rfl w.heap.size rfl 57 cs _ HB4.out.drew Try.underlying57 rfl (by rw [hcz]; exact stepSize) ?_
    refine hK _ _ ?_
    clear hK K
    refine wpAny_ready (rs := [4, 6]) (by kernel_rfl) (by simp) (AllReady.cons rfl (fun K hK => ?_) (AllReady.cons rfl (fun K hK => ?_) AllReady.nil))
    · go_simp
      refine hK _ _ ?_
      clear hK K
      refine wpAny_ready (rs := [6]) (by kernel_rfl) (by simp) (AllReady.cons rfl (fun K hK => ?_) AllReady.nil)
      refine step_slice_run rfl _ _ _ rfl _ _ _ (run_slice66 cs hcz _) (by kernel_rfl) ?_
      refine hK _ _ ?_
      clear hK K
      refine wpAny_ready (rs := [7]) (by kernel_rfl) (by simp) (AllReady.cons rfl (fun K hK => ?_) AllReady.nil)
      refine step_append_any _ rfl _ _ _ rfl base 57 i0 _ 66 80 Try.underlying48 hi hz0 hz1 hz2 (stepA_size false 0) (Nat.zero_lt_succ 65) (.slice Ap q cp) q (stepsC s.ops) rfl ((H3.out.drew.pend_ HQ.out).alloc _) _ _ 1 1 cs.toList rfl (new66 _ _ _ 66 hcz) hc1 s2 s3 (by have := H3.out.bas; simp at this ⊢; omega) ?_
      intro v4 w4 hown4 hg4 hat4
      obtain ⟨A4, c4, rfl, -, -⟩ := own_form hown4
      obtain ⟨g2, gf2⟩ := H3.out.drew.pcells hg4
      have HP := Lib.hid (H3.out.drew.pushed (op := ⟨false, n, secL s.now n⟩) HQ.out hg4 (by rw [show stepC ⟨false, n, secL s.now n⟩ = cs.toList by rw [HCS.out]]; exact hown4) hat4)
      clear hown4 hg4 hat4
      refine hK _ _ ?_
      clear hK K
      refine take_yes (i := 8) (v := ?_) rfl (by kernel_rfl) (by kernel_rfl) (by kernel_rfl) (fun _ _ _ h => h) (by kernel_rfl) ?_ ?_
      rotate_left
      · intro wz; go_simp; try with_reducible rfl
      simp only [Act.put, List.setIfInBounds_toArray, List.set_cons_zero, List.set_cons_succ]
      refine take_yes (i := 9) (v := ?_) rfl (by kernel_rfl) (by kernel_rfl) (by kernel_rfl) (fun _ _ _ h => h) (by kernel_rfl) ?_ ?_
      rotate_left
      · intro wz; go_simp; try with_reducible rfl
      simp only [Act.put, List.setIfInBounds_toArray, List.set_cons_zero, List.set_cons_succ]
      refine wpAny_ready (rs := [10]) (by kernel_rfl) (by simp) (AllReady.cons rfl (fun K hK => ?_) AllReady.nil)
      go_simp
      refine hK _ _ ?_
      clear hK K
      refine wpAny_done (by kernel_rfl) ?_ _
      go_wp2
      go_end0
      exact ⟨rfl, CFT.step H.out (Chg.of_below hw3 (Nat.le_refl _) S).drew (fun k hk => .inl hk) HP.out.1 HP.out.2⟩
    · have d2' := (H3.out.blk.alloc (.cells cs 57)).cell 2
      simp at d2'
      refine step_slice_run rfl _ _ _ rfl _ _ _ (run_slice66 cs hcz _) (by kernel_rfl) ?_
      refine hK _ _ ?_
      clear hK K
      refine wpAny_ready (rs := [4]) (by kernel_rfl) (by simp) (AllReady.cons rfl (fun K hK => ?_) AllReady.nil)
      go_simp
      refine hK _ _ ?_
      clear hK K
      refine wpAny_ready (rs := [7]) (by kernel_rfl) (by simp) (AllReady.cons rfl (fun K hK => ?_) AllReady.nil)
      refine step_append_any _ rfl _ _ _ rfl base 57 i0 _ 66 80 Try.underlying48 hi hz0 hz1 hz2 (stepA_size false 0) (Nat.zero_lt_succ 65) (.slice Ap q cp) q (stepsC s.ops) rfl ((H3.out.drew.pend_ HQ.out).alloc _) _ _ 1 1 cs.toList rfl (new66 _ _ _ 66 hcz) hc1 s2 s3 (by have := H3.out.bas; simp at this ⊢; omega) ?_
      intro v4 w4 hown4 hg4 hat4
      obtain ⟨A4, c4, rfl, -, -⟩ := own_form hown4
      obtain ⟨g2, gf2⟩ := H3.out.drew.pcells hg4
      have HP := Lib.hid (H3.out.drew.pushed (op := ⟨false, n, secL s.now n⟩) HQ.out hg4 (by rw [show stepC ⟨false, n, secL s.now n⟩ = cs.toList by rw [HCS.out]]; exact hown4) hat4)
      clear hown4 hg4 hat4
      refine hK _ _ ?_
      clear hK K
      refine take_yes (i := 8) (v := ?_) rfl (by kernel_rfl) (by kernel_rfl) (by kernel_rfl) (fun _ _ _ h => h) (by kernel_rfl) ?_ ?_
      rotate_left
      · intro wz; go_simp; try with_reducible rfl
      simp only [Act.put, List.setIfInBounds_toArray, List.set_cons_zero, List.set_cons_succ]
      refine take_yes (i := 9) (v := ?_) rfl (by kernel_rfl) (by kernel_rfl) (by kernel_rfl) (fun _ _ _ h => h) (by kernel_rfl) ?_ ?_
      rotate_left
      · intro wz; go_simp; try with_reducible rfl
      simp only [Act.put, List.setIfInBounds_toArray, List.set_cons_zero, List.set_cons_succ]
      refine wpAny_ready (rs := [10]) (by kernel_rfl) (by simp) (AllReady.cons rfl (fun K hK => ?_) AllReady.nil)
      go_simp
      refine hK _ _ ?_
      clear hK K
      refine wpAny_done (by kernel_rfl) ?_ _
      go_wp2
      go_end0
      exact ⟨rfl, CFT.step H.out (Chg.of_below hw3 (Nat.le_refl _) S).drew (fun k hk => .inl hk) HP.out.1 HP.out.2⟩

end Go.Proofs.Ytdpoffedmafmhaa
