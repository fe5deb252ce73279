/-
  LAYER 6: WHAT resize DOES: its contract.
-/
import Derived.Test.YtdpoffedmafmhaaFileFn2
import Derived.Test.YtdpoffedmafmhaaFillOne
set_option linter.unusedVariables false
set_option linter.unusedSimpArgs false
namespace Go.Proofs.Ytdpoffedmafmhaa
open Go.RowKit

/-- The program's file has turned: of the blocks that were there its own alone have. -/
def CFT (base : Nat) (S : Nat → Prop) (p : Nat) (s' : FS) (w w' : World) : Prop := Chg S w w' ∧ ∃ nv sv pv, CF w' base (grow S w w') p s' nv sv pv

theorem CFT.of {base p : Nat} {S S' : Nat → Prop} {s : FS} {w w' : World} {nv sv pv : Value} (hc : Chg S w w') (h : CF w' base S' p s nv sv pv) (hS : ∀ k, S' k → S k ∨ w.heap.size ≤ k) (hf : ∀ k, S k → base ≤ k ∧ k < w.heap.size) (hb : base ≤ w.heap.size) : CFT base S p s w w' :=
  ⟨hc, nv, sv, pv, h.mono (fun k hk => by
    have := (h.foot k hk).2
    rcases hS k hk with h1 | h1
    · exact .inl h1
    · exact .inr ⟨h1, this⟩) (chg_lt hf hc hb)⟩

theorem CFT.same {base p : Nat} {S : Nat → Prop} {s : FS} {w : World} {nv sv pv : Value} (h : CF w base S p s nv sv pv) : CFT base S p s w w := CFT.of (Chg.refl _ _) h (fun _ h => .inl h) h.foot h.bas

theorem stepA_one (b : Bool) (n : Int) : ∀ u ∈ (stepA b n).toList, u.oneCell' = true := fun u hu => by
  rw [stepA_toList] at hu
  rcases List.mem_cons.1 hu with rfl | hu
  · rfl
  rcases List.mem_cons.1 hu with rfl | hu
  · rfl
  exact cellsOf_one _ _ u hu

theorem run_slice66 (cs : Array Value) (hc : cs.size = 66) (w : World) : (Instr.buildSlice 48 1 #[(0, .agg cs)]).run Try.prog w = .ok (.slice (some ⟨w.heap.size, 0, none⟩) 1 1) (w.alloc (.cells cs 57)) := by
  obtain ⟨i0, hi, hz0, hz1, hz2⟩ := info_parts stepInfo
  exact run_slice1 _ _ i0 _ 66 Try.underlying48 hi hz0 hz1 (by show (stepA false 0).size = 66; exact stepA_size _ _) (by omega) (by omega) cs hc w

section
variable {w w1 w2 w4 : World} {base p : Nat} {S S2 : Nat → Prop} {s : FS} {nv sv pv v' : Value}

/-- The cells of a file behind a call that has made its bytes anew. -/
theorem CF.cells (h : CF w base S p s nv sv pv) (hc : Chg (fun k => nv.ownBlock = some k) w w1) : w1.cell? ⟨p, 0, none⟩ = some nv ∧ w1.cell? ⟨p, 2, none⟩ = some pv ∧ w1.frozen? ⟨p, 0, none⟩ = false ∧ w1.frozen? ⟨p, 2, none⟩ = false := by
  have hb : Blk w1 p 50 #[nv, sv, pv] := h.blk.chg hc (fun e => h.pn e)
  exact ⟨hb.cell 0, hb.cell 2, hb.frozen 0, hb.frozen 2⟩
theorem CF.pcells (h : CF w base S p s nv sv pv) {o : Obj} (hg : (w.alloc o).grownBy w1 pv.ownBlock) : w1.cell? ⟨p, 2, none⟩ = some pv ∧ w1.frozen? ⟨p, 2, none⟩ = false := by
  have hb : Blk w1 p 50 #[nv, sv, pv] := (h.blk.alloc o).chg (Chg.of_grown hg) (fun e => h.pp e)
  exact ⟨hb.cell 2, hb.frozen 2⟩

theorem CF.pend_ (h : CF w base S p s nv sv pv) {q : Nat} (hq : q = s.ops.length) : w.ownsRow base 57 66 pv q (stepsC s.ops) := hq ▸ h.pend

theorem CF.pushed (h : CF w2 base S2 p s nv sv pv) {o : Obj} {op : OpV} {q : Nat} (hq : q = s.ops.length) (hg : (w2.alloc o).grownBy w4 pv.ownBlock) (hown : w4.ownsRow base 57 66 v' (q + 1) (stepsC s.ops ++ stepC op)) (hat : v'.ownBlock = pv.ownBlock ∨ v'.ownBlock = some (w2.alloc o).heap.size) :
    Chg S2 w2 (w4.setCell ⟨p, 2, none⟩ v') ∧ CF (w4.setCell ⟨p, 2, none⟩ v') base (grow S2 w2 w4) p ⟨s.now, s.safe, s.ops ++ [op]⟩ nv sv v' := by
  have hc : Chg (fun k => pv.ownBlock = some k) w2 w4 := ((Chg.refl (fun k => pv.ownBlock = some k) w2).alloc o).trans (Chg.of_grown hg) (fun _ _ e => e)
  subst hq
  refine ⟨(hc.mono (fun k _ e => h.ino k e)).setCell (.inr h.inp) _, h.push hown hc ?_⟩
  rcases hat with e | e
  · exact .inl e
  · exact .inr ⟨_, e, by simp⟩

theorem CFT.step {s' : FS} {w5 : World} {nv' sv' pv' : Value} (h : CF w base S p s nv sv pv) (hc1 : Chg S w w2) (hg : ∀ k, S2 k → S k ∨ w.heap.size ≤ k) (hc2 : Chg S2 w2 w5) (h5 : CF w5 base (grow S2 w2 w4) p s' nv' sv' pv') : CFT base S p s' w w5 :=
  CFT.of (hc1.trans hc2 (fun k hk hs => by
    rcases hg k hs with h | h
    · exact h
    · omega)) h5 (fun k hk => by
    have := hc1.size
    rcases hk with h | ⟨h, _⟩
    · exact hg k h
    · exact .inr (by omega)) h.foot h.bas

theorem CF.renowed (h : CF w base S p s nv sv pv) {zs : List Int} (hown : w1.ownsRow base 5 1 v' zs.length (cellsOf .u8 zs)) (hc : Chg (fun k => nv.ownBlock = some k) w w1) : Chg S w (w1.setCell ⟨p, 0, none⟩ v') :=
  (hc.mono (fun k _ e => h.inn k e)).setCell (.inr h.inp) _
end

set_option maxHeartbeats 1000000 in
theorem resize_any (p n : Nat) (base : Nat) (S : Nat → Prop) (s : FS) (nv sv pv : Value) (w : World) (h : CF w base S p s nv sv pv) (hn : n ≤ 1048576) (hl : s.now.length ≤ 1048576) (ho : s.ops.length ≤ 1000000) :
    Calls Try.prog 29 #[.pointer (some ⟨p, 0, none⟩), .int .i64 n] w fun e w' => e = .returned (.tuple #[]) ∧ CFT base S p (s.trunc n) w w' := by
  obtain ⟨A, c, rfl, hc1, hc2⟩ := own_form h.now
  obtain ⟨Ap, cp, rfl, hp1, hp2⟩ := own_form h.pend
  have c0 := h.blk.cell 0
  simp at c0
  by_cases hne : n = s.now.length
  · have ht : s.trunc n = s := by unfold FS.trunc; rw [if_pos hne]
    rw [ht]
    have HC := Lib.hid (CFT.same h)
    obtain ⟨m, hm⟩ : ∃ m, m = s.now.length := ⟨_, rfl⟩
    rw [← hm] at c0 hne
    subst hne
    clear h ht hm
    go_enter Try.func29, Try.ntmps29
    go_wp2_with (go_at_call 17; refine (flen_any p n A c w c0).mono ?_; rintro e w1 ⟨rfl, rfl⟩)
    refine bodyPost_ret (results_none rfl _ _ _) rfl ?_
    exact ⟨rfl, HC.out⟩
  · obtain ⟨i0, hi, hz0, hz1, hz2⟩ := info_parts stepInfo
    have ht : s.trunc n = ⟨sizeL s.now n, s.safe, s.ops ++ [⟨true, n, []⟩]⟩ := by unfold FS.trunc; rw [if_neg hne]
    rw [ht]
    have hRS := resized_any A s.now.length c n s.now base w h.now h.bas (by omega) (by omega)
    unfold Reown at hRS
    rw [sizeL_length] at hRS
    have RS := Lib.hid hRS
    have hneI : ((n : Int) == ((s.now.length : Nat) : Int)) = false := by simp; omega
    have H := Lib.hid h
    have s2 : s.ops.length + 1 ≤ maxLen := by unfold maxLen; omega
    have s3 : (s.ops.length + 1) * 80 ≤ 140737488355328 := by omega
    obtain ⟨m, hm⟩ : ∃ m, m = s.now.length := ⟨_, rfl⟩
    obtain ⟨q, hq⟩ : ∃ q, q = s.ops.length := ⟨_, rfl⟩
    rw [← hm] at c0 hneI RS H
    rw [← hq] at s2 s3 H ho
    have HM := Lib.hid hm
    have HQ := Lib.hid hq
    clear h ht hRS hne hl hc1 hp1 hm hq
    go_enter Try.func29, Try.ntmps29
    go_wp2_with (first
      | (go_at_call 17; refine (flen_any p m A c w c0).mono ?_; rintro e w1 ⟨rfl, rfl⟩)
      | (go_at_call 35; refine RS.out.mono ?_; rintro e w1 ⟨A1, c1, rfl, hown1, hch1, hm1⟩; obtain ⟨d0, d2, f0, f2⟩ := H.out.cells hch1; have H1 := Lib.hid (H.out.setNow (by rw [sizeL_length]; exact hown1) hch1 hm1))
      | (show wpList _ _ _ (Oper.mk _ (.build 57 _) _ _ _ _ :: _) _ _; go_loud (refine wpList_build_run rfl _ _ rfl _ _ _ (run_step2 n _) (by kernel_rfl) ?_))
      | (show wpList _ _ _ (Oper.mk _ (.buildSlice 48 1 _) _ _ _ _ :: _) _ _; go_loud (refine wpList_slice_run rfl _ _ _ rfl _ _ _ (run_slice66 (stepA true n) (stepA_size _ _) _) (by kernel_rfl) ?_))
      | (at_builtin; go_loud (refine wpList_append_any _ rfl _ _ _ rfl base 57 i0 _ 66 80 Try.underlying48 hi hz0 hz1 hz2 (stepA_size false 0) (Nat.zero_lt_succ 65) (.slice Ap q cp) q (stepsC s.ops) rfl ((H1.out.pend_ HQ.out).alloc _) _ _ 1 1 (stepA true n).toList rfl (new66 _ _ _ 66 (stepA_size _ _)) (stepA_one _ _) s2 s3 (by have := H1.out.bas; simp at this ⊢; omega) ?_; intro v4 w4 hown4 hg4 hat4; obtain ⟨A4, c4, rfl, -, -⟩ := own_form hown4; obtain ⟨g2, gf2⟩ := H1.out.pcells hg4; have HP := Lib.hid (H1.out.pushed (op := ⟨true, n, []⟩) HQ.out hg4 (by rw [stepC_size]; exact hown4) (by simpa using hat4)); have HC1 := Lib.hid (H.out.renowed (zs := sizeL s.now n) (by rw [sizeL_length]; exact hown1) hch1); clear hown4 hg4 hat4 hown1 hch1 hm1)))
    go_end0
    exact ⟨rfl, CFT.step H.out HC1.out (fun k hk => hk.imp id (fun x => x.1)) HP.out.1 HP.out.2⟩

end Go.Proofs.Ytdpoffedmafmhaa
