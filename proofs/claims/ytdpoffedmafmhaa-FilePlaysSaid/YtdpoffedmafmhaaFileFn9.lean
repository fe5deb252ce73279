/-
  LAYER 6: WHAT Copy AND done DO: contracts.
-/
import Derived.Test.YtdpoffedmafmhaaFileFn8
import Derived.Test.YtdpoffedmafmhaaRegion
set_option linter.unusedVariables false
set_option linter.unusedSimpArgs false
namespace Go.Proofs.Ytdpoffedmafmhaa
open Go.RowKit

/-- A function has told a file of its own; what was there has not turned. -/
def CFnew (base : Nat) (s : FS) (w : World) (e : Ending) (w' : World) : Prop :=
  ∃ p nv sv pv, e = .returned (.pointer (some ⟨p, 0, none⟩)) ∧ Below w.heap.size w w' ∧ CF w' base (fun k => w.heap.size ≤ k ∧ k < w'.heap.size) p s nv sv pv

theorem CF.boxed {w0 w : World} {base : Nat} {s : FS} {nv sv pv : Value} (hw : w0.heap.size ≤ w.heap.size) (hb : base ≤ w0.heap.size) (hn : w.ownsRow w0.heap.size 5 1 nv s.now.length (cellsOf .u8 s.now)) (hs : w.ownsRow w0.heap.size 5 1 sv s.safe.length (cellsOf .u8 s.safe))
    (hp : w.ownsRow w0.heap.size 57 66 pv s.ops.length (stepsC s.ops)) (hne : ∀ g, nv.ownBlock = some g → sv.ownBlock ≠ some g) :
    CF (w.alloc (.cells #[nv, sv, pv] 50)) base (fun k => w0.heap.size ≤ k ∧ k < (w.alloc (.cells #[nv, sv, pv] 50)).heap.size) w.heap.size s nv sv pv := by
  have hsz : (w.alloc (.cells #[nv, sv, pv] 50)).heap.size = w.heap.size + 1 := by simp
  refine ⟨fun k hk => ⟨by omega, hk.2⟩, by rw [hsz]; omega, ⟨hw, by rw [hsz]; omega⟩, Blk.new _ _ _, own_base (hn.alloc _) hb, own_base (hs.alloc _) hb, own_base (hp.alloc _) hb, ?_, ?_, ?_, hne⟩
  · intro g hg; have := hn.lt g hg; rw [hsz]; omega
  · intro g hg; have := hs.lt g hg; rw [hsz]; omega
  · intro g hg; have := hp.lt g hg; rw [hsz]; omega

theorem fcopy_nil (w : World) : Calls Try.prog 16 #[.pointer none] w fun e w' => e = .returned (.pointer none) ∧ w = w' := by
  go_enter Try.func16, Try.ntmps16
  go_wp2
  go_ret
  exact ⟨rfl, rfl⟩

theorem CF.cells3 {w w1 : World} {base p : Nat} {S : Nat → Prop} {s : FS} {nv sv pv : Value} (h : CF w base S p s nv sv pv) (hb : Below w.heap.size w w1) : w1.cell? ⟨p, 0, none⟩ = some nv ∧ w1.cell? ⟨p, 1, none⟩ = some sv ∧ w1.cell? ⟨p, 2, none⟩ = some pv :=
  ⟨(h.blkB hb).1, (h.blkB hb).2.1, (h.blkB hb).2.2.1⟩

set_option maxHeartbeats 1000000 in
theorem fcopy_any (p : Nat) (base : Nat) (S : Nat → Prop) (s : FS) (nv sv pv : Value) (w : World) (h : CF w base S p s nv sv pv) (hl : s.now.length ≤ 1048576) (hl2 : s.safe.length ≤ 1048576) (ho : s.ops.length ≤ 1000000) :
    Calls Try.prog 16 #[.pointer (some ⟨p, 0, none⟩)] w (CFnew base s w) := by
  obtain ⟨A, c, rfl, hc1, hc2⟩ := own_form h.now
  obtain ⟨As, cs, rfl, hs1, hs2⟩ := own_form h.safe
  obtain ⟨Ap, cp, rfl, hp1, hp2⟩ := own_form h.pend
  obtain ⟨m, hm⟩ : ∃ m, m = s.now.length := ⟨_, rfl⟩
  obtain ⟨m2, hm2⟩ : ∃ m2, m2 = s.safe.length := ⟨_, rfl⟩
  obtain ⟨q, hq⟩ : ∃ q, q = s.ops.length := ⟨_, rfl⟩
  rw [← hm, ← hm2, ← hq] at h
  rw [← hm] at hl
  rw [← hm2] at hl2
  rw [← hq] at ho
  have C1 := Lib.hid (fun w1 (hb : Below w.heap.size w w1) => (clone_any A m c s.now w1.heap.size w1 ((h.below hb).nowR hm).1 (Nat.le_refl _) (by omega)))
  have C2 := Lib.hid (fun w1 (hb : Below w.heap.size w w1) => (clone_any As m2 cs s.safe w1.heap.size w1 ((h.below hb).safeR hm2).1 (Nat.le_refl _) (by omega)))
  have C3 := Lib.hid (fun w1 (hb : Below w.heap.size w w1) => (clone66_any Ap q cp s.ops w1.heap.size w1 (Reads.of_own ((h.below hb).pend_ hq)) (Nat.le_refl _) ho))
  have H := Lib.hid h
  have HM := Lib.hid hm
  have HM2 := Lib.hid hm2
  have HQ := Lib.hid hq
  have hb0 : Below w.heap.size w w.drew := below_drewn (Below.refl _ _) 1
  have m1 : True := trivial
  have m2' : True := trivial
  clear h hm hm2 hq hc1 hs1 hp1
  go_enter Try.func16, Try.ntmps16
  go_wp2
  go_region_held3 (fun w' => w'.cell? ⟨p, 0, none⟩ = some (.slice A m c) ∧ w'.cell? ⟨p, 1, none⟩ = some (.slice As m2 cs) ∧ w'.cell? ⟨p, 2, none⟩ = some (.slice Ap q cp))
    (first | assumption | exact H.out.cells3 (by assumption) | exact H.out.cells3 (hbC.alloc hbC.size _))
    (first
      | (go_at_call 25; clear m1; refine (C1.out _ hb0).mono ?_; rintro e wA ⟨A1, c1, rfl, hown1, hbx⟩; have hbA := hb0.trans (hbx.mono hb0.size); have HO1 := Lib.hid hown1; have HX1 := Lib.hid hbx; clear hown1 hbx)
      | (go_at_call 25; clear m2'; refine (C2.out _ hbA).mono ?_; rintro e wB ⟨A2, c2, rfl, hown2, hbx⟩; have hbB := hbA.trans (hbx.mono hbA.size); have HO2 := Lib.hid hown2; have HX2 := Lib.hid hbx; clear hown2 hbx)
      | (go_at_call 28; refine (C3.out _ hbB).mono ?_; rintro e wC ⟨A3, c3, rfl, hown3, hbx⟩; have hbC := hbB.trans (hbx.mono hbB.size); have HO3 := Lib.hid hown3; have HX3 := Lib.hid hbx; clear hown3 hbx))
  go_wp2
  go_ret
  have o1 := own_below (own_below HO1.out HX2.out) HX3.out
  have o2 := own_base (own_below HO2.out HX3.out) hbA.size
  have o3 := own_base HO3.out hbB.size
  refine ⟨wC.heap.size, _, _, _, rfl, hbC.alloc hbC.size _, CF.boxed (w0 := w) hbC.size H.out.bas o1 o2 (HQ.out ▸ o3) (fun g hg hg2 => ?_)⟩
  have := (HO1.out.lt g hg).2
  have := (HO2.out.lt g hg2).1
  omega

/-! ### done -/
theorem opDo_sec (z : List Int) (o : OpV) (h : o.sz = false) : opDo z o = setL z o.n o.data := by unfold opDo; rw [h]; rfl
theorem opDo_size' (z : List Int) (o : OpV) (h : o.sz = true) : opDo z o = sizeL z o.n := by unfold opDo; rw [h]; rfl
theorem hasL_natN {zs : List Int} {n : Nat} : hasL zs (n : Int) = decide (64 * n < zs.length) := by
  unfold hasL cntN
  by_cases h : 64 * n < zs.length
  · rw [decide_eq_true h]; simp; omega
  · rw [decide_eq_false h]; simp; omega

set_option maxHeartbeats 1000000 in
theorem done_any (g i : Nat) (o : OpV) (A : Option Addr) (len cap : Nat) (zs : List Int) (base : Nat) (w : World) (hs : ∀ j u, (stepC o)[j]? = some u → w.cell? ⟨g, i + j, none⟩ = some u) (hown : w.ownsRow base 5 1 (.slice A len cap) len (cellsOf .u8 zs)) (hB : base ≤ w.heap.size) (hg : g < base)
    (hl : len ≤ 1048576) (hn : o.n ≤ 1048576) (hd : o.sz = false → o.data.length = 64) :
    Calls Try.prog 26 #[.pointer (some ⟨g, i, none⟩), .slice A len cap] w (Reown base (.slice A len cap) (opDo zs o) w) := by
  have hlen : zs.length = len := by have := hown.1; rw [cellsOf_length] at this; omega
  have c0 := hs 0 _ rfl
  have c1 := hs 1 _ rfl
  rw [Nat.add_zero] at c0
  cases hsz : o.sz with
  | true =>
    rw [hsz] at c0
    rw [opDo_size' _ _ hsz]
    have RS := Lib.hid (resized_any A len cap o.n zs base w hown hB (by omega) (by omega))
    obtain ⟨n, hnn⟩ : ∃ n, n = o.n := ⟨_, rfl⟩
    rw [← hnn] at RS c1 ⊢
    clear hs hown hlen hnn hd
    go_enter Try.func26, Try.ntmps26
    go_wp2_with (go_at_call 35; refine RS.out.mono ?_; rintro e w1 ⟨A1, k1, rfl, h1, h2, h3⟩; have HH := Lib.hid (And.intro h1 (And.intro h2 h3)); clear h1 h2 h3)
    go_ret
    exact ⟨A1, k1, rfl, HH.out.1, HH.out.2.1, HH.out.2.2⟩
  | false =>
    rw [hsz] at c0
    have hd64 := hd hsz
    rw [opDo_sec _ _ hsz]
    obtain ⟨n, hnn⟩ : ∃ n, n = o.n := ⟨_, rfl⟩
    rw [← hnn] at c1 hn ⊢
    obtain ⟨N, hN⟩ : ∃ N, N = 64 * n := ⟨_, rfl⟩
    have n1 : (n : Int) * 64 = (N : Int) := by omega
    by_cases hlt : N < len
    · obtain ⟨gl, cur, rfl, hbg, hbk, hnc, hcm, hcl, hct⟩ := own_open hown (by omega)
      obtain ⟨q, hq⟩ : ∃ q, q = min 64 (len - N) := ⟨_, rfl⟩
      obtain ⟨xs, hxs⟩ : ∃ xs, xs = (o.data.take 64).take (zs.length - N) := ⟨_, rfl⟩
      have hxl : xs.length = q := by rw [hxs, List.length_take, List.length_take, hlen, hd64]; omega
      have HSET := Lib.hid (show setL zs n o.data = wrL zs N xs by
        unfold setL wrL; rw [if_pos (by rw [hasL_natN, hlen, ← hN]; simpa using hlt), hxs, hN]; rfl)
      have HSRC := Lib.hid (show ∀ j v, (cellsOf .u8 xs)[j]? = some v → w.cell? ⟨g, i + 2 + j, none⟩ = some v by
        intro j v hj
        have := hs (j + 2) v
        rw [show i + 2 + j = i + (j + 2) by omega]
        refine this ?_
        have e : sizeL o.data 64 = o.data := by rw [← hd64]; exact sizeL_self _
        unfold stepC
        rw [e]
        show (cellsOf .u8 o.data)[j]? = some v
        rw [hxs] at hj
        simp only [cellsOf, List.map_take, List.getElem?_take] at hj
        split at hj
        · split at hj
          · exact hj
          · cases hj
        · cases hj)
      have HNL := Lib.hid (show (cellsOf .u8 xs).length = q by rw [cellsOf_length, hxl])
      have HMIN := Lib.hid (show q = Nat.min 64 (len - N) from hq)
      have hfit : N + q ≤ cur.length := by omega
      have HCL := Lib.hid hcl
      have HCT := Lib.hid hct
      have HXL := Lib.hid hxl
      have HLEN := Lib.hid hlen
      have HQ := Lib.hid hq
      have HO := Lib.hid hown
      have n2 : ¬ cap = N := by omega
      have n5 : (N : Int) ≤ (len : Int) := by omega
      have n7 : (N : Int) < (len : Int) := by omega
      have HNN := Lib.hid hN
      clear hN hs hown hlen hnn hd hd64 hcl hct hxl hxs hq
      go_enter Try.func26, Try.ntmps26
      go_wp2
      refine wp_region_any (by kernel_rfl) ?_
      change wpAny _ _ _ _ _ _ _ (World.drew _)
      refine take_yes (i := 0) (v := ?_) rfl (by kernel_rfl) (by kernel_rfl) (by kernel_rfl) (fun _ _ _ h => h) (by kernel_rfl) ?_ ?_
      rotate_left
      · intro wz; go_simp; try with_reducible rfl
      simp only [Act.put, List.setIfInBounds_toArray, List.set_cons_zero, List.set_cons_succ]
      refine take_yes (i := 1) (v := ?_) rfl (by kernel_rfl) (by kernel_rfl) (by kernel_rfl) (fun _ _ _ h => h) (by kernel_rfl) ?_ ?_
      rotate_left
      · intro wz; go_simp; try with_reducible rfl
      simp only [Act.put, List.setIfInBounds_toArray, List.set_cons_zero, List.set_cons_succ]
      refine take_yes (i := 2) (v := ?_) rfl (by kernel_rfl) (by kernel_rfl) (by kernel_rfl) (fun _ _ _ h => h) (by kernel_rfl) ?_ ?_
      rotate_left
      · intro wz; go_simp; try with_reducible rfl
      simp only [Act.put, List.setIfInBounds_toArray, List.set_cons_zero, List.set_cons_succ]
      refine take_yes (i := 3) (v := ?_) rfl (by kernel_rfl) (by kernel_rfl) (by kernel_rfl) (fun _ _ _ h => h) (by kernel_rfl) ?_ ?_
      rotate_left
      · intro wz; go_simp; try with_reducible rfl
      simp only [Act.put, List.setIfInBounds_toArray, List.set_cons_zero, List.set_cons_succ]
      refine take_yes (i := 4) (v := ?_) rfl (by kernel_rfl) (by kernel_rfl) (by kernel_rfl) (fun _ _ _ h => h) (by kernel_rfl) ?_ ?_
      rotate_left
      · intro wz; go_simp; try with_reducible rfl
      simp only [Act.put, List.setIfInBounds_toArray, List.set_cons_zero, List.set_cons_succ]
      refine take_yes (i := 5) (v := ?_) rfl (by kernel_rfl) (by kernel_rfl) (by kernel_rfl) (fun _ _ _ h => h) (by kernel_rfl) ?_ ?_
      rotate_left
      · intro wz; go_simp; try with_reducible rfl
      simp only [Act.put, List.setIfInBounds_toArray, List.set_cons_zero, List.set_cons_succ]
      refine take_yes (i := 6) (v := ?_) rfl (by kernel_rfl) (by kernel_rfl) (by kernel_rfl) (fun _ _ _ h => h) (by kernel_rfl) ?_ ?_
      rotate_left
      · intro wz; go_simp; try with_reducible rfl
      simp only [Act.put, List.setIfInBounds_toArray, List.set_cons_zero, List.set_cons_succ]
      refine wpAny_ready (rs := [7]) (by kernel_rfl) (by simp) (AllReady.cons rfl (fun K hK => ?_) AllReady.nil)
      refine step_copy_blk rfl (.tmp 27) (.tmp 31) _ _ rfl 5 Try.underlying26 byteOne (some ⟨gl, N, none⟩) (some ⟨g, i + 2, none⟩) (len - N) (cap - N) 64 64 rfl rfl gl N q cur 5 hbk.drew (cellsOf .u8 xs) HNL.out HMIN.out (fun h0 => ⟨rfl, _, rfl, fun j v hj => by rw [row_addC]; exact HSRC.out j v hj⟩) hfit (cellsOf_one _ _) ?_
      intro w3 HG3 hc3
      refine hK _ _ ?_
      clear hK K
      refine wpAny_done (by kernel_rfl) ?_ _
      go_wp2
      go_ret
      have hwl : (wrL zs N xs).length = len := by rw [wrL_length (by rw [HXL.out, HLEN.out]; have := HQ.out; omega)]; exact HLEN.out
      have hsp : (splice cur N (cellsOf .u8 xs)).take (len * 1) = cellsOf .u8 (wrL zs N xs) := by
        have e0 : splice (cellsOf .u8 zs) N (cellsOf .u8 xs) = cellsOf .u8 (wrL zs N xs) := by unfold wrL splice; simp [cellsOf]
        have q1 := HNL.out
        have q2 := HCL.out
        have q3 := HQ.out
        rw [← e0, ← HCT.out]
        unfold splice
        simp only [Nat.mul_one] at *
        rw [List.take_take, Nat.min_eq_left (by omega), List.take_append, List.length_take, Nat.min_eq_left (by omega), List.take_of_length_le (by rw [List.length_take]; omega)]
        congr 1
        rw [List.take_append, q1, List.take_of_length_le (by omega)]
        congr 1
        rw [List.drop_take]
        congr 1
        omega
      rw [HSET.out]
      refine ⟨some ⟨gl, 0, none⟩, cap, by rw [hwl]; rfl, ?_, ?_, by rw [hwl]; exact Moved.refl _ _⟩
      · rw [hwl]
        exact own_shut hbg HG3.out hnc hcm (by rw [length_splice _ _ _ (by rw [HNL.out]; exact hfit)]; exact HCL.out) hsp (by rw [cellsOf_length, hwl]; omega)
      · exact hc3.drew0.mono (fun k _ e => by subst e; rfl)
    · have HSET := Lib.hid (show setL zs n o.data = zs by
        unfold setL; rw [if_neg (by rw [hasL_natN, hlen, ← hN]; simpa using hlt)])
      have HO := Lib.hid hown
      have HLEN := Lib.hid hlen
      have n7 : ¬ (N : Int) < (len : Int) := by omega
      clear hs hown hlen hnn hd hd64 hN
      go_enter Try.func26, Try.ntmps26
      go_wp2
      go_ret
      rw [HSET.out]
      exact ⟨A, cap, by rw [HLEN.out]; rfl, by rw [HLEN.out]; exact HO.out, Chg.refl _ _, by rw [HLEN.out]; exact Moved.refl _ _⟩

end Go.Proofs.Ytdpoffedmafmhaa
