/-
  LAYER 6: WHAT Write, Sync AND Read DO, AND slices.Clone OF STEPS: contracts.
-/
import Derived.Test.YtdpoffedmafmhaaFileFn6
import Derived.Deep.RegionHeld3
set_option linter.unusedVariables false
set_option linter.unusedSimpArgs false
namespace Go.Proofs.Ytdpoffedmafmhaa
open Go.RowKit

theorem fwrite_any (p : Nat) (a : Int) (Ab : Option Addr) (m cb : Nat) (bs : List Int) (B base : Nat) (S : Nat → Prop) (s : FS) (nv sv pv : Value) (w : World) (h : CF w base S p s nv sv pv) (hr : Reads w B 1 Ab m (cellsOf .u8 bs)) (hB : B ≤ w.heap.size) (hne : ∀ ad, Ab = some ad → ¬ S ad.block) (hmc : m ≤ cb) (hcb : cb ≤ 9223372036854775807)
    (h0 : -9223372036854775808 ≤ a) (h1 : a ≤ 9223372036854775807) (hm : m ≤ 4611686018427387904) (hl : s.now.length ≤ 1048576) (ho : s.ops.length ≤ 900000) :
    Calls Try.prog 18 #[.pointer (some ⟨p, 0, none⟩), .int .i64 a, .slice Ab m cb] w fun e w' => e = .returned (.int .i64 (writeE a m)) ∧ CFT base S p (s.writeI a bs) w w' := by
  have HC := Lib.hid (CFT.same h)
  have hbm := hr.len
  by_cases hn : a < 0
  · have e1 : writeE a m = 1 := by unfold writeE; rw [if_pos (.inl hn)]
    have e2 : s.writeI a bs = s := by unfold FS.writeI; rw [if_pos (.inl hn)]
    rw [e1, e2]
    clear h e1 e2 hr hbm
    go_enter Try.func18, Try.ntmps18
    go_wp2
    go_ret
    exact ⟨rfl, HC.out⟩
  · by_cases hx : 1048576 < a + m
    · have e1 : writeE a m = 1 := by unfold writeE; rw [if_pos (.inr hx)]
      have e2 : s.writeI a bs = s := by unfold FS.writeI; rw [if_pos (.inr (by omega))]
      rw [e1, e2]
      have x1 : 1048576 - (m : Int) < a := by omega
      clear h e1 e2 hr hbm
      go_enter Try.func18, Try.ntmps18
      go_wp2
      go_ret
      exact ⟨rfl, HC.out⟩
    · obtain ⟨k, rfl⟩ : ∃ k : Nat, a = k := ⟨a.toNat, by omega⟩
      have e1 : writeE k m = 0 := by unfold writeE; rw [if_neg (by omega)]
      have e2 : s.writeI k bs = s.write k bs := by unfold FS.writeI; rw [if_neg (by omega)]; rfl
      rw [e1, e2]
      by_cases hm0 : m = 0
      · have e3 : s.write k bs = s := by unfold FS.write; rw [if_pos (List.eq_nil_of_length_eq_zero (by omega))]
        rw [e3]
        subst hm0
        have x1 : ¬ 1048576 < (k : Int) := by omega
        clear h e1 e2 e3 hr hbm
        go_enter Try.func18, Try.ntmps18
        go_wp2
        go_ret
        exact ⟨rfl, HC.out⟩
      · exact fwrite_nat p k Ab m cb bs B base S s nv sv pv w h hr hB hne hmc hcb (by omega) (by omega) hl ho

theorem fsync_nil (w : World) : Calls Try.prog 15 #[.pointer none] w fun e w' => e = .returned (.tuple #[]) ∧ w = w' := by
  go_enter Try.func15, Try.ntmps15
  go_wp2
  refine bodyPost_ret (results_none rfl _ _ _) rfl ?_
  exact ⟨rfl, rfl⟩

theorem CF.blkB {w w1 : World} {base p : Nat} {S : Nat → Prop} {s : FS} {nv sv pv : Value} (h : CF w base S p s nv sv pv) (hb : Below w.heap.size w w1) : w1.cell? ⟨p, 0, none⟩ = some nv ∧ w1.cell? ⟨p, 1, none⟩ = some sv ∧ w1.cell? ⟨p, 2, none⟩ = some pv ∧ w1.frozen? ⟨p, 1, none⟩ = false ∧ w1.frozen? ⟨p, 2, none⟩ = false := by
  have hb : Blk w1 p 50 #[nv, sv, pv] := (h.below hb).blk
  exact ⟨hb.cell 0, hb.cell 1, hb.cell 2, hb.frozen 1, hb.frozen 2⟩

set_option maxHeartbeats 1000000 in
theorem fsync_any (p : Nat) (base : Nat) (S : Nat → Prop) (s : FS) (nv sv pv : Value) (w : World) (h : CF w base S p s nv sv pv) (hl : s.now.length ≤ 1048576) :
    Calls Try.prog 15 #[.pointer (some ⟨p, 0, none⟩)] w fun e w' => e = .returned (.tuple #[]) ∧ CFT base S p s.sync w w' := by
  obtain ⟨A, c, rfl, hc1, hc2⟩ := own_form h.now
  obtain ⟨d0, -⟩ := h.blkB (Below.refl _ _)
  obtain ⟨m, hm⟩ : ∃ m, m = s.now.length := ⟨_, rfl⟩
  rw [← hm] at d0 hl h
  have H := Lib.hid h
  have CL := Lib.hid (clone_any A m c s.now w.heap.size w (h.nowR hm).1 (Nat.le_refl _) (by omega))
  have HM := Lib.hid hm
  clear h hm hc1
  go_enter Try.func15, Try.ntmps15
  go_wp2_with (go_at_call 25; go_loud (refine CL.out.mono ?_; rintro e w1 ⟨A1, c1, rfl, hown1, hb1⟩; rw [← HM.out] at hown1 ⊢; obtain ⟨e0, e1, e2, f1, f2⟩ := H.out.blkB hb1; have HO := Lib.hid hown1; clear hown1))
  go_end0
  refine ⟨rfl, CFT.of ?_ (H.out.setSync (HM.out ▸ HO.out) hb1) (fun k hk => hk.imp id (fun x => x.1)) H.out.foot H.out.bas⟩
  exact ((Chg.of_below hb1 (Nat.le_refl _) S).setCell (.inr H.out.inp) _).setCell (.inr H.out.inp) _

theorem stepsC_one' (ops : List OpV) : ∀ u ∈ stepsC ops, u.oneCell' = true := fun u hu => by
  unfold stepsC at hu
  obtain ⟨l, hl, hu⟩ := List.mem_flatten.1 hu
  obtain ⟨o, _, rfl⟩ := List.mem_map.1 hl
  exact stepC_oneCell o u hu

/-- slices.Clone of steps. -/
theorem clone66_any (A : Option Addr) (len cap : Nat) (ops : List OpV) (B : Nat) (w : World) (hr : Reads w B 66 A len (stepsC ops)) (hB : B ≤ w.heap.size) (hn : len ≤ 1000000) :
    Calls Try.prog 28 #[.slice A len cap] w fun e w' => ∃ A' c', e = .returned (.slice A' len c') ∧ w'.ownsRow w.heap.size 57 66 (.slice A' len c') len (stepsC ops) ∧ Below w.heap.size w w' := by
  obtain ⟨i0, hi, hz0, hz1, hz2⟩ := info_parts stepInfo
  have hlen := hr.1
  cases A with
  | none =>
    obtain rfl := reads_nil hr
    have hz : stepsC ops = [] := List.eq_nil_of_length_eq_zero (by simpa using hlen)
    have hq := fun w1 : World => Lib.run_eql_slice_nil (P := Try.prog) w1 48 57 none 0 cap 0 0 Try.underlying48
    have HZ := Lib.hid hz
    clear hr hz hlen
    go_enter Try.func28, Try.ntmps28
    go_wp2
    go_ret
    exact ⟨none, 0, rfl, by rw [HZ.out]; exact World.ownsRow_nil _ _ _ _, Below.refl _ _⟩
  | some ad =>
    have h2 : 0 + len ≤ maxLen := by unfold maxLen; omega
    have h3 : (0 + len) * 80 ≤ 140737488355328 := by omega
    have HR := Lib.hid hr
    have hq := fun w1 : World => Lib.run_eql_slice_nil (P := Try.prog) w1 48 57 (some ad) len cap 0 0 Try.underlying48
    clear hr hlen
    go_enter Try.func28, Try.ntmps28
    go_wp2_with (at_builtin; go_loud (refine wpList_append_any _ rfl _ _ _ rfl w.heap.size 57 i0 _ 66 80 Try.underlying48 hi hz0 hz1 hz2 (stepA_size false 0) (Nat.zero_lt_succ 65) _ 0 [] rfl (World.ownsRow_lit w #[] 0 (Nat.le_refl _) (Nat.zero_le _) rfl) B (some ad) len cap (stepsC ops) rfl (HR.out.alloc hB _) (stepsC_one' _) h2 h3 (by simp) ?_; intro v1 w1 hown1 hg1 hat1; rw [Nat.zero_add, List.nil_append] at hown1; obtain ⟨A1, c1, rfl, hc1, hc2⟩ := own_form hown1; have hb1 := below_lit hg1; clear hg1 hat1))
    go_ret
    exact ⟨A1, c1, rfl, hown1, hb1⟩

end Go.Proofs.Ytdpoffedmafmhaa
