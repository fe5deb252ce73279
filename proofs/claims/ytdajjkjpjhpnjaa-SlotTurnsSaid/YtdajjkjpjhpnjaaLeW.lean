/-
  WHAT A Writer OF PACKAGE le DOES: contracts of Num, Words, Raw, Pad, Len, Done, and of bytes.Clone.
-/
import Derived.Test.YtdajjkjpjhpnjaaLeByt
import Derived.Test.YtdajjkjpjhpnjaaRegion
import Derived.Test.YtdajjkjpjhpnjaaChg
import Derived.Test.YtdajjkjpjhpnjaaZeros
import Derived.WalkSpells
set_option linter.unusedVariables false
set_option maxRecDepth 100000
set_option linter.unusedSimpArgs false
namespace Go.Proofs.Ytdajjkjpjhpnjaa
open Go.RowKit

/-- Block g is a writer, whose bytes are zs: the slice v, in a row of its own. -/
structure Wr (w : World) (g : Nat) (v : Value) (zs : List Int) : Prop where
  blk : Blk w g 45 #[v]
  own : w.ownsRow 0 5 1 v zs.length (cellsOf .u8 zs)

/-- What a writer's method leaves: these bytes; nothing else changed but the writer and its row. -/
def WrPost (w : World) (g : Nat) (v : Value) (zs' : List Int) (w' : World) : Prop :=
  ∃ v', Wr w' g v' zs' ∧ Chg (fun k => k = g ∨ v.ownBlock = some k) w w' ∧ Moved w v v'

theorem Wr.ne {w : World} {g : Nat} {v : Value} {zs : List Int} (h : Wr w g v zs) : v.ownBlock ≠ some g := own_blk_ne h.own h.blk (by decide)
theorem Wr.cell {w : World} {g : Nat} {v : Value} {zs : List Int} (h : Wr w g v zs) : w.cell? ⟨g, 0, none⟩ = some v := h.blk.cell 0
theorem Wr.fr {w : World} {g : Nat} {v : Value} {zs : List Int} (h : Wr w g v zs) : w.frozen? ⟨g, 0, none⟩ = false := h.blk.frozen 0
theorem Wr.chg {S : Nat → Prop} {w w' : World} {g : Nat} {v : Value} {zs : List Int} (h : Wr w g v zs) (hc : Chg S w w') (hg : ¬ S g) (hv : ∀ k, v.ownBlock = some k → ¬ S k) : Wr w' g v zs :=
  ⟨h.blk.chg hc hg, own_chg h.own hc hv⟩

/-- The end of a method: the row has grown (w1 to w2), its slice is stored. -/
theorem wr_end {w w1 w2 : World} {g : Nat} {v v2 : Value} {zs zs' : List Int} (h : Wr w g v zs) (h1 : Below w.heap.size w w1) (hg2 : w1.grownBy w2 v.ownBlock) (hown : w2.ownsRow 0 5 1 v2 zs'.length (cellsOf .u8 zs'))
    (hat : v2.ownBlock = v.ownBlock ∨ v2.ownBlock = some w1.heap.size) : WrPost w g v zs' (w2.setCell ⟨g, 0, none⟩ v2) := by
  have hgl := h.blk.lt
  have hne := h.ne
  have b1 : Blk w1 g 45 #[v] := h.blk.below h1 hgl
  have b2 : Blk w2 g 45 #[v] := b1.grown hg2 (fun e => hne e.symm)
  have hs := h1.size
  refine ⟨v2, ⟨?_, ?_⟩, ?_, ?_⟩
  · have := b2.set_ 0 v2
    simpa using this
  · refine own_chg hown (S := fun k => k = g) ((Chg.refl (fun k => k = g) _).setCell (p := ⟨g, 0, none⟩) (.inr rfl) _) (fun k hk e => ?_)
    subst e
    rcases hat with e | e <;> rw [e] at hk
    · exact hne hk
    · injection hk with hk; omega
  · refine ((Chg.of_below h1 (Nat.le_refl _) (fun k => k = g ∨ v.ownBlock = some k)).trans (Chg.of_grown hg2) (fun k _ hk => .inr hk)).setCell (.inr (.inl rfl)) _
  · rcases hat with e | e
    · exact .inl e
    · exact .inr ⟨_, e, hs⟩

theorem below_drewN' {B : Nat} {a w : World} (h : Below B a w) (n : Nat) : Below B a (w.drewN n) := ⟨h.os, h.tape, h.output, h.size, h.block⟩

/-- append([]byte{}, b...): a copy. -/
theorem clone_any {B : Nat} (A : Option Addr) (n c : Nat) (zs : List Int) (w : World) (hr : Reads w B 1 A n (cellsOf .u8 zs)) (hB : B ≤ w.heap.size) (hn : n ≤ 140737488355328) :
    Calls Try.prog 36 #[.slice A n c] w fun e w' => ∃ A' c', e = .returned (.slice A' n c') ∧ w'.ownsRow w.heap.size 5 1 (.slice A' n c') n (cellsOf .u8 zs) ∧ Below w.heap.size w w' ∧ n ≤ c' ∧ c' ≤ maxLen := by
  obtain ⟨i0, hi, hz0, hz1, hz2⟩ := info_parts byteInfo
  have hnil := Lib.run_eql_slice_nil (P := Try.prog) w 26 5 A n c 0 0 Try.underlying26
  rcases A with _ | ad
  · have hn0 : n = 0 := by
      rcases Nat.eq_zero_or_pos n with h | h
      · exact h
      · obtain ⟨ad, e, _⟩ := hr.2 h
        cases e
    subst hn0
    have hz : zs = [] := List.eq_nil_of_length_eq_zero hr.len
    subst hz
    go_enter Try.func36, Try.ntmps36
    go_wp2
    go_ret
    exact ⟨none, 0, rfl, World.ownsRow_nil _ _ _ _, Below.refl _ _, Nat.le_refl _, by unfold maxLen; omega⟩
  · go_enter Try.func36, Try.ntmps36
    have hown0 : (w.alloc (.cells #[] 5)).ownsRow w.heap.size 5 1 (.slice (some ⟨w.heap.size, 0, none⟩) 0 0) 0 [] := World.ownsRow_made w #[] 0 (Nat.le_refl _) (Nat.zero_le _) rfl
    have hr0 := hr.alloc hB (.cells #[] 5)
    have s2 : 0 + n ≤ maxLen := by unfold maxLen; omega
    have s3 : (0 + n) * 1 ≤ 140737488355328 := by omega
    have s4 : w.heap.size ≤ (w.alloc (.cells #[] 5)).heap.size := by simp
    go_wp2_with (at_builtin; refine wpList_append_any _ rfl _ _ _ rfl w.heap.size 5 i0 (.int .u8 0) 1 1 Try.underlying26 hi hz0 hz1 hz2 rfl (Nat.lt_succ_self 0) (.slice (some ⟨w.heap.size, 0, none⟩) 0 0) 0 [] rfl hown0 B (some ad) n c (cellsOf .u8 zs) rfl hr0 (cellsOf_one _ _) s2 s3 s4 ?_; intro v1 w1 hown1 hg1 hat1)
    rw [Nat.zero_add, List.nil_append] at hown1
    obtain ⟨A1, c1, rfl, hc1, hc2⟩ := own_form hown1
    go_ret
    exact ⟨A1, c1, rfl, hown1, ((Below.refl _ _).alloc (Nat.le_refl _) _).grown hg1 s4 (fun k hk => by simp [Value.ownBlock] at hk; omega), hc1, hc2⟩

theorem wdone_any (g : Nat) (v : Value) (zs : List Int) (w : World) (h : Wr w g v zs) (hn : zs.length ≤ 140737488355328) :
    Calls Try.prog 23 #[.pointer (some ⟨g, 0, none⟩)] w fun e w' => ∃ A' c', e = .returned (.slice A' zs.length c') ∧ w'.ownsRow w.heap.size 5 1 (.slice A' zs.length c') zs.length (cellsOf .u8 zs) ∧ Below w.heap.size w w' ∧ zs.length ≤ c' ∧ c' ≤ maxLen := by
  have hcell := h.cell
  obtain ⟨A0, c0, rfl, _, _⟩ := own_form h.own
  have hr := Reads.of_own h.own
  go_enter Try.func23, Try.ntmps23
  go_wp2_with (go_at_call 36; refine (clone_any A0 zs.length c0 zs w hr (Nat.le_refl _) hn).mono ?_; rintro e w1 ⟨A1, c1, rfl, hown1, hb1, hl1, hl2⟩)
  go_ret
  exact ⟨A1, c1, rfl, hown1, hb1, hl1, hl2⟩

/-- Num's end, behind both orders. -/
theorem num_end {w w1 w2 : World} {g : Nat} {v v2 : Value} {zs ys : List Int} {n : Nat} (h : Wr w g v zs) (h1 : Below w.heap.size w w1) (hg2 : w1.grownBy w2 v.ownBlock) (hn : n = ys.length) (hown : w2.ownsRow 0 5 1 v2 (zs.length + n) (cellsOf .u8 zs ++ cellsOf .u8 ys))
    (hat : v2.ownBlock = v.ownBlock ∨ v2.ownBlock = some w1.heap.size) : WrPost w g v (zs ++ ys) (w2.setCell ⟨g, 0, none⟩ v2) := by
  subst hn
  exact wr_end h h1 hg2 (by rw [cellsOf_append, List.length_append]; exact hown) hat

set_option maxHeartbeats 1000000 in
theorem num_any (g : Nat) (v : Value) (zs : List Int) (n k : Int) (w : World) (h : Wr w g v zs) (hn : zs.length ≤ 100000000000) :
    Calls Try.prog 21 #[.pointer (some ⟨g, 0, none⟩), .int .u64 n, .int .i64 k] w fun e w' => e = .returned (.tuple #[]) ∧ WrPost w g v (zs ++ bts n k) w' := by
  obtain ⟨i0, hi, hz0, hz1, hz2⟩ := info_parts byteInfo
  have hcell := h.cell
  have hfr := h.fr
  have hown := h.own
  have hgl := h.blk.lt
  have hbl := bts_le n k
  obtain ⟨A0, c0, rfl, _, _⟩ := own_form hown
  have s2 : zs.length + (bts n k).length ≤ maxLen := by unfold maxLen; omega
  have s3 : (zs.length + (bts n k).length) * 1 ≤ 140737488355328 := by omega
  go_enter Try.func21, Try.ntmps21
  go_wp2_with fail
  refine wp_region_any (by kernel_rfl) ?_
  try (change wpAny _ _ _ _ _ _ _ (World.drew _))
  refine take_yes (i := 0) (v := ?_) rfl (by kernel_rfl) (by kernel_rfl) (by kernel_rfl) (fun _ _ _ h => h) (by kernel_rfl) ?_ ?_
  rotate_left
  · intro wz; go_simp; try with_reducible rfl
  simp only [Act.put, List.setIfInBounds_toArray, List.set_cons_zero, List.set_cons_succ]
  refine take_yes (i := 1) (v := ?_) rfl (by kernel_rfl) (by kernel_rfl) (by kernel_rfl) (fun _ _ _ h => h) (by kernel_rfl) ?_ ?_
  rotate_left
  · intro wz; go_simp; try with_reducible rfl
  simp only [Act.put, List.setIfInBounds_toArray, List.set_cons_zero, List.set_cons_succ]
  refine take_yes (i := 2) (v := ?_) rfl (by kernel_rfl) (by kernel_rfl) (by kernel_rfl) (fun _ _ _ h => h) (by kernel_rfl) ?_ ?_
  rotate_left
  · intro wz; go_simp; try with_reducible rfl
  simp only [Act.put, List.setIfInBounds_toArray, List.set_cons_zero, List.set_cons_succ]
  refine take_yes (i := 3) (v := ?_) rfl (by kernel_rfl) (by kernel_rfl) (by kernel_rfl) (fun _ _ _ h => h) (by kernel_rfl) ?_ ?_
  rotate_left
  · intro wz; go_simp; try with_reducible rfl
  simp only [Act.put, List.setIfInBounds_toArray, List.set_cons_zero, List.set_cons_succ]
  refine take_yes (i := 5) (v := ?_) rfl (by kernel_rfl) (by kernel_rfl) (by kernel_rfl) (fun _ _ _ h => h) (by kernel_rfl) ?_ ?_
  rotate_left
  · intro wz; go_simp; try with_reducible rfl
  simp only [Act.put, List.setIfInBounds_toArray, List.set_cons_zero, List.set_cons_succ]
  refine take_yes (i := 6) (v := ?_) rfl (by kernel_rfl) (by kernel_rfl) (by kernel_rfl) (fun _ _ _ h => h) (by kernel_rfl) ?_ ?_
  rotate_left
  · intro wz; go_simp; try with_reducible rfl
  simp only [Act.put, List.setIfInBounds_toArray, List.set_cons_zero, List.set_cons_succ]
  refine wpAny_ready (rs := [4, 7]) (by kernel_rfl) (by simp) (AllReady.cons rfl (fun K hK => ?_) (AllReady.cons rfl (fun K hK => ?_) AllReady.nil))
  · go_simp
    refine hK _ _ ?_
    clear hK K
    refine wpAny_ready (rs := [7]) (by kernel_rfl) (by simp) (AllReady.cons rfl (fun K hK => ?_) AllReady.nil)
    go_simp
    go_wp2_with (go_at_call 34; refine (bytes_any _ _ _).mono ?_; rintro e w1 ⟨A1, c1, rfl, hown1, hb1⟩; have hR1 := Reads.of_own hown1; have hb : Below w.heap.size w w1 := below_drew0 (w := w) hb1; have hownW := own_chg hown (Chg.of_below hb (Nat.le_refl _) (fun _ => False)) (fun _ _ h => h))
    refine wpAny_ready (rs := [8]) (by kernel_rfl) (by simp) (AllReady.cons rfl (fun K hK => ?_) AllReady.nil)
    refine step_append_any _ rfl _ _ _ rfl 0 5 i0 (.int .u8 0) 1 1 Try.underlying26 hi hz0 hz1 hz2 rfl (Nat.lt_succ_self 0) (.slice A0 zs.length c0) zs.length (cellsOf .u8 zs) rfl hownW w1.heap.size A1 (bts n k).length c1 (cellsOf .u8 (bts n k)) rfl hR1 (cellsOf_one _ _) s2 s3 (Nat.zero_le _) ?_
    intro v2 w2 hown2 hg2 hat2
    refine hK _ _ ?_
    clear hK K
    simp only [Act.put, List.setIfInBounds_toArray, List.set_cons_zero, List.set_cons_succ]
    have b2 : Blk w2 g 45 #[.slice A0 zs.length c0] := (h.blk.below hb hgl).grown hg2 (fun e => h.ne e.symm)
    have hc2 : w2.cell? ⟨g, 0, none⟩ = some (.slice A0 zs.length c0) := b2.cell 0
    have hf2 : w2.frozen? ⟨g, 0, none⟩ = false := b2.frozen 0
    obtain ⟨A2, c2, rfl, _, _⟩ := own_form hown2
    refine take_yes (i := 9) (v := ?_) rfl (by kernel_rfl) (by kernel_rfl) (by kernel_rfl) (fun _ _ _ h => h) (by kernel_rfl) ?_ ?_
    rotate_left
    · intro wz; go_simp; try with_reducible rfl
    simp only [Act.put, List.setIfInBounds_toArray, List.set_cons_zero, List.set_cons_succ]
    refine take_yes (i := 10) (v := ?_) rfl (by kernel_rfl) (by kernel_rfl) (by kernel_rfl) (fun _ _ _ h => h) (by kernel_rfl) ?_ ?_
    rotate_left
    · intro wz; go_simp; try with_reducible rfl
    simp only [Act.put, List.setIfInBounds_toArray, List.set_cons_zero, List.set_cons_succ]
    refine wpAny_ready (rs := [11]) (by kernel_rfl) (by simp) (AllReady.cons rfl (fun K hK => ?_) AllReady.nil)
    go_simp
    refine hK _ _ ?_
    clear hK K
    refine wpAny_done (by kernel_rfl) ?_ _
    go_wp2
    go_end0
    exact ⟨rfl, num_end h hb hg2 rfl hown2 hat2⟩
  · go_simp
    go_wp2_with (go_at_call 34; refine (bytes_any _ _ _).mono ?_; rintro e w1 ⟨A1, c1, rfl, hown1, hb1⟩; have hR1 := Reads.of_own hown1; have hb : Below w.heap.size w w1 := below_drew0 (w := w) hb1; have hownW := own_chg hown (Chg.of_below hb (Nat.le_refl _) (fun _ => False)) (fun _ _ h => h); have hc1 : w1.cell? ⟨g, 0, none⟩ = some (.slice A0 zs.length c0) := (h.blk.below hb hgl).cell 0)
    refine wpAny_ready (rs := [4]) (by kernel_rfl) (by simp) (AllReady.cons rfl (fun K hK => ?_) AllReady.nil)
    go_simp
    refine hK _ _ ?_
    clear hK K
    refine wpAny_ready (rs := [8]) (by kernel_rfl) (by simp) (AllReady.cons rfl (fun K hK => ?_) AllReady.nil)
    refine step_append_any _ rfl _ _ _ rfl 0 5 i0 (.int .u8 0) 1 1 Try.underlying26 hi hz0 hz1 hz2 rfl (Nat.lt_succ_self 0) (.slice A0 zs.length c0) zs.length (cellsOf .u8 zs) rfl hownW w1.heap.size A1 (bts n k).length c1 (cellsOf .u8 (bts n k)) rfl hR1 (cellsOf_one _ _) s2 s3 (Nat.zero_le _) ?_
    intro v2 w2 hown2 hg2 hat2
    refine hK _ _ ?_
    clear hK K
    simp only [Act.put, List.setIfInBounds_toArray, List.set_cons_zero, List.set_cons_succ]
    have b2 : Blk w2 g 45 #[.slice A0 zs.length c0] := (h.blk.below hb hgl).grown hg2 (fun e => h.ne e.symm)
    have hc2 : w2.cell? ⟨g, 0, none⟩ = some (.slice A0 zs.length c0) := b2.cell 0
    have hf2 : w2.frozen? ⟨g, 0, none⟩ = false := b2.frozen 0
    obtain ⟨A2, c2, rfl, _, _⟩ := own_form hown2
    refine take_yes (i := 9) (v := ?_) rfl (by kernel_rfl) (by kernel_rfl) (by kernel_rfl) (fun _ _ _ h => h) (by kernel_rfl) ?_ ?_
    rotate_left
    · intro wz; go_simp; try with_reducible rfl
    simp only [Act.put, List.setIfInBounds_toArray, List.set_cons_zero, List.set_cons_succ]
    refine take_yes (i := 10) (v := ?_) rfl (by kernel_rfl) (by kernel_rfl) (by kernel_rfl) (fun _ _ _ h => h) (by kernel_rfl) ?_ ?_
    rotate_left
    · intro wz; go_simp; try with_reducible rfl
    simp only [Act.put, List.setIfInBounds_toArray, List.set_cons_zero, List.set_cons_succ]
    refine wpAny_ready (rs := [11]) (by kernel_rfl) (by simp) (AllReady.cons rfl (fun K hK => ?_) AllReady.nil)
    go_simp
    refine hK _ _ ?_
    clear hK K
    refine wpAny_done (by kernel_rfl) ?_ _
    go_wp2
    go_end0
    exact ⟨rfl, num_end h hb hg2 rfl hown2 hat2⟩

end Go.Proofs.Ytdajjkjpjhpnjaa
