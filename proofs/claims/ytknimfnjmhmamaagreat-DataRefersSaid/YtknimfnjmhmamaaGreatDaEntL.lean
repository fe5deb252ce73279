/-
  LAYER 15: the entries that have an item, collected; the document's Words and Search.
-/
import Derived.Test.YtknimfnjmhmamaaGreatDaEnt
set_option linter.unusedVariables false
set_option maxRecDepth 100000
set_option linter.unusedSimpArgs false
namespace Go.Proofs.YtknimfnjmhmamaaGreat
open Go.RowKit Go.Shelf
attribute [local go_sem] Oper.semAt_some

set_option maxHeartbeats 8000000 in
theorem lentries_gen (p : Nat) (root : Int) (L : List Int) (w : World) (hmostL : L.length ≤ 1000000)
    (AL0 : ∀ w1 : World, Below w.heap.size w w1 → w.heap.size < w1.heap.size → Calls Tryz.prog 33 #[.pointer (some ⟨p, 0, none⟩), .int .i64 root] w1 fun e w' => e = .returned (enV w1.heap.size) ∧ Below w1.heap.size w1 w' ∧
      SeqF Fence.wide 8 Tryz.prog 63 (enBx w1.heap.size) placeE (TellsP L) (fpR w.heap.size (.slice none 0 0)) (IsL L) (PreL L) L.length w') :
    Calls Tryz.prog 12 #[.pointer (some ⟨p, 0, none⟩), .int .i64 root] w fun e w' => ∃ v, e = .returned v ∧ w'.ownsRow w.heap.size 24 1 v L.length (cellsOf .u64 L) ∧ Below w.heap.size w w' := by
  have AL := Lib.hid AL0
  have hb0 := boxed w (.cells #[.slice none 0 0] 39)
  have x0 : Boxed (w.alloc (.cells #[.slice none 0 0] 39)) w.heap.size 39 (.slice none 0 0) := Boxed.new w _ _
  have hmost := hmostL
  have X := Lib.hid (And.intro hb0 x0)
  have AX := Lib.hid (AL.out _ hb0 (by simp))
  clear hb0 x0 AL AL0
  refine (callsIn_wide (n := 9)).1 ?_
  refine callsIn_of_wp_marks Tryz.func12 rfl trivial ?_ rfl
  simp only [Tryz.ntmps12, List.size_toArray, List.length_cons, List.length_nil, Nat.reduceAdd, Nat.reduceSub, Array.replicate_succ, Array.replicate_zero, List.push_toArray, List.append_toArray, List.nil_append, List.cons_append]
  have FN := fun w f a lb => func_nil Tryz.underlying68 w f a lb
  gi_wp2_with (refine ⟨trivial, ?_⟩; gi_at_call 33; refine (callsIn_wide.2 AX.out).mono ?_; rintro e w2 ⟨rfl, hb2, hseq⟩)
  have hs2 := hb2.size
  obtain ⟨hb0, x0⟩ := X.out
  have y0 : Boxed w2 w.heap.size 39 (.slice none 0 0) := (Blk.below (t := 39) (cs := #[.slice none 0 0]) x0 hb2 (by simp))
  have hbw2 : Below w.heap.size w w2 := hb0.trans (hb2.mono hb0.size)
  have hsz : (w.alloc (.cells #[.slice none 0 0] 39)).heap.size = w.heap.size + 1 := World.size_alloc _ _
  rw [hsz] at hseq hs2
  clear X AX hb2 hb0 x0 hsz
  refine wp_range_F (F := Fence.wide) (n := 9) rfl (by omega) (gf := 63) (lb := enBx (w.heap.size + 1)) rfl trivial (enters_of Tryz.func63 (by kernel_rfl) rfl) hseq
      (fun k hk => by rcases hk with rfl | hk; · omega
                      · cases hk)
      (fun fp pre x => tellsP_own L _ fp pre x) (fun _ => rfl)
      (CollF w.heap.size w.heap.size 39 24 1 placeC w)
      (fun c pre W => False)
      (fun fq => collF_own _ _ _ _ _ _ _ _ hbw2.size (Nat.le_refl _) fq)
      (fun c => own_never)
      ⟨_, rfl, y0, World.ownsRow_nil _ _ _ _, hbw2⟩
      (fun x a' W => a' = { tmps := #[.pointer (some ⟨p, 0, none⟩), .int .i64 root, undef, undef, .slice none 0 0, .pointer (some ⟨w.heap.size, 0, none⟩), enV (w.heap.size + 1), .int .u64 x, .pointer (some ⟨p, 0, none⟩), .int .i64 root, enV (w.heap.size + 1), enV (w.heap.size + 1), .bool false, enV (w.heap.size + 1), .int .u64 x, undef, undef, undef, undef, undef], defers := [] })
      (fun x a' _ W W' row hs hg hr => hs)
      ?assign ?body ?done ?stop
  case assign =>
    intro l x W K hW hK
    dsimp only [placeE]
    gi_wp2
    exact hK _ _ (Below.refl _ _) rfl
  case body =>
    rintro l fp fq pre x W ⟨v, rfl, hv, hrow, hbW⟩ hok hfp hpl hpx - a' rfl
    obtain ⟨i0, hi, hz0, hz1, hz2⟩ := info_parts tabWordInfo
    have cv := hv.cell
    have s1 : pre.length + 1 ≤ maxLen := by unfold maxLen; omega
    have s2 : (pre.length + 1) * 8 ≤ 140737488355328 := by omega
    obtain ⟨A1, c1, rfl, -, -⟩ := own_form hrow
    have hsW := hbW.size
    gi_wp2_with (gi_at_builtin; refine wpListIn_append_at _ rfl _ _ 39 rfl w.heap.size 24 i0 (.int .u64 0) 1 8 Tryz.underlying39 hi hz0 hz1 hz2 rfl (by decide) _ _ _ rfl (hrow.alloc _) _ _ 1 1 [.int .u64 x] rfl (Reads.new1 W _ _) (fun u hu => by rw [List.mem_singleton.1 hu]; rfl) s1 s2 (by simp; omega) ?_; intro v' w1 hown' hgrow hat; obtain ⟨g', cap', rfl⟩ := ownsRow_succ hown'; obtain ⟨hv1, hv2, hr2, hg2⟩ := appendedF hv (by decide) hrow hown' hgrow hat; have hc1 := hv1.cell; have hf1 := hv1.frozen)
    refine ⟨_, ⟨_, rfl, hv2, ?_, ?_⟩, hg2⟩
    · rw [List.map_append, List.flatten_append, List.length_append]
      exact hr2
    · refine hbW.trans (hg2.1.below hbW.size (fun q _ hq => ?_))
      rcases hq with rfl | hq
      · exact Nat.le_refl _
      · exact (hrow.lt q hq).1
  case done =>
    rintro D fq xs W hD hxs ⟨v, rfl, hv, hrow, hbW⟩ hK
    have cv := hv.cell
    have hxs : xs = L := hxs
    subst hxs
    obtain ⟨A1, c1, rfl, -, -⟩ := own_form hrow
    rw [placesC_eq] at hrow
    gi_wp2
    refine ⟨by simp, .inl ⟨_, _, rfl, run_takeDeferred hK, ?_⟩⟩
    exact ⟨_, results_tmp rfl _ _ _, _, rfl, ownsRow_putObj hrow _ hK rfl, below_put1 hbW (by omega) _⟩
  case stop =>
    rintro D cc pre W hD hp hf hK
    exact hf.elim

end Go.Proofs.YtknimfnjmhmamaaGreat
