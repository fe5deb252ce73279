/-
  LAYER 14: WHAT sizes AND all OF THE STATEMENTS DO.
-/
import Derived.Test.YtblpmnipapimcaaChSearch
set_option linter.unusedVariables false
set_option maxRecDepth 100000
set_option linter.unusedSimpArgs false
namespace Go.Proofs.Ytblpmnipapimcaa
open Go.RowKit Go.Shelf
attribute [local go_sem] Oper.semAt_some

/-- What Arrays' iterator is, and tells. -/
theorem arrays_at {w : World} {base p : Nat} {S : Nat → Prop} {root : Int} {its : List It} {L : List Int} (h : ListAt w base p S root its L) (n : Nat) (hn : 1 ≤ n) (fp₀ : Nat → Prop) (hS : ∀ j, S j → ¬ fp₀ j) (hfp : ∀ j, fp₀ j → j < w.heap.size) :
    Calls Try.prog 26 #[.pointer (some ⟨p, 0, none⟩), .int .i64 root] w fun e w' => e = .returned (flV w.heap.size) ∧ Below w.heap.size w w' ∧
      SeqF Fence.wide n Try.prog 71 #[.pointer (some ⟨w.heap.size + 3, 0, none⟩), .pointer (some ⟨w.heap.size + 2, 0, none⟩), .pointer (some ⟨w.heap.size + 1, 0, none⟩), .pointer (some ⟨w.heap.size, 0, none⟩)] (Ob.encs 4) (TellsF its) fp₀ (fun xs => xs.map (·.t) = its) (fun pre => ∃ rest, pre.map (·.t) ++ rest = its) its.length w' := by
  obtain ⟨⟨i, k, d, f, h', m, bv, sv, H, hb, hl, hd, hf, hU, hch⟩, r2, r3, r4, r5, r6⟩ := h
  refine (carrays_any root w H hb r2 r3).mono ?_
  rintro e w' ⟨rfl, hbl, hfl⟩
  have hs := hbl.size
  have hlo := hfl.lo
  refine ⟨rfl, hbl, ?_⟩
  have hnf : ∀ j, w.heap.size ≤ j → ¬ fp₀ j := fun j hj e => by have := hfp j e; omega
  exact follow_F n hn fp₀ (w.heap.size + 3) (w.heap.size + 2) (w.heap.size + 1) w.heap.size 4 0 (m.word root) its w' (H.below hbl) hb hl hd hf (fun j hj => ⟨by have := (H.foot j hj).2; omega, hS j hj⟩) (by omega) ⟨hnf _ (by omega), hnf _ (by omega), hnf _ (by omega), hnf _ (by omega)⟩ hfl.cw hfl.ck hfl.cp hfl.cm (by decide) hU hch
/-- What All's iterator is, and tells. -/
theorem all_at {w : World} {base p : Nat} {S : Nat → Prop} {root : Int} {its : List It} {L : List Int} (h : ListAt w base p S root its L) (n : Nat) (hn : 3 ≤ n) (fp₀ : Nat → Prop) (hS : ∀ j, S j → ¬ fp₀ j) (hfp : ∀ j, fp₀ j → j < w.heap.size) :
    Calls Try.prog 33 #[.pointer (some ⟨p, 0, none⟩), .int .i64 root] w fun e w' => e = .returned (alV w.heap.size) ∧ Below w.heap.size w w' ∧
      SeqF Fence.wide n Try.prog 53 (rwB w.heap.size) placeE (TellsP L) fp₀ (IsL L) (PreL L) L.length w' := by
  obtain ⟨⟨i, k, d, f, h', m, bv, sv, H, hb, hl, hd, hf, hU, hch⟩, r2, r3, r4, r5, r6⟩ := h
  refine (call_any p root w).mono ?_
  rintro e w' ⟨rfl, hbl, hfl⟩
  have hs := hbl.size
  have hlo := hfl.lo
  refine ⟨rfl, hbl, ?_⟩
  have hnf : ∀ j, w.heap.size ≤ j → ¬ fp₀ j := fun j hj e => by have := hfp j e; omega
  exact all_F n hn fp₀ w.heap.size root its w' (H.below hbl) hb hl hd hf (fun j hj => ⟨by have := (H.foot j hj).2; omega, hS j hj⟩) hfl ⟨hnf _ (by omega), hnf _ (by omega)⟩ r2 r3 r4 hU hch L r5

theorem intInfo14 : (Try.prog.info? 3).map (fun i => (i.zero, i.size, i.bytes)) = some (some (.int .i64 0), 1, 8) := by kernel_rfl

section
variable {base p : Nat} {S : Nat → Prop} {root : Int} {its : List It} {L : List Int}

def lenC (x : Ob) : List Value := [.int .i64 x.t.is.length]
def placeC (x : Int) : List Value := [.int .u64 x]
theorem placesC_eq (L : List Int) : (L.map placeC).flatten = cellsOf .u64 L := by
  induction L with
  | nil => rfl
  | cons x L ih => rw [List.map_cons, List.flatten_cons, ih]; rfl

set_option maxHeartbeats 8000000 in
theorem all_any (w : World) (h : ListAt w base p S root its L) :
    Calls Try.prog 13 #[.pointer (some ⟨p, 0, none⟩), .int .i64 root] w fun e w' => ∃ v, e = .returned v ∧ w'.ownsRow w.heap.size 36 1 v L.length (cellsOf .u64 L) ∧ Below w.heap.size w w' := by
  have AL : Hid (∀ w1 : World, Below w.heap.size w w1 → w.heap.size < w1.heap.size → Calls Try.prog 33 #[.pointer (some ⟨p, 0, none⟩), .int .i64 root] w1 fun e w' => e = .returned (alV w1.heap.size) ∧ Below w1.heap.size w1 w' ∧
      SeqF Fence.wide 8 Try.prog 53 (rwB w1.heap.size) placeE (TellsP L) (fpR w.heap.size (.slice none 0 0)) (IsL L) (PreL L) L.length w') := Lib.hid (fun w1 hb hs => all_at (h.below hb) 8 (by omega) _ (fun j hj e => by
        have := (h.foot j hj).2
        rcases e with e | e
        · omega
        · cases e) (fun j e => by
        rcases e with e | e
        · omega
        · cases e))
  have hb0 := boxed w (.cells #[.slice none 0 0] 22)
  have x0 : Boxed (w.alloc (.cells #[.slice none 0 0] 22)) w.heap.size 22 (.slice none 0 0) := Boxed.new w _ _
  have hmost := h.most
  have X := Lib.hid (And.intro hb0 x0)
  have AX := Lib.hid (AL.out _ hb0 (by simp))
  clear hb0 x0 AL
  refine (callsIn_wide (n := 9)).1 ?_
  refine callsIn_of_wp_marks Try.func13 rfl trivial ?_ rfl
  simp only [Try.ntmps13, List.size_toArray, List.length_cons, List.length_nil, Nat.reduceAdd, Nat.reduceSub, Array.replicate_succ, Array.replicate_zero, List.push_toArray, List.append_toArray, List.nil_append, List.cons_append]
  have FN := fun w f a lb => func_nil Try.underlying72 w f a lb
  gi_wp2_with (refine ⟨trivial, ?_⟩; gi_at_call 33; refine (callsIn_wide.2 AX.out).mono ?_; rintro e w2 ⟨rfl, hb2, hseq⟩)
  have hs2 := hb2.size
  obtain ⟨hb0, x0⟩ := X.out
  have y0 : Boxed w2 w.heap.size 22 (.slice none 0 0) := (Blk.below (t := 22) (cs := #[.slice none 0 0]) x0 hb2 (by simp))
  have hbw2 : Below w.heap.size w w2 := hb0.trans (hb2.mono hb0.size)
  have hsz : (w.alloc (.cells #[.slice none 0 0] 22)).heap.size = w.heap.size + 1 := World.size_alloc _ _
  rw [hsz] at hseq hs2
  clear X AX hb2 hb0 x0 hsz
  refine wp_range_F (F := Fence.wide) (n := 9) rfl (by omega) (gf := 53) (lb := rwB (w.heap.size + 1)) rfl trivial (enters_of Try.func53 (by kernel_rfl) rfl) hseq
      (fun k hk => by rcases hk with rfl | hk; · omega
                      · cases hk)
      (fun fp pre x => tellsP_own L _ fp pre x) (fun _ => rfl)
      (CollF w.heap.size w.heap.size 22 36 1 placeC w)
      (fun c pre W => False)
      (fun fq => collF_own _ _ _ _ _ _ _ _ hbw2.size (Nat.le_refl _) fq)
      (fun c => own_never)
      ⟨_, rfl, y0, World.ownsRow_nil _ _ _ _, hbw2⟩
      (fun x a' W => a' = { tmps := #[.pointer (some ⟨p, 0, none⟩), .int .i64 root, undef, undef, .slice none 0 0, .pointer (some ⟨w.heap.size, 0, none⟩), alV (w.heap.size + 1), .int .u64 x, .pointer (some ⟨p, 0, none⟩), .int .i64 root, alV (w.heap.size + 1), alV (w.heap.size + 1), .bool false, alV (w.heap.size + 1), .int .u64 x, undef, undef, undef, undef, undef], defers := [] })
      (fun x a' _ W W' row hs hg hr => hs)
      ?assign ?body ?done ?stop
  case assign =>
    intro l x W K hW hK
    dsimp only [placeE]
    gi_wp2
    exact hK _ _ (Below.refl _ _) rfl
  case body =>
    rintro l fp fq pre x W ⟨v, rfl, hv, hrow, hbW⟩ hok hfp hpl hpx - a' rfl
    obtain ⟨i0, hi, hz0, hz1, hz2⟩ := info_parts tabWordInfo
    have cv := hv.cell
    have s1 : pre.length + 1 ≤ maxLen := by unfold maxLen; omega
    have s2 : (pre.length + 1) * 8 ≤ 140737488355328 := by omega
    obtain ⟨A1, c1, rfl, -, -⟩ := own_form hrow
    have hsW := hbW.size
    gi_wp2_with (gi_at_builtin; refine wpListIn_append_at _ rfl _ _ 22 rfl w.heap.size 36 i0 (.int .u64 0) 1 8 Try.underlying22 hi hz0 hz1 hz2 rfl (by decide) _ _ _ rfl (hrow.alloc _) _ _ 1 1 [.int .u64 x] rfl (Reads.new1 W _ _) (fun u hu => by rw [List.mem_singleton.1 hu]; rfl) s1 s2 (by simp; omega) ?_; intro v' w1 hown' hgrow hat; obtain ⟨g', cap', rfl⟩ := ownsRow_succ hown'; obtain ⟨hv1, hv2, hr2, hg2⟩ := appendedF hv (by decide) hrow hown' hgrow hat; have hc1 := hv1.cell; have hf1 := hv1.frozen)
    refine ⟨_, ⟨_, rfl, hv2, ?_, ?_⟩, hg2⟩
    · rw [List.map_append, List.flatten_append, List.length_append]
      exact hr2
    · refine hbW.trans (hg2.1.below hbW.size (fun q _ hq => ?_))
      rcases hq with rfl | hq
      · exact Nat.le_refl _
      · exact (hrow.lt q hq).1
  case done =>
    rintro D fq xs W hD hxs ⟨v, rfl, hv, hrow, hbW⟩ hK
    have cv := hv.cell
    have hxs : xs = L := hxs
    subst hxs
    obtain ⟨A1, c1, rfl, -, -⟩ := own_form hrow
    rw [placesC_eq] at hrow
    gi_wp2
    refine ⟨by simp, .inl ⟨_, _, rfl, run_takeDeferred hK, ?_⟩⟩
    exact ⟨_, results_tmp rfl _ _ _, _, rfl, ownsRow_putObj hrow _ hK rfl, below_put1 hbW (by omega) _⟩
  case stop =>
    rintro D cc pre W hD hp hf hK
    exact hf.elim

theorem lensC_eq : ∀ (xs : List Ob), (xs.map lenC).flatten = cellsOf .i64 (xs.map fun x => (x.t.is.length : Int))
  | [] => rfl
  | x :: xs => by rw [List.map_cons, List.flatten_cons, lensC_eq xs]; rfl

set_option maxHeartbeats 8000000 in
theorem sizes_any (w : World) (h : ListAt w base p S root its L) :
    Calls Try.prog 11 #[.pointer (some ⟨p, 0, none⟩), .int .i64 root] w fun e w' => ∃ v, e = .returned v ∧ w'.ownsRow w.heap.size 3 1 v its.length (cellsOf .i64 (its.map fun t => (t.is.length : Int))) ∧ Below w.heap.size w w' := by
  have AL : Hid (∀ w1 : World, Below w.heap.size w w1 → w.heap.size < w1.heap.size → Calls Try.prog 26 #[.pointer (some ⟨p, 0, none⟩), .int .i64 root] w1 fun e w' => e = .returned (flV w1.heap.size) ∧ Below w1.heap.size w1 w' ∧
      SeqF Fence.wide 8 Try.prog 71 #[.pointer (some ⟨w1.heap.size + 3, 0, none⟩), .pointer (some ⟨w1.heap.size + 2, 0, none⟩), .pointer (some ⟨w1.heap.size + 1, 0, none⟩), .pointer (some ⟨w1.heap.size, 0, none⟩)] (Ob.encs 4) (TellsF its) (fpR w.heap.size (.slice none 0 0)) (fun xs => xs.map (·.t) = its) (fun pre => ∃ rest, pre.map (·.t) ++ rest = its) its.length w') := Lib.hid (fun w1 hb hs => arrays_at (h.below hb) 8 (by omega) _ (fun j hj e => by
        have := (h.foot j hj).2
        rcases e with e | e
        · omega
        · cases e) (fun j e => by
        rcases e with e | e
        · omega
        · cases e))
  have hb0 := boxed w (.cells #[.slice none 0 0] 28)
  have x0 : Boxed (w.alloc (.cells #[.slice none 0 0] 28)) w.heap.size 28 (.slice none 0 0) := Boxed.new w _ _
  have hmost := h.most
  have hits := h.its_
  have X := Lib.hid (And.intro hb0 x0)
  have AX := Lib.hid (AL.out _ hb0 (by simp))
  clear hb0 x0 AL
  refine (callsIn_wide (n := 9)).1 ?_
  refine callsIn_of_wp_marks Try.func11 rfl trivial ?_ rfl
  simp only [Try.ntmps11, List.size_toArray, List.length_cons, List.length_nil, Nat.reduceAdd, Nat.reduceSub, Array.replicate_succ, Array.replicate_zero, List.push_toArray, List.append_toArray, List.nil_append, List.cons_append]
  have FN := fun w f a lb => func_nil Try.underlying67 w f a lb
  gi_wp2_with (refine ⟨trivial, ?_⟩; gi_at_call 26; refine (callsIn_wide.2 AX.out).mono ?_; rintro e w2 ⟨rfl, hb2, hseq⟩)
  have hs2 := hb2.size
  obtain ⟨hb0, x0⟩ := X.out
  have y0 : Boxed w2 w.heap.size 28 (.slice none 0 0) := (Blk.below (t := 28) (cs := #[.slice none 0 0]) x0 hb2 (by simp))
  have hbw2 : Below w.heap.size w w2 := hb0.trans (hb2.mono hb0.size)
  have hsz : (w.alloc (.cells #[.slice none 0 0] 28)).heap.size = w.heap.size + 1 := World.size_alloc _ _
  rw [hsz] at hseq hs2
  clear X AX hb2 hb0 x0 hsz
  refine wp_range_F (F := Fence.wide) (n := 9) rfl (by omega) (gf := 71) (lb := #[.pointer (some ⟨w.heap.size + 1 + 3, 0, none⟩), .pointer (some ⟨w.heap.size + 1 + 2, 0, none⟩), .pointer (some ⟨w.heap.size + 1 + 1, 0, none⟩), .pointer (some ⟨w.heap.size + 1, 0, none⟩)]) rfl trivial (enters_of Try.func71 (by kernel_rfl) rfl) hseq
      (fun k hk => by rcases hk with rfl | hk; · omega
                      · cases hk)
      (fun fp pre x => tellsF_own its _ fp pre x) (fun _ => rfl)
      (CollF w.heap.size w.heap.size 28 3 1 lenC w)
      (fun c pre W => False)
      (fun fq => collF_own _ _ _ _ _ _ _ _ hbw2.size (Nat.le_refl _) fq)
      (fun c => own_never)
      ⟨_, rfl, y0, World.ownsRow_nil _ _ _ _, hbw2⟩
      (fun x a' W => ∃ b, Blk W b 56 #[.int .i64 4, .slice x.A x.n x.c, .slice x.B x.m x.d, .slice x.C x.p x.q] ∧ a' = { tmps := #[.pointer (some ⟨p, 0, none⟩), .int .i64 root, undef, undef, .slice none 0 0, .pointer (some ⟨w.heap.size, 0, none⟩), flV (w.heap.size + 1), undef, .pointer (some ⟨b, 0, none⟩), .pointer (some ⟨p, 0, none⟩), .int .i64 root, flV (w.heap.size + 1), flV (w.heap.size + 1), .bool false, flV (w.heap.size + 1), .int .i64 x.t.j, x.v 4, undef, undef, undef, undef, undef, undef, undef], defers := [] })
      (fun x a' _ W W' row hs hg hr => by
        obtain ⟨b, h1, h2⟩ := hs
        exact ⟨b, h1.grown hg (fun e => by obtain ⟨-, o, ho, hc⟩ := hr b e.symm; rw [show W.heap[b]? = _ from h1] at ho; cases ho; cases hc), h2⟩)
      ?assign ?body ?done ?stop
  case assign =>
    intro l x W K hW hK
    dsimp only [Ob.encs, Ob.v, obV]
    gi_wp2
    exact hK _ _ (boxed _ _) ⟨W.heap.size, Blk.new _ _ _, rfl⟩
  case body =>
    rintro l fp fq pre x W ⟨v, rfl, hv, hrow, hbW⟩ hok hfp hpl ⟨hpx, hfree⟩ - a' ⟨b, hbx, rfl⟩
    obtain ⟨i0, hi, hz0, hz1, hz2⟩ := info_parts intInfo14
    have b3 := hbx.cell 3
    have cv := hv.cell
    have hlie := hpx.2
    have hxl := hlie.ir.len
    have s1 : pre.length + 1 ≤ maxLen := by unfold maxLen; omega
    have s2 : (pre.length + 1) * 8 ≤ 140737488355328 := by omega
    obtain ⟨A1, c1, rfl, -, -⟩ := own_form hrow
    have hsW := hbW.size
    gi_wp2_with (gi_at_builtin; refine wpListIn_append_at _ rfl _ _ 28 rfl w.heap.size 3 i0 (.int .i64 0) 1 8 Try.underlying28 hi hz0 hz1 hz2 rfl (by decide) _ _ _ rfl (hrow.alloc _) _ _ 1 1 [.int .i64 x.p] rfl (Reads.new1 W _ _) (fun u hu => by rw [List.mem_singleton.1 hu]; rfl) s1 s2 (by simp; omega) ?_; intro v' w1 hown' hgrow hat; obtain ⟨g', cap', rfl⟩ := ownsRow_succ hown'; obtain ⟨hv1, hv2, hr2, hg2⟩ := appendedF hv (by decide) hrow hown' hgrow hat; have hc1 := hv1.cell; have hf1 := hv1.frozen)
    refine ⟨_, ⟨_, rfl, hv2, ?_, ?_⟩, hg2⟩
    · rw [List.map_append, List.flatten_append, List.length_append]
      have e : ([x].map lenC).flatten = [.int .i64 x.p] := by simp [lenC, hxl]
      rw [e]
      exact hr2
    · refine hbW.trans (hg2.1.below hbW.size (fun q _ hq => ?_))
      rcases hq with rfl | hq
      · exact Nat.le_refl _
      · exact (hrow.lt q hq).1
  case done =>
    rintro D fq xs W hD hxs ⟨v, rfl, hv, hrow, hbW⟩ hK
    have cv := hv.cell
    obtain ⟨A1, c1, rfl, -, -⟩ := own_form hrow
    rw [lensC_eq] at hrow
    have e1 : xs.length = its.length := by rw [← hxs, List.length_map]
    have e2 : (xs.map fun x => (x.t.is.length : Int)) = its.map fun t => (t.is.length : Int) := by rw [← hxs, List.map_map]; rfl
    rw [e2] at hrow
    have HO := Lib.hid (And.intro hrow e1)
    clear hrow e1 e2 hxs
    gi_wp2
    refine ⟨by simp, .inl ⟨_, _, rfl, run_takeDeferred hK, ?_⟩⟩
    refine ⟨_, results_tmp rfl _ _ _, _, rfl, ?_, below_put1 hbW (by omega) _⟩
    have h9 := ownsRow_putObj HO.out.1 (.deferred none) hK rfl
    rw [HO.out.2] at h9
    rw [HO.out.2]
    exact h9
  case stop =>
    rintro D cc pre W hD hp hf hK
    exact hf.elim
end

end Go.Proofs.Ytblpmnipapimcaa
