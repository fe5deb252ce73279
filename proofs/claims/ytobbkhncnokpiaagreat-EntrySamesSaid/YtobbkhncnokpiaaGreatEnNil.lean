/-
  LAYER 16: what is told of no image: nothing.
-/
import Derived.Test.YtobbkhncnokpiaaGreatEnAll
import Derived.Test.YtobbkhncnokpiaaGreatEnAdd
set_option linter.unusedVariables false
set_option maxRecDepth 100000
set_option linter.unusedSimpArgs false
namespace Go.Proofs.YtobbkhncnokpiaaGreat
open Go.RowKit Go.Shelf
attribute [local go_sem] Oper.semAt_some

/-- An iterator's four boxes, and two boxes, of no image. -/
structure FlN (w : World) (g : Nat) : Prop where
  lo : g + 4 ≤ w.heap.size
  cp : w.cell? ⟨g + 1, 0, none⟩ = some (.int .u64 0)
  ck : w.cell? ⟨g + 2, 0, none⟩ = some (.int .i64 4)
  cw : w.cell? ⟨g + 3, 0, none⟩ = some (.int .i64 0)
structure RwN (w : World) (g : Nat) (root : Int) : Prop where
  lo : g + 2 ≤ w.heap.size
  cm : w.cell? ⟨g, 0, none⟩ = some (.pointer none)
  cr : w.cell? ⟨g + 1, 0, none⟩ = some (.int .i64 root)
theorem RwN.below {w w' : World} {g : Nat} {root : Int} (h : RwN w g root) (hb : Below w.heap.size w w') : RwN w' g root :=
  ⟨Nat.le_trans h.lo hb.size, (hb.cell (p := ⟨g, 0, none⟩) (by have := h.lo; show g < _; omega)).trans h.cm, (hb.cell (p := ⟨g + 1, 0, none⟩) (by have := h.lo; show g + 1 < _; omega)).trans h.cr⟩
theorem RwN.two (w : World) (root : Int) : RwN ((w.alloc (.cells #[.pointer none] 26)).alloc (.cells #[.int .i64 root] 3)) w.heap.size root := by
  have c0 := (Blk.new w 26 #[.pointer none]).cell 0
  have c1 := (Blk.new (w.alloc (.cells #[.pointer none] 26)) 3 #[.int .i64 root]).cell 0
  simp only [World.size_alloc] at c1
  exact ⟨by simp, cell_kept1 c0, c1⟩
theorem crowsN (root : Int) (w : World) :
    Calls Tryz.prog 78 #[.pointer none, .int .i64 root] w fun e w' => e = .returned (rwV w.heap.size) ∧ Below w.heap.size w w' ∧ RwN w' w.heap.size root := by
  go_enter Tryz.func78, Tryz.ntmps78
  go_wp2
  go_ret
  exact ⟨rfl, (boxed _ _).alloc (boxed _ _).size _, RwN.two w root⟩
theorem callN (root : Int) (w : World) :
    Calls Tryz.prog 47 #[.pointer none, .int .i64 root] w fun e w' => e = .returned (alV w.heap.size) ∧ Below w.heap.size w w' ∧ RwN w' w.heap.size root := by
  go_enter Tryz.func47, Tryz.ntmps47
  go_wp2
  go_ret
  exact ⟨rfl, (boxed _ _).alloc (boxed _ _).size _, RwN.two w root⟩
theorem tfollowN (w : World) :
    Calls Tryz.prog 126 #[.pointer none, .int .u64 0, .int .i64 4, .int .i64 0] w fun e w' => e = .returned (flV w.heap.size) ∧ Below w.heap.size w w' ∧ FlN w' w.heap.size := by
  go_enter Tryz.func126, Tryz.ntmps126
  go_wp2
  go_ret
  have c1 := (Blk.new (w.alloc (.cells #[.pointer none] 26)) 33 #[.int .u64 0]).cell 0
  have c2 := (Blk.new ((w.alloc (.cells #[.pointer none] 26)).alloc (.cells #[.int .u64 0] 33)) 3 #[.int .i64 4]).cell 0
  have c3 := (Blk.new (((w.alloc (.cells #[.pointer none] 26)).alloc (.cells #[.int .u64 0] 33)).alloc (.cells #[.int .i64 4] 3)) 3 #[.int .i64 0]).cell 0
  have b1 := boxed w (.cells #[.pointer none] 26)
  have b2 := b1.alloc b1.size (.cells #[.int .u64 0] 33)
  have b3 := b2.alloc b2.size (.cells #[.int .i64 4] 3)
  have b4 := b3.alloc b3.size (.cells #[.int .i64 0] 3)
  simp only [World.size_alloc] at c1 c2 c3
  exact ⟨rfl, b4, ⟨by simp, cell_kept1 (cell_kept1 c1), cell_kept1 c2, c3⟩⟩
theorem carraysN (root : Int) (w : World) :
    Calls Tryz.prog 105 #[.pointer none, .int .i64 root] w fun e w' => e = .returned (flV w.heap.size) ∧ Below w.heap.size w w' ∧ FlN w' w.heap.size := by
  have WW := Lib.hid (iword_nil root w)
  have FF := Lib.hid (tfollowN w)
  go_enter Tryz.func105, Tryz.ntmps105
  go_wp2_with (first
    | (go_at_call 54; refine (WW.out).mono ?_; rintro e w2 ⟨rfl, rfl⟩)
    | (go_at_call 126; refine FF.out.mono ?_; rintro e w2 ⟨rfl, hb2, hfl⟩))
  go_ret
  exact ⟨rfl, hb2, hfl⟩

/-- Follow tells nothing. -/
theorem followN (n : Nat) (hn : 1 ≤ n) (fp₀ : Nat → Prop) (g : Nat) (w : World) (H : FlN w g) :
    SeqF Fence.wide n Tryz.prog 151 #[.pointer (some ⟨g + 3, 0, none⟩), .pointer (some ⟨g + 2, 0, none⟩), .pointer (some ⟨g + 1, 0, none⟩), .pointer (some ⟨g, 0, none⟩)] (Ob.encs 4) (TellsF []) fp₀
      (fun xs => xs.map (·.t) = []) (fun pre => ∃ rest, pre.map (·.t) ++ rest = ([] : List It)) ([] : List It).length w := by
  intro l J Jx W f1 hb hJ hJx hf1 hfok hY h0
  refine callsIn_of_wp Tryz.func151 rfl trivial ?_ rfl
  simp only [Tryz.ntmps151, List.size_toArray, List.length_cons, List.length_nil, Nat.reduceAdd, Nat.reduceSub, Array.replicate_succ, Array.replicate_zero, List.push_toArray, List.append_toArray, List.nil_append, List.cons_append]
  have hlo := H.lo
  have c1 := (hb.cell (p := ⟨g + 3, 0, none⟩) (by show g + 3 < _; omega)).trans H.cw
  have c2 := (hb.cell (p := ⟨g + 2, 0, none⟩) (by show g + 2 < _; omega)).trans H.ck
  have c3 := (hb.cell (p := ⟨g + 1, 0, none⟩) (by show g + 1 < _; omega)).trans H.cp
  have hk4 : kwN 4 = 1 := rfl
  gi_wp2
  refine wpIn_wide.2 ?_
  go_quiet ((refine (owords_any 4 _).mono ?_; rintro e w1 ⟨rfl, rfl⟩; exact ⟨rfl, _, rfl⟩))
  gi_wp2
  refine wpIn_wide.2 ?_
  go_quiet (fail)
  gi_wp2
  gi_loopw [6, 7] (fun s6 s7 wr => s6 = .int .u64 0 ∧ s7 = .int .u64 0 ∧ J f1 [] wr) (fun s6 _ _ => 0)
  case atStart => exact ⟨rfl, rfl, ownFrom_below' (hJ f1) h0 (below_drewn (below_drewn (Below.refl _ _) _) _)⟩
  case round =>
    obtain ⟨rfl, rfl, hJs⟩ := hrel
    gi_wp2
    go_end0
    exact ⟨⟨_, rfl⟩, .inl ⟨[], f1, rfl, hJs⟩⟩

theorem nil_cons_of {α : Type} {a r : List α} {x : α} (h : a ++ x :: r = []) : False := by simp at h
set_option maxHeartbeats 4000000 in
theorem rowsN_F (n : Nat) (hn : 2 ≤ n) (fp₀ : Nat → Prop) (g : Nat) (root : Int) (w : World) (hB : RwN w g root) :
    SeqF Fence.wide n Tryz.prog 123 (rwB g) Rw.encs (TellsR []) fp₀ (fun xs => xs.map (·.zs) = []) (fun pre => ∃ rest, pre.map (·.zs) ++ rest = ([] : List (List Int))) ([] : List (List Int)).length w := by
  intro l J Jx W f1 hb hJ hJx hf1 hfok hY hst
  have hbox : Below W.heap.size W (W.alloc (.cells #[.func (.yield l) #[] #[]] 159)) := boxed _ _
  obtain ⟨W0, hW0⟩ : ∃ W0, W.alloc (.cells #[.func (.yield l) #[] #[]] 159) = W0 := ⟨_, rfl⟩
  have hs0 : W0.heap.size = W.heap.size + 1 := by rw [← hW0]; simp
  rw [hW0] at hbox
  have hsW := hb.size
  have AR := Lib.hid (carraysN root W0)
  have c1 := ((hB.below hb).below hbox).cm
  have c2 := ((hB.below hb).below hbox).cr
  have hgw : g + 1 < W0.heap.size := by have := hB.lo; omega
  obtain ⟨gb, hgb⟩ : ∃ gb, W0.heap.size = gb := ⟨_, rfl⟩
  rw [hgb] at AR
  have HG := Lib.hid (And.intro hgb hs0)
  clear hgb hs0
  refine callsIn_of_wp_marks Tryz.func123 rfl trivial ?_ rfl
  simp only [Tryz.ntmps123, List.size_toArray, List.length_cons, List.length_nil, Nat.reduceAdd, Nat.reduceSub, Array.replicate_succ, Array.replicate_zero, List.push_toArray, List.append_toArray, List.nil_append, List.cons_append]
  gi_wp2_with (refine ⟨trivial, fun _ => by omega, ?_⟩; gi_at_call 105; refine (callsIn_wide.2 AR.out).mono ?_; rintro e w2 ⟨rfl, hb2, hfl⟩)
  obtain ⟨hgb, hs0⟩ := HG.out
  rw [← hgb] at hb2
  have hs2 := hb2.size
  have hbW2 : Below W.heap.size W w2 := hbox.trans (hb2.mono hbox.size)
  have hseq := followN (n - 1) (by omega) f1 gb w2 hfl
  refine wp_range_F (F := Fence.wide) (n := n) rfl (by omega) (gf := 151) (lb := #[.pointer (some ⟨gb + 3, 0, none⟩), .pointer (some ⟨gb + 2, 0, none⟩), .pointer (some ⟨gb + 1, 0, none⟩), .pointer (some ⟨gb, 0, none⟩)]) rfl trivial (enters_of Tryz.func151 (by kernel_rfl) rfl) hseq
      (fun k hk => by have := hfok k hk; omega)
      (fun fp pre x => tellsF_own [] _ fp pre x) (fun _ => rfl)
      (fun fq pre W' => fq = f1 ∧ J f1 [] W')
      (fun c pre W' => False)
      (fun fq s A C row hs hg hr => ⟨hs.1, hJ f1 _ A C row hs.2 hg (fun r e => ⟨by have := (hr r e).1; omega, (hr r e).2⟩)⟩)
      (fun c => own_never)
      ⟨rfl, ownFrom_below' (hJ f1) hst hbW2⟩
      (fun x a' W' => True)
      (fun x a' _ A C row hs hg hr => trivial)
      ?assign ?body ?done ?stop
  case assign =>
    intro l2 x W3 K hW hK
    dsimp only [Ob.encs, Ob.v, obV]
    gi_wp2
    exact hK _ _ (boxed _ _) trivial
  case body =>
    rintro l2 fp fq pre x W3 - hok hsub hlen ⟨⟨⟨rest, hrest⟩, -⟩, -⟩
    exact (nil_cons_of hrest).elim
  case done =>
    rintro D fq xs W3 hD hxs ⟨rfl, hJs⟩ hK
    gi_wp2
    refine ⟨by simp, .inl ⟨_, _, rfl, run_takeDeferred hK, ?_⟩⟩
    exact ⟨_, results_none rfl _ _ _, ⟨_, rfl⟩, .inl ⟨fq, (hJ fq).putObj _ hJs (by omega) hK rfl⟩⟩
  case stop =>
    rintro D cc pre W3 hD hp hf hK
    exact hf.elim

set_option maxHeartbeats 4000000 in
theorem allN_F (n : Nat) (hn : 3 ≤ n) (fp₀ : Nat → Prop) (g : Nat) (root : Int) (w : World) (hB : RwN w g root) :
    SeqF Fence.wide n Tryz.prog 79 (rwB g) placeE (TellsP []) fp₀ (IsL []) (PreL []) ([] : List Int).length w := by
  intro l J Jx W f1 hb hJ hJx hf1 hfok hY hst
  have hbox : Below W.heap.size W (W.alloc (.cells #[.func (.yield l) #[] #[]] 94)) := boxed _ _
  obtain ⟨W0, hW0⟩ : ∃ W0, W.alloc (.cells #[.func (.yield l) #[] #[]] 94) = W0 := ⟨_, rfl⟩
  have hs0 : W0.heap.size = W.heap.size + 1 := by rw [← hW0]; simp
  rw [hW0] at hbox
  have hsW := hb.size
  have AR := Lib.hid (crowsN root W0)
  have c1 := ((hB.below hb).below hbox).cm
  have c2 := ((hB.below hb).below hbox).cr
  have hgw : g + 1 < W0.heap.size := by have := hB.lo; omega
  obtain ⟨gb, hgb⟩ : ∃ gb, W0.heap.size = gb := ⟨_, rfl⟩
  rw [hgb] at AR
  have HG := Lib.hid (And.intro hgb hs0)
  clear hgb hs0
  refine callsIn_of_wp_marks Tryz.func79 rfl trivial ?_ rfl
  simp only [Tryz.ntmps79, List.size_toArray, List.length_cons, List.length_nil, Nat.reduceAdd, Nat.reduceSub, Array.replicate_succ, Array.replicate_zero, List.push_toArray, List.append_toArray, List.nil_append, List.cons_append]
  gi_wp2_with (refine ⟨trivial, (fun h => by cases h), ?_⟩; gi_at_call 78; refine (callsIn_wide.2 AR.out).mono ?_; rintro e w2 ⟨rfl, hb2, hfl⟩)
  obtain ⟨hgb, hs0⟩ := HG.out
  rw [← hgb] at hb2
  have hs2 := hb2.size
  have hbW2 : Below W.heap.size W w2 := hbox.trans (hb2.mono hbox.size)
  have hseq := rowsN_F (n - 1) (by omega) f1 gb root w2 hfl
  refine wp_range_F (F := Fence.wide) (n := n) rfl (by omega) (gf := 123) (lb := rwB gb) rfl trivial (enters_of Tryz.func123 (by kernel_rfl) rfl) hseq
      (fun k hk => by have := hfok k hk; omega)
      (fun fp pre x => tellsR_own [] _ fp pre x) (fun _ => rfl)
      (fun fq pre W' => fq = f1 ∧ J f1 [] W')
      (fun c pre W' => False)
      (fun fq s A C row hs hg hr => ⟨hs.1, hJ f1 _ A C row hs.2 hg (fun r e => ⟨by have := (hr r e).1; omega, (hr r e).2⟩)⟩)
      (fun c => own_never)
      ⟨rfl, ownFrom_below' (hJ f1) hst hbW2⟩
      (fun x a' W' => True)
      (fun x a' _ A C row hs hg hr => trivial)
      ?assign ?body ?done ?stop
  case assign =>
    intro l2 x W3 K hW hK
    dsimp only [Rw.encs]
    gi_wp2
    exact hK _ _ (Below.refl _ _) trivial
  case body =>
    rintro l2 fp fq pre x W3 - hok hsub hlen ⟨⟨rest, hrest⟩, -⟩
    exact (nil_cons_of hrest).elim
  case done =>
    rintro D fq xs W3 hD hxs ⟨rfl, hJs⟩ hK
    gi_wp2
    refine ⟨by simp, .inl ⟨_, _, rfl, run_takeDeferred hK, ?_⟩⟩
    exact ⟨_, results_none rfl _ _ _, ⟨_, rfl⟩, .inl ⟨[], rfl, fq, (hJ fq).putObj _ hJs (by omega) hK rfl⟩⟩
  case stop =>
    rintro D cc pre W3 hD hp hf hK
    exact hf.elim

set_option maxHeartbeats 4000000 in
theorem clenN (root : Int) (w : World) :
    Calls Tryz.prog 48 #[.pointer none, .int .i64 root] w fun e w' => e = .returned (.int .i64 0) ∧ Below w.heap.size w w' := by
  have RW := Lib.hid (fun w1 => crowsN root w1)
  refine (callsIn_wide (n := 9)).1 ?_
  refine callsIn_of_wp_marks Tryz.func48 rfl trivial ?_ rfl
  simp only [Tryz.ntmps48, List.size_toArray, List.length_cons, List.length_nil, Nat.reduceAdd, Nat.reduceSub, Array.replicate_succ, Array.replicate_zero, List.push_toArray, List.append_toArray, List.nil_append, List.cons_append]
  gi_wp2_with (refine ⟨trivial, ?_⟩; gi_at_call 78; refine (callsIn_wide.2 (RW.out _)).mono ?_; rintro e w2 ⟨rfl, hb2, hfl⟩)
  have hb0 : Below w.heap.size w (w.alloc (.cells #[.int .i64 0] 3)) := boxed _ _
  have hsz : (w.alloc (.cells #[.int .i64 0] 3)).heap.size = w.heap.size + 1 := World.size_alloc _ _
  have x0 := Blk.new w 3 #[.int .i64 0]
  obtain ⟨gr, hgr⟩ : ∃ gr, w.heap.size + 1 = gr := ⟨_, rfl⟩
  rw [hsz, hgr] at hfl
  generalize w.alloc (.cells #[.int .i64 0] 3) = w0 at *
  have hs2 := hb2.size
  have hbw2 : Below w.heap.size w w2 := hb0.trans (hb2.mono hb0.size)
  have y0 := x0.below hb2 (by omega)
  have hseq := rowsN_F 8 (by omega) (fun k => k = w.heap.size) gr root w2 hfl
  subst hgr
  refine wp_range_F (F := Fence.wide) (n := 9) rfl (by omega) (gf := 123) (lb := rwB (w.heap.size + 1)) rfl trivial (enters_of Tryz.func123 (by kernel_rfl) rfl) hseq
      (fun k hk => by subst hk; omega)
      (fun fp pre x => tellsR_own [] _ fp pre x) (fun _ => rfl)
      (fun fq pre W => fq = (fun k => k = w.heap.size) ∧ Blk W w.heap.size 3 #[.int .i64 0] ∧ Below w.heap.size w W)
      (fun c pre W => False)
      (fun fq s A C row hs hg hr => ⟨hs.1, own_blkOf (β := Unit) (B := w2.heap.size) (by omega) (fun _ => #[.int .i64 0]) () A C row hs.2.1 hg hr, hs.2.2.grown hg (by have := hs.2.2.size; omega) (fun k e => by have := (hr k e).1; omega)⟩)
      (fun c => own_never)
      ⟨rfl, y0, hbw2⟩
      (fun x a' W' => True)
      (fun x a' _ A C row hs hg hr => trivial)
      ?assign ?body ?done ?stop
  case assign =>
    intro l2 x W3 K hW hK
    dsimp only [Rw.encs]
    gi_wp2
    exact hK _ _ (Below.refl _ _) trivial
  case body =>
    rintro l2 fp fq pre x W3 - hok hsub hlen ⟨⟨rest, hrest⟩, -⟩
    exact (nil_cons_of hrest).elim
  case done =>
    rintro D fq xs W3 hD hxs ⟨rfl, yb3, hbW⟩ hK
    have y3 := yb3.cell 0
    gi_wp2
    refine ⟨by simp, .inl ⟨_, _, rfl, run_takeDeferred hK, ?_⟩⟩
    refine ⟨_, results_tmp rfl _ _ _, rfl, below_put1 hbW (by omega) _⟩
  case stop =>
    rintro D cc pre W3 hD hp hf hK
    exact hf.elim
theorem elen_nil (w : World) :
    Calls Tryz.prog 23 #[.pointer none] w fun e w' => e = .returned (.int .i64 0) ∧ Below w.heap.size w w' := by
  have LE := Lib.hid (clenN 192 w)
  go_enter Tryz.func23, Tryz.ntmps23
  go_wp2_with (go_at_call 48; refine LE.out.mono ?_; rintro e w1 ⟨rfl, hb⟩)
  go_ret
  exact ⟨rfl, hb⟩
set_option maxHeartbeats 4000000 in
theorem eall_nil (w : World) :
    Calls Tryz.prog 22 #[.pointer none] w fun e w' => e = .returned (.slice none 0 0) ∧ Below w.heap.size w w' := by
  have hb0 : Below w.heap.size w ((w.alloc (.cells #[.pointer none] 26)).alloc (.cells #[.slice none 0 0] 22)) := (boxed w _).alloc (boxed w _).size _
  have hsz0 : ((w.alloc (.cells #[.pointer none] 26)).alloc (.cells #[.slice none 0 0] 22)).heap.size = w.heap.size + 2 := by simp
  have x1 : Boxed ((w.alloc (.cells #[.pointer none] 26)).alloc (.cells #[.slice none 0 0] 22)) (w.heap.size + 1) 22 (.slice none 0 0) := by
    have := Blk.new (w.alloc (.cells #[.pointer none] 26)) 22 #[.slice none 0 0]
    simp only [World.size_alloc] at this
    exact this
  have AX := Lib.hid (callN 192 ((w.alloc (.cells #[.pointer none] 26)).alloc (.cells #[.slice none 0 0] 22)))
  have X := Lib.hid (And.intro hb0 (And.intro hsz0 x1))
  clear hb0 hsz0 x1
  refine (callsIn_wide (n := 9)).1 ?_
  refine callsIn_of_wp_marks Tryz.func22 rfl trivial ?_ rfl
  simp only [Tryz.ntmps22, List.size_toArray, List.length_cons, List.length_nil, Nat.reduceAdd, Nat.reduceSub, Array.replicate_succ, Array.replicate_zero, List.push_toArray, List.append_toArray, List.nil_append, List.cons_append]
  gi_wp2_with (refine ⟨trivial, ?_⟩; gi_at_call 47; refine (callsIn_wide.2 AX.out).mono ?_; rintro e w2 ⟨rfl, hb2, hfl⟩)
  obtain ⟨hb0, hsz0, x1⟩ := X.out
  rw [hsz0] at hfl
  generalize (w.alloc (.cells #[.pointer none] 26)).alloc (.cells #[.slice none 0 0] 22) = w0 at *
  have hs2 := hb2.size
  have hbw2 : Below w.heap.size w w2 := hb0.trans (hb2.mono hb0.size)
  have y1 : Blk w2 (w.heap.size + 1) 22 #[.slice none 0 0] := Blk.below (t := 22) (cs := #[.slice none 0 0]) x1 hb2 (by omega)
  have hseq := allN_F 8 (by omega) (fun _ => False) (w.heap.size + 2) 192 w2 hfl
  clear X AX hb0 x1 hb2
  refine wp_range_F (F := Fence.wide) (n := 9) rfl (by omega) (gf := 79) (lb := rwB (w.heap.size + 2)) rfl trivial (enters_of Tryz.func79 (by kernel_rfl) rfl) hseq
      (fun k hk => hk.elim)
      (fun fp pre z => tellsP_own [] _ fp pre z) (fun _ => rfl)
      (fun fq pre W => Blk W (w.heap.size + 1) 22 #[.slice none 0 0] ∧ Below w.heap.size w W)
      (fun c pre W => False)
      (fun fq s A C row hs hg hr => ⟨own_blkOf (β := Unit) (B := w2.heap.size) (by omega) (fun _ => #[.slice none 0 0]) () A C row hs.1 hg hr, hs.2.grown hg (by have := hs.2.size; omega) (fun k e => by have := (hr k e).1; omega)⟩)
      (fun c => own_never)
      ⟨y1, hbw2⟩
      (fun z a' W' => True)
      (fun z a' _ A C row hs hg hr => trivial)
      ?assign ?body ?done ?stop
  case assign =>
    intro l2 z W3 K hW hK
    dsimp only [placeE]
    gi_wp2
    exact hK _ _ (Below.refl _ _) trivial
  case body =>
    rintro l2 fp fq pre x W3 - hok hsub hlen ⟨rest, hrest⟩
    exact (nil_cons_of hrest).elim
  case done =>
    rintro D fq xs W3 hD hxs ⟨yb3, hbW⟩ hK
    have y3 := yb3.cell 0
    gi_wp2
    refine ⟨by simp, .inl ⟨_, _, rfl, run_takeDeferred hK, ?_⟩⟩
    refine ⟨_, results_tmp rfl _ _ _, rfl, below_put1 hbW (by omega) _⟩
  case stop =>
    rintro D cc pre W3 hD hp hf hK
    exact hf.elim
/-- No image takes any. -/
theorem eadd_nil (v : RC) (w : World) :
    Calls Tryz.prog 11 #[.pointer none, v.v] w fun e w' => e = .returned (.tuple #[.int .i64 0, .int .i64 3]) ∧ Below w.heap.size w w' := by
  unfold RC.v
  go_enter Tryz.func11, Tryz.ntmps11
  go_wp2
  go_ret2
  exact ⟨rfl, boxed _ _⟩
theorem eget_nil (w : World) :
    Calls Tryz.prog 15 #[.pointer none, .int .u64 8] w fun e w' => e = .returned (.tuple #[rcZ, .bool false]) ∧ Below w.heap.size w w' :=
  eget_no (.pointer none) 8 w (fun wx _ => iat_nil 8 3 wx (by decide))

end Go.Proofs.YtobbkhncnokpiaaGreat
