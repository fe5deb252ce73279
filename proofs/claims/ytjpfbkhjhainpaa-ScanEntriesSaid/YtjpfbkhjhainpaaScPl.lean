/-
  LAYER 17: Places: its contract.
-/
import Derived.Test.YtjpfbkhjhainpaaScWh
set_option linter.unusedVariables false
set_option maxRecDepth 100000
set_option linter.unusedSimpArgs false
namespace Go.Proofs.Ytjpfbkhjhainpaa
open Go.RowKit Go.Shelf
attribute [local go_sem] Oper.semAt_some

theorem intInfo17 : (Try.prog.info? 3).map (fun i => (i.zero, i.size, i.bytes)) = some (some (.int .i64 0), 1, 8) := by kernel_rfl
/-- The places of those of a kind. -/
def placesS (kind : Int) (l : List SR) : List Int := (l.filter fun r => decide ((r.k : Int) = kind)).map fun r => (r.j : Int)
theorem placesS_snoc (kind : Int) (l : List SR) (r : SR) : placesS kind (l ++ [r]) = if (r.k : Int) = kind then placesS kind l ++ [(r.j : Int)] else placesS kind l := by
  unfold placesS
  rw [List.filter_append]
  by_cases h : (r.k : Int) = kind
  · rw [if_pos h, List.filter_cons_of_pos (by simp [h])]; simp
  · rw [if_neg h, List.filter_cons_of_neg (by simp [h])]; simp
theorem placesS_le (kind : Int) (l : List SR) : (placesS kind l).length ≤ l.length := by unfold placesS; rw [List.length_map]; exact List.length_filter_le _ _
/-- What Places holds between two rounds. -/
def PlI (w : World) (kind : Int) (fq : Nat → Prop) (pre : List So) (W : World) : Prop :=
  ∃ v, fq = fpR (w.heap.size + 1) v ∧ Boxed W (w.heap.size + 1) 27 v ∧ W.ownsRow (w.heap.size + 2) 3 1 v (placesS kind (pre.map (·.r))).length (cellsOf .i64 (placesS kind (pre.map (·.r)))) ∧ Blk W w.heap.size 3 #[.int .i64 kind] ∧ Below w.heap.size w W
theorem box_same {W W' : World} {B : Nat} {t : TypeId} {v v2 : Value} {row : Option Nat} (hv : Boxed W B t v) (hg : W.grownBy W' row) (hrow : ∀ r, row = some r → ∃ o : Obj, W.heap[r]? = some o ∧ o.isCells = false) (h2 : Boxed W' B t v2) : v2 = v := by
  have := hv.kept hg (fun e => by
    obtain ⟨o, ho, hc⟩ := hrow B e.symm
    rw [show W.heap[B]? = _ from hv] at ho; cases ho; cases hc)
  have h5 : some (Obj.cells #[v2] t (0, 0)) = some (Obj.cells #[v] t (0, 0)) := (show W'.heap[B]? = _ from h2).symm.trans this
  simp at h5
  exact h5
theorem plI_own (w : World) (kind : Int) (C : Nat) (hC : w.heap.size + 2 ≤ C) (fq : Nat → Prop) : OwnFrom C (PlI w kind fq) := by
  rintro pre W W' row ⟨v, e1, hv, hr, hk, hbw⟩ hg hrow
  obtain ⟨v2, h2, h3, h4⟩ := own_row (w.heap.size + 2) (w.heap.size + 1) C 27 3 1 (fun s : List So => (placesS kind (s.map (·.r))).length) (fun s => cellsOf .i64 (placesS kind (s.map (·.r)))) pre W W' row ⟨v, hv, hr, trivial⟩ hg hrow
  have e2 := box_same hv hg (fun r e => (hrow r e).2) h2
  subst e2
  exact ⟨v2, e1, h2, h3, own_blkAny (B := C) w.heap.size 3 (fun _ : Unit => _) () W W' row hk hg hrow, hbw.grown hg (by have := hbw.size; omega) (fun k e => by have := (hrow k e).1; omega)⟩
theorem intOne (x : Int) : ∀ u ∈ [Value.int .i64 x], u.oneCell' = true := fun u hu => by
  rw [List.mem_singleton.1 hu]; rfl
theorem new1At {w : World} {g : Nat} (hg : w.heap.size = g) (t : TypeId) (u : Value) : Reads (w.alloc (.cells #[u] t)) (g + 1) 1 (some ⟨g, 0, none⟩) 1 [u] := by subst hg; exact Reads.new1 w t u
theorem si1 {m : Nat} (h : m ≤ 1099511627776) : m + 1 ≤ maxLen := by unfold maxLen; omega
theorem si2 {m : Nat} (h : m ≤ 1099511627776) : (m + 1) * 8 ≤ 140737488355328 := by omega

set_option maxHeartbeats 4000000 in
theorem scPlaces_any {B : Nat} (A : Option Addr) (n c : Nat) (zs : List Int) (pl to kind : Int) (L : List SR) (w : World) (hr : Reads w B 1 A n (cellsOf .u8 zs)) (hB : B ≤ w.heap.size) (hz : AreB zs) (hl : n ≤ c) (hcap : c ≤ 9223372036854775807) (hm : n ≤ 1099511627776)
    (h0 : -9223372036854775808 ≤ pl) (h1 : pl ≤ 9223372036854775807) (t0 : -9223372036854775808 ≤ to) (t1 : to ≤ 9223372036854775807) (hL : scanAt (zs.take (cutN n to)) pl L) :
    Calls Try.prog 10 #[.slice A n c, .int .i64 pl, .int .i64 to, .int .i64 kind] w fun e w' => ∃ v, e = .returned v ∧ w'.ownsRow w.heap.size 3 1 v (placesS kind L).length (cellsOf .i64 (placesS kind L)) ∧ Below w.heap.size w w' := by
  have hn : (zs.take (cutN n to)).length = cutN n to := by
    have := hr.len
    rw [List.length_take, this]; unfold cutN; omega
  obtain ⟨T, hT⟩ : ∃ T, cutN n to = T := ⟨_, rfl⟩
  have hTn : T ≤ n := by rw [← hT]; exact cutN_le _ _
  rw [hT] at hL hn
  have AH := Lib.hid (fun wx => ahead_any A n c to wx hl hcap t0 t1)
  rw [hT] at AH
  have hb0 : Below w.heap.size w ((w.alloc (.cells #[.int .i64 kind] 3)).alloc (.cells #[.slice none 0 0] 27)) := (boxed w _).alloc (boxed w _).size _
  have hsz0 : ((w.alloc (.cells #[.int .i64 kind] 3)).alloc (.cells #[.slice none 0 0] 27)).heap.size = w.heap.size + 2 := by simp
  have x0 := (Blk.new w 3 #[.int .i64 kind]).alloc (.cells #[.slice none 0 0] 27)
  have x1 : Boxed ((w.alloc (.cells #[.int .i64 kind] 3)).alloc (.cells #[.slice none 0 0] 27)) (w.heap.size + 1) 27 (.slice none 0 0) := by
    have := Blk.new (w.alloc (.cells #[.int .i64 kind] 3)) 27 #[.slice none 0 0]
    simp only [World.size_alloc] at this
    exact this
  have OB := Lib.hid (objects_seq (fpR (w.heap.size + 1) (.slice none 0 0)) B A T c (zs.take T) pl L _ ((hr.pre hTn).below (hb0.mono hB)) (by rw [hsz0]; omega) (fun hn ad ha e => by
    obtain ⟨ad2, ea, hb, -⟩ := (hr.pre hTn).2 hn
    rw [ha] at ea; injection ea with ea; subst ea
    rcases e with e | e
    · omega
    · cases e) (hz.take _) (by omega) hcap (by omega) (fun k hk => by
    rcases hk with hk | hk
    · subst hk; rw [hsz0]; omega
    · cases hk) h0 h1 hL)
  have SC := Lib.hid hL
  have X := Lib.hid (And.intro hb0 (And.intro hsz0 (And.intro x0 x1)))
  rw [hsz0] at OB
  clear hT hb0 hsz0 x0 x1
  refine (callsIn_wide (n := 9)).1 ?_
  refine callsIn_of_wp_marks Try.func10 rfl trivial ?_ rfl
  simp only [Try.ntmps10, List.size_toArray, List.length_cons, List.length_nil, Nat.reduceAdd, Nat.reduceSub, Array.replicate_succ, Array.replicate_zero, List.push_toArray, List.append_toArray, List.nil_append, List.cons_append]
  gi_wp2_with (first
    | (refine ⟨trivial, ?_⟩; gi_at_call 22; refine (callsIn_wide.2 (AH.out _)).mono ?_; rintro e w1 ⟨rfl, rfl⟩)
    | (refine ⟨trivial, ?_⟩; gi_at_call 21; refine (callsIn_wide.2 OB.out).mono ?_; rintro e w2 ⟨rfl, hb2, hseq⟩))
  obtain ⟨hb0, hsz0, x0, x1⟩ := X.out
  generalize (w.alloc (.cells #[.int .i64 kind] 3)).alloc (.cells #[.slice none 0 0] 27) = w0 at *
  have hs2 := hb2.size
  have hbw2 : Below w.heap.size w w2 := hb0.trans (hb2.mono (by omega))
  have y0 := x0.below hb2 (by omega)
  have y1 : Boxed w2 (w.heap.size + 1) 27 (.slice none 0 0) := Blk.below (t := 27) (cs := #[.slice none 0 0]) x1 hb2 (by omega)
  clear X x0 x1
  refine wp_range_F (F := Fence.wide) (n := 9) rfl (by omega) (gf := 38) (lb := scB (w.heap.size + 2)) rfl trivial (enters_of Try.func38 (by kernel_rfl) rfl) hseq
      (fun k hk => by rcases hk with rfl | hk; · omega
                      · cases hk)
      (fun fp pre x => tellsS_own _ L _ fp pre x) (fun _ => rfl)
      (fun fq pre W => PlI w kind fq pre W)
      (fun c pre W => False)
      (fun fq => plI_own _ _ _ (by omega) fq)
      (fun c => own_never)
      ⟨_, rfl, y1, World.ownsRow_nil _ _ _ _, y0, hbw2⟩
      (fun x a' W => ∃ b, Blk W b 42 #[.int .i64 x.r.k, .slice x.A x.n x.c, .slice x.B x.m x.d, .slice x.C x.p x.q] ∧ a' = { tmps := #[.slice A n c, .int .i64 pl, .int .i64 to, .int .i64 kind, undef, undef, undef, .pointer (some ⟨w.heap.size, 0, none⟩), .slice none 0 0, .pointer (some ⟨w.heap.size + 1, 0, none⟩), .int .i64 x.r.j, .pointer (some ⟨b, 0, none⟩), .slice A n c, .int .i64 to, .slice A T c, .int .i64 pl, scV (w.heap.size + 2), .int .i64 x.r.j, x.v, undef, undef, undef, undef, undef, undef, undef, undef, undef], defers := [] })
      (fun x a' _ A C row hs hg hr => by
        obtain ⟨b, h1, h2⟩ := hs
        exact ⟨b, own_blkAny b 42 (fun _ : Unit => _) () A C row h1 hg hr, h2⟩)
      ?assign ?body ?done ?stop
  case assign =>
    intro l2 x W3 K hW hK
    dsimp only [So.encs, So.v, obV]
    gi_wp2
    exact hK _ _ (boxed _ _) ⟨_, Blk.new _ _ _, rfl⟩
  case body =>
    rintro l2 fp fq pre x W3 ⟨v, rfl, hv, hrow, hkb, hbW⟩ hok hsub hlen hpx - a' ⟨b, hbx, rfl⟩
    have b0 := hbx.cell 0
    have kb := hkb.cell 0
    have cv := hv.cell
    obtain ⟨A1, c1, rfl, -, -⟩ := own_form hrow
    have hpl := placesS_le kind (pre.map (·.r))
    have hsh := SC.out.short
    rw [hn] at hsh
    rw [List.length_map] at hpl
    have hsn := placesS_snoc kind (pre.map (·.r)) x.r
    by_cases hk : (x.r.k : Int) = kind
    · rw [if_pos hk] at hsn
      have hd : ((x.r.k : Int) == kind) = true := by rw [hk]; exact beq_self_eq_true _
      obtain ⟨i0, hi, hz0, hz1, hz2⟩ := info_parts intInfo17
      have s1 := si1 (m := (placesS kind (pre.map (·.r))).length) (by omega)
      have s2 := si2 (m := (placesS kind (pre.map (·.r))).length) (by omega)
      have hkk := Lib.hid hk
      clear hk
      have hbx3 : Below W3.heap.size W3 W3 := Below.refl _ _
      gi_wp2_with (gi_at_builtin; go_loud (refine wpListIn_append_at _ rfl _ _ 27 rfl (w.heap.size + 2) 3 i0 (.int .i64 0) 1 8 Try.underlying27 hi hz0 hz1 hz2 rfl (by decide) _ _ _ rfl (hrow.alloc _) _ _ 1 1 [.int .i64 x.r.j] rfl (new1At rfl _ _) (intOne _) s1 s2 (by have := hv.lt; simp; omega) ?_; intro v' w1 hown' hgrow hat; obtain ⟨g', cap', rfl⟩ := ownsRow_succ hown'; obtain ⟨hv1, hv2, hr2, hg2⟩ := appendedF hv (by decide) hrow hown' hgrow hat; have hc1 := hv1.cell; have hf1 := hv1.frozen))
      have G := (GrowF.below hok hbx3).trans hg2
      have hkb3 := hkb.chg G.1 (fun e => by
        rcases e with e | e
        · omega
        · have := (hrow.lt _ e).1; omega)
      refine ⟨_, ⟨_, rfl, hv2, ?_, hkb3, ?_⟩, G⟩
      · rw [List.map_append, List.map_cons, List.map_nil, hsn, List.length_append, cellsOf_append]
        exact hr2
      · exact hbW.trans (G.1.below hbW.size (fun q _ e => by
          rcases e with e | e
          · omega
          · have := (hrow.lt _ e).1; omega))
    · rw [if_neg hk] at hsn
      have hd : ((x.r.k : Int) == kind) = false := beq_false_of_ne hk
      gi_wp2
      refine ⟨_, ⟨_, rfl, hv, ?_, hkb, hbW⟩, GrowF.refl hok⟩
      rw [List.map_append, List.map_cons, List.map_nil, hsn]
      exact hrow
  case done =>
    rintro D fq xs W hD hxs ⟨v, rfl, hv, hrow, hkb, hbW⟩ hK
    have cv := hv.cell
    gi_wp2
    refine ⟨by simp, .inl ⟨_, _, rfl, run_takeDeferred hK, ?_⟩⟩
    refine ⟨_, results_tmp rfl _ _ _, v, rfl, ?_, below_put1 hbW (by omega) _⟩
    rw [hxs] at hrow
    exact own_base (ownsRow_putObj hrow _ hK rfl) (by omega)
  case stop =>
    rintro D cc pre W hD hp hf hK
    exact hf.elim
end Go.Proofs.Ytjpfbkhjhainpaa
