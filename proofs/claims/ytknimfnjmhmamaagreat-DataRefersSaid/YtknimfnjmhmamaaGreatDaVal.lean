/-
  LAYER 15: WHAT Values OF PACKAGE data TELLS: the items of a field.
-/
import Derived.Test.YtknimfnjmhmamaaGreatDaIntern2
set_option linter.unusedVariables false
set_option maxRecDepth 100000
set_option linter.unusedSimpArgs false
namespace Go.Proofs.YtknimfnjmhmamaaGreat
open Go.RowKit Go.Shelf
attribute [local go_sem] Oper.semAt_some

/-- An iterator's two boxes. -/
structure VlAt (w : World) (g p : Nat) (s : ByteArray) : Prop where
  lo : g + 2 ≤ w.heap.size
  cm : w.cell? ⟨g, 0, none⟩ = some (.pointer (some ⟨p, 0, none⟩))
  cs : w.cell? ⟨g + 1, 0, none⟩ = some (.string s)
abbrev vlB (g : Nat) : Array Value := #[.pointer (some ⟨g, 0, none⟩), .pointer (some ⟨g + 1, 0, none⟩)]
abbrev vlV (g : Nat) : Value := .func (.func 67) #[] (vlB g)
theorem VlAt.below {w w' : World} {g p : Nat} {s : ByteArray} (h : VlAt w g p s) (hb : Below w.heap.size w w') : VlAt w' g p s :=
  ⟨Nat.le_trans h.lo hb.size, (hb.cell (p := ⟨g, 0, none⟩) (by have := h.lo; show g < _; omega)).trans h.cm, (hb.cell (p := ⟨g + 1, 0, none⟩) (by have := h.lo; show g + 1 < _; omega)).trans h.cs⟩
theorem values_any (p : Nat) (s : ByteArray) (w : World) :
    Calls Tryz.prog 37 #[.pointer (some ⟨p, 0, none⟩), .string s] w fun e w' => e = .returned (vlV w.heap.size) ∧ Below w.heap.size w w' ∧ VlAt w' w.heap.size p s := by
  go_enter Tryz.func37, Tryz.ntmps37
  go_wp2
  go_ret
  have c0 := (Blk.new w 26 #[.pointer (some ⟨p, 0, none⟩)]).cell 0
  have c1 := (Blk.new (w.alloc (.cells #[.pointer (some ⟨p, 0, none⟩)] 26)) 9 #[.string s]).cell 0
  simp only [World.size_alloc] at c1
  exact ⟨rfl, (boxed _ _).alloc (boxed _ _).size _, ⟨by simp, cell_kept1 c0, c1⟩⟩

/-- An item that is told. -/
def itE (x : Nat × List Int) : Array Value := #[.int .i64 x.1, .string (strOfNums x.2)]
def TellsV (L : List (Nat × List Int)) (fp : Nat → Prop) (pre : List (Nat × List Int)) (x : Nat × List Int) (W : World) : Prop := ∃ rest, pre ++ x :: rest = L
def IsV (L xs : List (Nat × List Int)) : Prop := xs = L
def PreV (L pre : List (Nat × List Int)) : Prop := ∃ rest, pre ++ rest = L
theorem tellsV_own (L : List (Nat × List Int)) (B : Nat) (fp : Nat → Prop) (pre : List (Nat × List Int)) (x : Nat × List Int) : OwnFrom B (fun (_ : Unit) W => TellsV L fp pre x W) := fun _ W W' row hs hg hr => hs
/-- The items of a field. -/
def valsG (l : List GO) (fs : List Int) : List (Nat × List Int) := (l.filter (pFld fldI fs 0)).map (fun o => (o.at_, o.raw))
def obI (x : Ob) : Nat × List Int := (x.t.j, x.t.rs)

section
variable {base p : Nat} {S : Nat → Prop} {i k d f h : Int} {m : IM} {bv sv : Value} {l : List GO}

theorem DB.noField (D : DB fldI k d f 0 0 m.b l) {fs : List Int} (h : findG l 2 fs = none) : valsG l fs = [] := by
  unfold valsG
  have e : l.filter (pFld fldI fs 0) = [] := by
    refine List.filter_eq_nil_iff.2 fun r hr hp => ?_
    obtain ⟨⟨h1, h2⟩, h3⟩ := pFld_iff.1 hp
    obtain ⟨fo, hf, hfk, hfr⟩ := D.own r hr h1 h3
    exact findG_none h fo hf hfk (hfr.trans h2)
  rw [e]; rfl

set_option maxHeartbeats 400000 in
theorem values_F (n : Nat) (hn : 3 ≤ n) (fp₀ : Nat → Prop) (g : Nat) (s : ByteArray) (w : World) (D : DB fldI k d f 0 0 m.b l) (H : IX w base S p i k d f h m bv sv) (hbm : AreB m.b) (hk : IsU k) (hss : s.size ≤ 140737488355328)
    (hS : ∀ j, S j → j < w.heap.size ∧ ¬ fp₀ j) (hB : VlAt w g p s) (hT : ¬ fp₀ g ∧ ¬ fp₀ (g + 1)) (L : List (Nat × List Int)) (hL : L = valsG l (nums s)) :
    SeqF Fence.wide n Tryz.prog 67 (vlB g) itE (TellsV L) fp₀ (IsV L) (PreV L) L.length w := by
  intro l1 J Jx W f1 hb hJ hJx hf1 hfok hY hst
  have hm : s.size ≤ maxLen := by unfold maxLen; omega
  have hbox : Below W.heap.size W (W.alloc (.cells #[.func (.yield l1) #[] #[]] 113)) := boxed _ _
  obtain ⟨W0, hW0⟩ : ∃ W0, W.alloc (.cells #[.func (.yield l1) #[] #[]] 113) = W0 := ⟨_, rfl⟩
  have yb : Blk W0 W.heap.size 113 #[.func (.yield l1) #[] #[]] := by rw [← hW0]; exact Blk.new _ _ _
  have hs0 : W0.heap.size = W.heap.size + 1 := by rw [← hW0]; simp
  rw [hW0] at hbox
  have hsW := hb.size
  have H0 : IX W0 base S p i k d f h m bv sv := (H.below hb).below hbox
  have B0 := (hB.below hb).below hbox
  have c1 := B0.cm
  have c2 := B0.cs
  have hgw : g + 1 < W0.heap.size := by have := hB.lo; omega
  have hbt := textW_below W0 s
  have cv := conv_text s W0
  have FI := Lib.hid (gfind_any 2 (.inr rfl) (some ⟨W0.heap.size, 0, none⟩) s.size (capS W0 s) (nums s) (textW W0 s) D (H0.below hbt) hbm hk (textW_reads W0 s) (Nat.le_refl _) (nums_bytes s) (capS_le hm).1 (capS_le hm).2 hss)
  have HG := Lib.hid (And.intro hbt hs0)
  have hmost := D.gb.most
  clear hs0 hbt
  cases hfi : findG l 2 (nums s) with
  | none =>
    have hL0 : L = [] := by rw [hL]; exact D.noField hfi
    simp only [hfi, Option.getD_none, Option.isSome_none] at FI
    subst hL0
    clear hY hL
    refine callsIn_of_wp_marks Tryz.func67 rfl trivial ?_ rfl
    simp only [Tryz.ntmps67, List.size_toArray, List.length_cons, List.length_nil, Nat.reduceAdd, Nat.reduceSub, Array.replicate_succ, Array.replicate_zero, List.push_toArray, List.append_toArray, List.nil_append, List.cons_append]
    gi_wp2_with (refine ⟨trivial, fun _ => by omega, ?_⟩; gi_at_call 68; refine (callsIn_wide.2 FI.out).mono ?_; rintro e w2 ⟨rfl, hb2⟩)
    refine ⟨_, results_none rfl _ _ _, ⟨_, rfl⟩, .inl ?_⟩
    have hJ2 := ownFrom_below' (hJ f1) hst ((hbox.trans (HG.out.1.mono hbox.size)).trans (hb2.mono (hbox.trans (HG.out.1.mono hbox.size)).size))
    exact ⟨[], f1, rfl, hJ2⟩
  | some a =>
    obtain ⟨fo, hf, hfk, hfr, hfa⟩ := findG_some hfi
    subst hfa
    obtain ⟨hch, hU⟩ := D.valuesAt hf hfk
    have hfo := (D.gb.fine fo hf).2.2
    simp only [hfi, Option.getD_some, Option.isSome_some] at FI
    obtain ⟨q, hq⟩ : ∃ q, fo.at_ + 32 = q := ⟨_, rfl⟩
    rw [hq] at hch hU
    have hq0 : ((fo.at_ : Nat) : Int) + 32 = (q : Int) := by omega
    have hq1 : IntKind.i64.wrap (q : Int) = (q : Int) := by rw [IntKind.wrap_i64]; omega
    have OA := Lib.hid (fun wx => oat_any 2 wx (by omega) (by omega))
    have WW := Lib.hid (fun wx (hb : Below W0.heap.size W0 wx) => iword_any (q : Nat) wx (H0.below hb) hbm (by omega) (by omega))
    obtain ⟨pl, hpl⟩ : ∃ pl, m.word (q : Nat) = pl := ⟨_, rfl⟩
    rw [hpl] at hch hU WW
    have FF := Lib.hid (fun wx => tfollow_any p pl 1 2 wx)
    refine callsIn_of_wp_marks Tryz.func67 rfl trivial ?_ rfl
    simp only [Tryz.ntmps67, List.size_toArray, List.length_cons, List.length_nil, Nat.reduceAdd, Nat.reduceSub, Array.replicate_succ, Array.replicate_zero, List.push_toArray, List.append_toArray, List.nil_append, List.cons_append]
    gi_wp2_with (refine ⟨trivial, fun _ => by omega, ?_⟩; gi_at_call 68; refine (callsIn_wide.2 FI.out).mono ?_; rintro e w2 ⟨rfl, hb2⟩; have c1' := (HG.out.1.trans (hb2.mono HG.out.1.size)).cell (p := ⟨g, 0, none⟩) (show g < _ by omega); rw [c1] at c1')
    have hb02 : Below W0.heap.size W0 w2 := HG.out.1.trans (hb2.mono HG.out.1.size)
    have HWW := Lib.hid (fun wx (hx : Below w2.heap.size w2 wx) => WW.out wx (hb02.trans (hx.mono hb02.size)))
    have HC := Lib.hid (fun wx (hx : Below w2.heap.size w2 wx) => ((hx.cell (p := ⟨g, 0, none⟩) (show g < w2.heap.size by have := hb02.size; omega)).trans c1' : wx.cell? ⟨g, 0, none⟩ = some (.pointer (some ⟨p, 0, none⟩))))
    have hb : Below w2.heap.size w2 w2.drew := below_drewn (Below.refl _ _) 1
    have HK := Lib.hid (HC.out _ hb)
    refine wpIn_wide.2 ?_
    go_region_held3 (fun w' => w'.cell? ⟨g, 0, none⟩ = some (.pointer (some ⟨p, 0, none⟩)))
      (first | assumption | exact HK.out | exact HC.out _ (by assumption))
      ((first
        | (go_at_call 27; refine (OA.out _).mono ?_; rintro e wx ⟨rfl, rfl⟩)
        | (go_at_call 28; refine (HWW.out _ hb).mono ?_; rintro e wx ⟨rfl, rfl⟩)
        | (go_at_call 69; refine (FF.out _).mono ?_; rintro e wx ⟨rfl, hbx, hfl⟩; have hb := hb.trans (hbx.mono hb.size))))
    obtain ⟨its, hits⟩ : ∃ its, (l.filter (pFld fldI fo.raw 0)).map GO.it = its := ⟨_, rfl⟩
    have hLi : L = its.map (fun t => (t.j, t.rs)) := by
      rw [hL, ← hits, hfr, List.map_map]; rfl
    rw [hits] at hch
    have hs0 : W.heap.size < W0.heap.size ∧ W0.heap.size ≤ W.heap.size + 1 := by have := HG.out.2; omega
    have hs2 := hb02.size
    have hsb := hb.size
    have hlo := hfl.lo
    have hbWx : Below W.heap.size W wx := hbox.trans ((hb02.trans (hb.mono hb02.size)).mono hbox.size)
    have HX := H0.below (hb02.trans (hb.mono hb02.size))
    have ybx := yb.below (hb02.trans (hb.mono hb02.size)) (by omega)
    have hf1' : ∀ k, W.heap.size ≤ k → ¬ f1 k := fun k hk e => by have := hfok k e; omega
    have hSw : ∀ j, S j → j < wx.heap.size ∧ ¬ f1 j := fun j hj => by
      have := hS j hj
      exact ⟨by omega, fun e => by rcases hf1 j e with e | e; · exact this.2 e
                                   · omega⟩
    obtain ⟨gb, hgb⟩ : ∃ gb, w2.heap.size = gb := ⟨_, rfl⟩
    have hfl' : FlAt wx gb p pl 1 2 := by rw [← hgb]; exact hfl
    have hlo' := hfl'.lo
    have hseq := follow_F (n - 1) (by omega) f1 (gb + 3) (gb + 2) (gb + 1) gb 1 2 pl its wx HX hbm hmost D.hD D.hF hSw (by omega) ⟨hf1' _ (by omega), hf1' _ (by omega), hf1' _ (by omega), hf1' _ (by omega)⟩ hfl'.cw hfl'.ck hfl'.cp hfl'.cm (by decide) hU hch
    rw [hgb]
    clear FI FF WW HWW HC HK OA cv hfl
    gi_wp2
    refine wp_range_F (F := Fence.wide) (n := n) rfl (by omega) (gf := 100) (lb := #[.pointer (some ⟨gb + 3, 0, none⟩), .pointer (some ⟨gb + 2, 0, none⟩), .pointer (some ⟨gb + 1, 0, none⟩), .pointer (some ⟨gb, 0, none⟩)]) rfl trivial (enters_of Tryz.func100 (by kernel_rfl) rfl) hseq
      (fun k hk => by have := hfok k hk; omega)
      (fun fp pre x => tellsF_own its _ fp pre x) (fun _ => rfl)
      (fun fq pre W' => J fq (pre.map obI) W' ∧ Blk W' W.heap.size 113 #[.func (.yield l1) #[] #[]] ∧ ¬ fq W.heap.size)
      (fun c pre W' => c = .ret ∧ SeqEnd (IsV L) (PreV L) J Jx W')
      (fun fq s A C row hs hg hr => ⟨hJ fq _ A C row hs.1 hg (fun r e => ⟨by have := (hr r e).1; omega, (hr r e).2⟩), own_blkOf (β := Unit) (B := wx.heap.size) (by omega) (fun _ => #[.func (.yield l1) #[] #[]]) () A C row hs.2.1 hg hr, hs.2.2⟩)
      (fun c s A C row hs hg hr => ⟨hs.1, seqEnd_own hJ hJx (by omega) () A C row hs.2 hg hr⟩)
      ⟨ownFrom_below' (hJ f1) hst hbWx, ybx, hf1' _ (Nat.le_refl _)⟩
      (fun x a' W' => ∃ b, Blk W' b 91 #[.int .i64 1, .slice x.A x.n x.c, .slice x.B x.m x.d, .slice x.C x.p x.q] ∧ a' = { tmps := #[.func (.yield l1) #[] #[], .pointer (some ⟨g, 0, none⟩), .pointer (some ⟨g + 1, 0, none⟩), .pointer (some ⟨W.heap.size, 0, none⟩), .int .i64 fo.at_, .bool true, .int .i64 x.t.j, .pointer (some ⟨b, 0, none⟩), .tuple #[.int .i64 fo.at_, .bool true], .pointer (some ⟨p, 0, none⟩), .string s, .slice (some ⟨W0.heap.size, 0, none⟩) s.size (capS W0 s), .tuple #[.int .i64 fo.at_, .bool true], .int .i64 fo.at_, .bool true, .bool true, .bool false, .pointer (some ⟨p, 0, none⟩), .pointer (some ⟨p, 0, none⟩), .int .i64 fo.at_, .int .i64 32, .int .i64 q, .int .u64 pl, flV gb, .int .i64 x.t.j, x.v 1, undef, undef, undef, undef, undef, undef, undef], defers := [] })
      (fun x a' _ A C row hs hg hr => by
        obtain ⟨b, h1, h2⟩ := hs
        exact ⟨b, h1.grown hg (fun e => by obtain ⟨-, o, ho, hc⟩ := hr b e.symm; rw [show A.heap[b]? = _ from h1] at ho; cases ho; cases hc), h2⟩)
      ?assign ?body ?done ?stop
    case assign =>
      intro l2 x W3 K hW hK
      dsimp only [Ob.encs, Ob.v, obV]
      gi_wp2
      exact hK _ _ (boxed _ _) ⟨W3.heap.size, Blk.new _ _ _, rfl⟩
    case body =>
      rintro l2 fp fq pre x W3 ⟨hJs, yb3, hny⟩ hok hsub hlen ⟨⟨⟨rest, hrest⟩, hlies⟩, hfree⟩ - a' ⟨b, hbx, rfl⟩
      have b2 := hbx.cell 2
      have y3 := yb3.cell 0
      have hct : (convert 60 9 (.slice x.B x.m x.d)).run Tryz.prog W3 = .ok (.string (strOfNums x.t.rs)) W3 := run_text _ _ _ Tryz.underlying60 Tryz.underlying5 Tryz.underlying9 hlies.rr x.d
      have hLe : (pre.map obI) ++ obI x :: rest.map (fun t => (t.j, t.rs)) = L := by
        rw [hLi, ← hrest, List.map_append, List.map_map, List.map_cons]; rfl
      have HP : Hid (PreV L (pre.map obI ++ [obI x])) := Lib.hid ⟨rest.map (fun t => (t.j, t.rs)), by rw [← hLe]; simp⟩
      obtain ⟨fn, tmps, assign, body, hy, hR⟩ := YieldAt.deep (n - 1 - 1 - 1) l2 (hY fq (pre.map obI) (obI x) W3 hJs (by rw [← hLe]; simp) hok ⟨_, hLe⟩)
      dsimp only [itE, obI] at hy
      clear hLe hLi hL hrest
      gi_wp2
      refine ⟨(fun h => by cases h), hR.mono ?_⟩
      rintro e W5 (⟨rfl, fp5, hJ5, hg5⟩ | ⟨rfl, hJx5, hc5⟩)
      · gi_wp2
        refine ⟨fp5, ⟨?_, (hg5.keep yb3.lt hny).1.trans yb3, (hg5.keep yb3.lt hny).2⟩, hg5⟩
        rw [List.map_append]
        exact hJ5
      · gi_wp2
        exact ⟨hc5, rfl, .inr ⟨_, HP.out, hJx5⟩⟩
    case done =>
      rintro D2 fq xs W3 hD hxs ⟨hJs, -, -⟩ hK
      have hxL : IsV L (xs.map obI) := by
        show _ = _
        rw [hLi, ← hxs, List.map_map]; rfl
      gi_wp2
      refine ⟨by simp, .inl ⟨_, _, rfl, run_takeDeferred hK, ?_⟩⟩
      refine ⟨_, results_none rfl _ _ _, ⟨_, rfl⟩, .inl ?_⟩
      have hJ9 := (hJ fq).putObj (.deferred none) hJs (by omega) hK rfl
      first | exact ⟨_, fq, hxL, hJ9⟩ | exact ⟨_, hxL, fq, hJ9⟩
    case stop =>
      rintro D2 cc pre W3 hD hp ⟨rfl, hf⟩ hK
      gi_wp2
      refine ⟨by simp, .inl ⟨_, _, rfl, run_takeDeferred hK, ?_⟩⟩
      refine ⟨_, results_none rfl _ _ _, ⟨_, rfl⟩, ?_⟩
      rcases hf with ⟨xs, fp', e1, e2⟩ | ⟨pre', e1, e2⟩
      · have hJ9 := (hJ fp').putObj (.deferred none) e2 (by omega) hK rfl
        first | exact .inl ⟨xs, fp', e1, hJ9⟩ | exact .inl ⟨xs, e1, fp', hJ9⟩
      · exact .inr ⟨pre', e1, hJx.putObj _ e2 (by omega) hK rfl⟩
end

end Go.Proofs.YtknimfnjmhmamaaGreat
