/-
  LAYER 15: WHAT Entries OF PACKAGE data TELLS: the entries that have an item.
-/
import Derived.Test.YtknimfnjmhmamaaGreatDaAsk2
set_option linter.unusedVariables false
set_option maxRecDepth 100000
set_option linter.unusedSimpArgs false
namespace Go.Proofs.YtknimfnjmhmamaaGreat
open Go.RowKit Go.Shelf
attribute [local go_sem] Oper.semAt_some

/-- An iterator's two boxes. -/
structure EnAt (w : World) (g p : Nat) (at_ : Int) : Prop where
  lo : g + 2 ≤ w.heap.size
  cm : w.cell? ⟨g, 0, none⟩ = some (.pointer (some ⟨p, 0, none⟩))
  ca : w.cell? ⟨g + 1, 0, none⟩ = some (.int .i64 at_)
abbrev enBx (g : Nat) : Array Value := #[.pointer (some ⟨g, 0, none⟩), .pointer (some ⟨g + 1, 0, none⟩)]
abbrev enV (g : Nat) : Value := .func (.func 63) #[] (enBx g)
theorem EnAt.below {w w' : World} {g p : Nat} {at_ : Int} (h : EnAt w g p at_) (hb : Below w.heap.size w w') : EnAt w' g p at_ :=
  ⟨Nat.le_trans h.lo hb.size, (hb.cell (p := ⟨g, 0, none⟩) (by have := h.lo; show g < _; omega)).trans h.cm, (hb.cell (p := ⟨g + 1, 0, none⟩) (by have := h.lo; show g + 1 < _; omega)).trans h.ca⟩
theorem entries_any (p : Nat) (at_ : Int) (w : World) :
    Calls Tryz.prog 33 #[.pointer (some ⟨p, 0, none⟩), .int .i64 at_] w fun e w' => e = .returned (enV w.heap.size) ∧ Below w.heap.size w w' ∧ EnAt w' w.heap.size p at_ := by
  go_enter Tryz.func33, Tryz.ntmps33
  go_wp2
  go_ret
  have c0 := (Blk.new w 26 #[.pointer (some ⟨p, 0, none⟩)]).cell 0
  have c1 := (Blk.new (w.alloc (.cells #[.pointer (some ⟨p, 0, none⟩)] 26)) 3 #[.int .i64 at_]).cell 0
  simp only [World.size_alloc] at c1
  exact ⟨rfl, (boxed _ _).alloc (boxed _ _).size _, ⟨by simp, cell_kept1 c0, c1⟩⟩

section
variable {base p : Nat} {S : Nat → Prop} {i k d f h : Int} {m : IM} {bv sv : Value}

set_option maxHeartbeats 4000000 in
/-- There are none. -/
theorem entries_N (n : Nat) (hn : 4 ≤ n) (fp₀ : Nat → Prop) (g : Nat) (at_ : Int) (w : World) (hB : EnAt w g p at_)
    (hF : ∀ wx, Below w.heap.size w wx → Calls Tryz.prog 31 #[.pointer (some ⟨p, 0, none⟩), .int .i64 at_] wx fun e w' => e = .returned (.int .u64 0) ∧ Below wx.heap.size wx w') :
    SeqF Fence.wide n Tryz.prog 63 (enBx g) placeE (TellsP []) fp₀ (IsL []) (PreL []) ([] : List Int).length w := by
  intro l J Jx W f1 hb hJ hJx hf1 hfok hY hst
  have hbox : Below W.heap.size W (W.alloc (.cells #[.func (.yield l) #[] #[]] 71)) := boxed _ _
  obtain ⟨W0, hW0⟩ : ∃ W0, W.alloc (.cells #[.func (.yield l) #[] #[]] 71) = W0 := ⟨_, rfl⟩
  rw [hW0] at hbox
  have B0 := (hB.below hb).below hbox
  have c1 := B0.cm
  have c2 := B0.ca
  have FI := Lib.hid (hF W0 (hb.trans (hbox.mono hb.size)))
  clear hY
  refine callsIn_of_wp_marks Tryz.func63 rfl trivial ?_ rfl
  simp only [Tryz.ntmps63, List.size_toArray, List.length_cons, List.length_nil, Nat.reduceAdd, Nat.reduceSub, Array.replicate_succ, Array.replicate_zero, List.push_toArray, List.append_toArray, List.nil_append, List.cons_append]
  gi_wp2_with (refine ⟨trivial, fun _ => by omega, ?_⟩; gi_at_call 31; refine (callsIn_wide.2 FI.out).mono ?_; rintro e w2 ⟨rfl, hb2⟩)
  refine ⟨(fun f hf => by cases hf), ?_⟩
  gi_wp2
  refine ⟨_, results_none rfl _ _ _, ⟨_, rfl⟩, .inl ?_⟩
  have hJ2 := ownFrom_below' (hJ f1) hst (hbox.trans (hb2.mono hbox.size))
  exact ⟨[], f1, rfl, hJ2⟩

set_option maxHeartbeats 4000000 in
/-- There are some. -/
theorem entries_F (n : Nat) (hn : 4 ≤ n) (fp₀ : Nat → Prop) (g a : Nat) (its : List It) (w : World) (H : IX w base S p i k d f h m bv sv) (hbm : AreB m.b) (hl : m.b.length ≤ 1099511627776)
    (hd : 1 ≤ d ∧ d ≤ 256) (hf : 1 ≤ f ∧ f ≤ 256) (hS : ∀ j, S j → j < w.heap.size ∧ ¬ fp₀ j) (hB : EnAt w g p a) (hT : ¬ fp₀ g ∧ ¬ fp₀ (g + 1)) (ha : a ≤ 1099511627776)
    (hits : ∀ t ∈ its, t.is.length ≤ 140737488355328) (hU : IsU (m.word (a + 48 : Nat))) (hch : chainAt m d f 4 0 0 (m.word (a + 48 : Nat)) its) (Ld : List Int) (hLd : Ld = placesA (its.map (·.is)).flatten)
    (x : Int) (hx : ¬ x = 0)
    (hF : ∀ wx, Below w.heap.size w wx → Calls Tryz.prog 31 #[.pointer (some ⟨p, 0, none⟩), .int .i64 a] wx fun e w' => e = .returned (.int .u64 x) ∧ Below wx.heap.size wx w') :
    SeqF Fence.wide n Tryz.prog 63 (enBx g) placeE (TellsP (x :: Ld)) fp₀ (IsL (x :: Ld)) (PreL (x :: Ld)) (x :: Ld).length w := by
  intro l J Jx W f1 hb hJ hJx hf1 hfok hY hst
  have hbox : Below W.heap.size W (W.alloc (.cells #[.func (.yield l) #[] #[]] 71)) := boxed _ _
  obtain ⟨W0, hW0⟩ : ∃ W0, W.alloc (.cells #[.func (.yield l) #[] #[]] 71) = W0 := ⟨_, rfl⟩
  have yb : Blk W0 W.heap.size 71 #[.func (.yield l) #[] #[]] := by rw [← hW0]; exact Blk.new _ _ _
  have hs0 : W0.heap.size = W.heap.size + 1 := by rw [← hW0]; simp
  have hs1 : W.heap.size < W0.heap.size ∧ W0.heap.size ≤ W.heap.size + 1 := by omega
  clear hs0
  rw [hW0] at hbox
  have hsW := hb.size
  have H0 : IX W0 base S p i k d f h m bv sv := (H.below hb).below hbox
  have B0 := (hB.below hb).below hbox
  have c1 := B0.cm
  have c2 := B0.ca
  have hgw : g + 2 ≤ w.heap.size := hB.lo
  have FI := Lib.hid (hF W0 (hb.trans (hbox.mono hb.size)))
  have hx0 : (x == 0) = false := by simpa using hx
  refine callsIn_of_wp_marks Tryz.func63 rfl trivial ?_ rfl
  simp only [Tryz.ntmps63, List.size_toArray, List.length_cons, List.length_nil, Nat.reduceAdd, Nat.reduceSub, Array.replicate_succ, Array.replicate_zero, List.push_toArray, List.append_toArray, List.nil_append, List.cons_append]
  gi_wp2_with (refine ⟨trivial, fun _ => by omega, ?_⟩; gi_at_call 31; refine (callsIn_wide.2 FI.out).mono ?_; rintro e w2 ⟨rfl, hb2⟩; have hbW2 := hbox.trans (hb2.mono hbox.size); have yb2 := yb.below hb2 (by omega); have y3 := yb2.cell 0; have hfok2 : FpOk f1 w2 := (fun q hq => Nat.lt_of_lt_of_le (hfok q hq) hbW2.size); obtain ⟨fn, tmps, assign, body, hy, hR⟩ := hY f1 [] x w2 (ownFrom_below' (hJ f1) hst hbW2) (by simp) hfok2 ⟨Ld, rfl⟩; dsimp only [placeE] at hy)
  refine ⟨fun _ => by omega, hR.mono ?_⟩
  have hf1' : ∀ k, W.heap.size ≤ k → ¬ f1 k := fun k hk e => by have := hfok k e; omega
  have hf1w : ∀ k, k < w.heap.size → ¬ fp₀ k → ¬ f1 k := fun k hk hn e => (hf1 k e).elim hn (fun e => by omega)
  have hsw2 := hbW2.size
  have hs02 := hb2.size
  rintro e W5 (⟨rfl, fp1, hJ1, hg1⟩ | ⟨rfl, hJx1, hc1⟩)
  · have H2 := H0.below hb2
    have H5 : IX W5 base S p i k d f h m bv sv := H2.keep hg1.1 (fun j hj => hf1w j (hS j hj).1 (hS j hj).2)
    have B2 := B0.below hb2
    have hk0 := hg1.keep (k := g) (by omega) (hf1w g (by omega) hT.1)
    have hk1 := hg1.keep (k := g + 1) (by omega) (hf1w (g + 1) (by omega) hT.2)
    have hky := hg1.keep yb2.lt (hf1' _ (Nat.le_refl _))
    have c1' := (World.cell?_of_block (a := ⟨g, 0, none⟩) hk0.1).trans B2.cm
    have c2' := (World.cell?_of_block (a := ⟨g + 1, 0, none⟩) hk1.1).trans B2.ca
    have yb5 : Blk W5 W.heap.size 71 #[.func (.yield l) #[] #[]] := hky.1.trans yb2
    have hs5 := hg1.1.size
    have hfok1 := hg1.ok
    have RT := Lib.hid (fun wx => rootD_any a wx ha)
    obtain ⟨q, hq⟩ : ∃ q, a + 48 = q := ⟨_, rfl⟩
    rw [hq] at RT hU hch
    have AL := Lib.hid (fun wx => call_any p (q : Nat) wx)
    have HC := Lib.hid (fun wx (hx9 : Below W5.heap.size W5 wx) => (⟨(hx9.cell (p := ⟨g, 0, none⟩) (show g < W5.heap.size by omega)).trans c1', (hx9.cell (p := ⟨g + 1, 0, none⟩) (show g + 1 < W5.heap.size by omega)).trans c2'⟩ : wx.cell? ⟨g, 0, none⟩ = some (.pointer (some ⟨p, 0, none⟩)) ∧ wx.cell? ⟨g + 1, 0, none⟩ = some (.int .i64 a)))
    have hbx : Below W5.heap.size W5 W5.drew := below_drewn (Below.refl _ _) 1
    have HK := Lib.hid (HC.out _ hbx)
    gi_wp2
    refine wpIn_wide.2 ?_
    go_region_held3 (fun w' => w'.cell? ⟨g, 0, none⟩ = some (.pointer (some ⟨p, 0, none⟩)) ∧ w'.cell? ⟨g + 1, 0, none⟩ = some (.int .i64 a))
      (first | assumption | exact HK.out | exact HC.out _ (by assumption))
      ((first
        | (go_at_call 30; refine (RT.out _).mono ?_; rintro e wx ⟨rfl, rfl⟩)
        | (go_at_call 64; refine (AL.out _).mono ?_; rintro e wx ⟨rfl, hbq, hfl⟩; have hbx := hbx.trans (hbq.mono hbx.size))))
    obtain ⟨gb, hgb⟩ : ∃ gb, W5.heap.size = gb := ⟨_, rfl⟩
    have hfl' : RwAt wx gb p (q : Int) := by rw [← hgb]; exact hfl
    have hlo' := hfl'.lo
    have hsx := hbx.size
    have HX := H5.below hbx
    have ybx := yb5.below hbx yb5.lt
    have hfp1 : ∀ k, gb ≤ k → ¬ fp1 k := fun k hk e => by have := hfok1 k e; omega
    have hSw : ∀ j, S j → j < wx.heap.size ∧ ¬ fp1 j := fun j hj => by
      have h1 := hS j hj
      exact ⟨by omega, (hg1.keep (k := j) (by omega) (hf1w j h1.1 h1.2)).2⟩
    have hseq := all_F (n - 1) (by omega) fp1 gb (q : Int) its wx HX hbm hl hd hf hSw hfl' ⟨hfp1 _ (Nat.le_refl _), hfp1 _ (by omega)⟩ (by omega) (by omega) hits hU hch Ld hLd
    have hJx5 : J fp1 [x] wx := ownFrom_below' (hJ fp1) hJ1 hbx
    rw [hgb]
    clear FI RT AL HC HK hfl c1' c2' hg1 hR hy hJ1
    gi_wp2
    refine wp_range_F (F := Fence.wide) (n := n) rfl (by omega) (gf := 99) (lb := rwB gb) rfl trivial (enters_of Tryz.func99 (by kernel_rfl) rfl) hseq
      (fun k hk => Nat.lt_of_lt_of_le (hfok1 k hk) hsx)
      (fun fp pre y => tellsP_own Ld _ fp pre y) (fun _ => rfl)
      (fun fq pre W' => J fq (x :: pre) W' ∧ Blk W' W.heap.size 71 #[.func (.yield l) #[] #[]] ∧ ¬ fq W.heap.size)
      (fun c pre W' => c = .ret ∧ SeqEnd (IsL (x :: Ld)) (PreL (x :: Ld)) J Jx W')
      (fun fq s A C row hs hg hr => ⟨hJ fq _ A C row hs.1 hg (fun r e => ⟨by have := (hr r e).1; omega, (hr r e).2⟩), own_blkOf (β := Unit) (B := wx.heap.size) (by omega) (fun _ => #[.func (.yield l) #[] #[]]) () A C row hs.2.1 hg hr, hs.2.2⟩)
      (fun c s A C row hs hg hr => ⟨hs.1, seqEnd_own hJ hJx (by omega) () A C row hs.2 hg hr⟩)
      ⟨hJx5, ybx, hky.2⟩
      (fun y a' W' => a' = { tmps := #[.func (.yield l) #[] #[], .pointer (some ⟨g, 0, none⟩), .pointer (some ⟨g + 1, 0, none⟩), .pointer (some ⟨W.heap.size, 0, none⟩), .int .u64 x, .int .u64 y, .pointer (some ⟨p, 0, none⟩), .int .i64 a, .int .u64 x, .int .u64 x, .bool false, .bool false, .func (.yield l) #[] #[], .int .u64 x, .bool true, .bool false, .bool false, .pointer (some ⟨p, 0, none⟩), .int .i64 a, .int .i64 q, alV gb, .int .u64 y, undef, undef, undef, undef], defers := [] })
      (fun y a' _ A C row hs hg hr => hs)
      ?assign ?body ?done ?stop
    case assign =>
      intro l2 y W3 K hW hK
      dsimp only [placeE]
      gi_wp2
      exact hK _ _ (Below.refl _ _) rfl
    case body =>
      rintro l2 fp fq pre y W3 ⟨hJs, yb3, hny⟩ hok hsub hlen ⟨rest, hrest⟩ - a' rfl
      have y3 := yb3.cell 0
      have hLe : (x :: pre) ++ y :: rest = x :: Ld := by rw [← hrest]; rfl
      have HP : Hid (PreL (x :: Ld) (x :: pre ++ [y])) := Lib.hid ⟨rest, by rw [← hrest]; simp⟩
      obtain ⟨fn, tmps, assign, body, hy, hR⟩ := YieldAt.deep (n - 1 - 1 - 1) l2 (hY fq (x :: pre) y W3 hJs (by rw [← hrest]; simp) hok ⟨_, hLe⟩)
      dsimp only [placeE] at hy
      clear hLe hrest
      gi_wp2
      refine ⟨(fun h => by cases h), hR.mono ?_⟩
      rintro e W6 (⟨rfl, fp5, hJ5, hg5⟩ | ⟨rfl, hJx5, hc5⟩)
      · gi_wp2
        exact ⟨fp5, ⟨hJ5, (hg5.keep yb3.lt hny).1.trans yb3, (hg5.keep yb3.lt hny).2⟩, hg5⟩
      · gi_wp2
        exact ⟨hc5, rfl, .inr ⟨_, HP.out, hJx5⟩⟩
    case done =>
      rintro D2 fq xs W3 hD hxs ⟨hJs, -, -⟩ hK
      have hxL : IsL (x :: Ld) (x :: xs) := by
        show _ = _
        rw [show xs = Ld from hxs]
      gi_wp2
      refine ⟨by simp, .inl ⟨_, _, rfl, run_takeDeferred hK, ?_⟩⟩
      refine ⟨_, results_none rfl _ _ _, ⟨_, rfl⟩, .inl ?_⟩
      have hJ9 := (hJ fq).putObj (.deferred none) hJs (by omega) hK rfl
      first | exact ⟨_, fq, hxL, hJ9⟩ | exact ⟨_, hxL, fq, hJ9⟩
    case stop =>
      rintro D2 cc pre W3 hD hp ⟨rfl, hf⟩ hK
      gi_wp2
      refine ⟨by simp, .inl ⟨_, _, rfl, run_takeDeferred hK, ?_⟩⟩
      refine ⟨_, results_none rfl _ _ _, ⟨_, rfl⟩, ?_⟩
      rcases hf with ⟨xs, fp', e1, e2⟩ | ⟨pre', e1, e2⟩
      · have hJ9 := (hJ fp').putObj (.deferred none) e2 (by omega) hK rfl
        first | exact .inl ⟨xs, fp', e1, hJ9⟩ | exact .inl ⟨xs, e1, fp', hJ9⟩
      · exact .inr ⟨pre', e1, hJx.putObj _ e2 (by omega) hK rfl⟩
  · gi_wp2
    refine ⟨_, results_none rfl _ _ _, ⟨_, rfl⟩, .inr ⟨[x], ⟨Ld, rfl⟩, hJx1⟩⟩
end

end Go.Proofs.YtknimfnjmhmamaaGreat
