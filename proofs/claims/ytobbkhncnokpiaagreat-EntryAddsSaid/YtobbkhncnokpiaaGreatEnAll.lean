/-
  LAYER 16: All: the entries of a file, collected: its contract.
-/
import Derived.Test.YtobbkhncnokpiaaGreatEnGet2
set_option linter.unusedVariables false
set_option maxRecDepth 100000
set_option linter.unusedSimpArgs false
namespace Go.Proofs.YtobbkhncnokpiaaGreat
open Go.RowKit Go.Shelf
attribute [local go_sem] Oper.semAt_some

theorem recInfo : (Tryz.prog.info? 36).map (fun i => (i.zero, i.size, i.bytes)) = some (some (.agg #[.int .u64 0, .int .u64 0, .int .u64 0, .int .u64 0, .slice none 0 0]), 5, 56) := by kernel_rfl

/-- The cells of records. -/
def cellsR5 (l : List RC) : List Value := (l.map RC.cs).flatten
theorem cellsR5_length (l : List RC) : (cellsR5 l).length = l.length * 5 := by
  induction l with
  | nil => rfl
  | cons r l ih =>
    unfold cellsR5 at ih ⊢
    rw [List.map_cons, List.flatten_cons, List.length_append, ih, List.length_cons]
    show 5 + _ = _
    omega
theorem cellsR5_snoc (l : List RC) (r : RC) : cellsR5 (l ++ [r]) = cellsR5 l ++ r.cs := by unfold cellsR5; rw [List.map_append, List.flatten_append]; simp

/-- The i-th entry, as it is told. -/
def recOf (o : GO) (A : Option Addr) (zs : List ByteArray) : RC := ⟨o.ws.getD 0 0, o.ws.getD 1 0, o.ws.getD 2 0, o.ws.getD 3 0, A, zs.length, zs.length, zs⟩
theorem recNew (w : World) (t : TypeId) (a b c d e : Value) : Reads (w.alloc (.cells #[a, b, c, d, e] t)) (w.heap.size + 1) 5 (some ⟨w.heap.size, 0, none⟩) 1 [a, b, c, d, e] := by
  refine ⟨rfl, fun _ => ⟨_, rfl, by simp, fun j u hj => ?_⟩⟩
  have e1 : (⟨w.heap.size, 0, none⟩ : Addr).add j = ⟨w.heap.size, j, none⟩ := by unfold Addr.add; split <;> simp_all
  rw [e1, (Blk.new w t #[a, b, c, d, e]).cell]
  simpa using hj
theorem recNew2 {w : World} {g : Nat} (hg : w.heap.size = g) (t : TypeId) (a b c d e : Value) : Reads (w.alloc (.cells #[a, b, c, d, e] t)) (g + 1) 5 (some ⟨g, 0, none⟩) 1 [a, b, c, d, e] := by subst hg; exact recNew w t a b c d e
theorem recOne (a b c d : Int) (A : Option Addr) (n m : Nat) : ∀ u ∈ [Value.int .u64 a, .int .u64 b, .int .u64 c, .int .u64 d, .slice A n m], u.oneCell' = true := fun u hu => by
  simp at hu
  rcases hu with rfl | rfl | rfl | rfl | rfl <;> rfl
theorem sr5a {m : Nat} (h : m ≤ 1001) : m + 1 ≤ maxLen := by unfold maxLen; omega
theorem sr5b {m : Nat} (h : m ≤ 1001) : (m + 1) * 56 ≤ 140737488355328 := by omega

/-- What the i-th record that is told is. -/
structure OneR (O : List GO) (Z : List (List ByteArray)) (W : World) (F : Nat → Prop) (i : Nat) (r : RC) : Prop where
  ex : ∃ o zs, O[i]? = some o ∧ Z[i]? = some zs ∧ r = recOf o r.A zs ∧ Txt W W.heap.size r.A zs.length zs.length zs ∧ (0 < zs.length → ∀ ad, r.A = some ad → ¬ F ad.block)
/-- What is held between two rounds. -/
def CollR (p : Nat) (w : World) (O : List GO) (Z : List (List ByteArray)) (fq : Nat → Prop) (m : Nat) (W : World) : Prop :=
  ∃ v l, fq = fpR (w.heap.size + 1) v ∧ Boxed W (w.heap.size + 1) 22 v ∧ W.ownsRow w.heap.size 36 5 v l.length (cellsR5 l) ∧ l.length = m ∧ (∀ i r, l[i]? = some r → OneR O Z W fq i r) ∧ Blk W w.heap.size 26 #[.pointer (some ⟨p, 0, none⟩)] ∧ Below w.heap.size w W
theorem collR_own {p : Nat} {w : World} {O : List GO} {Z : List (List ByteArray)} {C : Nat} (hC : w.heap.size + 2 ≤ C) (fq : Nat → Prop) : OwnFrom C (fun (pre : List Int) W => CollR p w O Z fq pre.length W) := by
  rintro pre W W' row ⟨v, l, e1, hv, hr, hm, he, hb, hbw⟩ hg hrow
  obtain ⟨v2, h2, h3, h4⟩ := own_row w.heap.size (w.heap.size + 1) C 22 36 5 (fun s : List RC => s.length) (fun s => cellsR5 s) l W W' row ⟨v, hv, hr, trivial⟩ hg hrow
  have hvv : v2 = v := by
    have := hv.kept hg (fun e => by
      obtain ⟨-, o, ho, hc⟩ := hrow (w.heap.size + 1) e.symm
      rw [show W.heap[w.heap.size + 1]? = _ from hv] at ho; cases ho; cases hc)
    have h5 : some (Obj.cells #[v2] 22 (0, 0)) = some (Obj.cells #[v] 22 (0, 0)) := (show W'.heap[w.heap.size + 1]? = _ from h2).symm.trans this
    simp at h5
    exact h5
  subst hvv
  refine ⟨v2, l, e1, h2, h3, hm, fun i r hi => ?_, hb.grown hg (fun e => by have := (hrow _ e.symm).1; omega), hbw.grown hg (by have := hbw.size; omega) (fun k e => by have := (hrow k e).1; omega)⟩
  obtain ⟨o, zs, h1, h2, h3, h4, h5⟩ := (he i r hi).ex
  exact ⟨⟨o, zs, h1, h2, h3, ⟨(h4.reads.grownF hg (fun r e => (hrow r e).2)).more hg.size, h4.le, h4.cap, h4.sz⟩, h5⟩⟩

section
variable {k d f : Int} {w w' wr : World} {base : Nat} {S T : Nat → Prop} {p lim : Nat} {was bs : List Int} {R : List DR} {O : List GO} {Lr : List Int} {tl cnt : Nat}

set_option maxHeartbeats 8000000 in
theorem eall_any {E : List (List (List Int))} {Z : List (List ByteArray)} (h : EX k d f w base S p lim was R O Lr tl cnt) (hE : EL R O Lr E) (hZ : E = Z.map fun zs => zs.map nums) (hsz : ∀ zs ∈ Z, ∀ s ∈ zs, s.size ≤ maxLen) (hO : O.length ≤ 1000) :
    Calls Tryz.prog 22 #[.pointer (some ⟨p, 0, none⟩)] w fun e w' => ∃ v l, e = .returned v ∧ w'.ownsRow w.heap.size 36 5 v l.length (cellsR5 l) ∧ l.length = O.length ∧ (∀ i r, l[i]? = some r → OneR O Z w' (fun q => v.ownBlock = some q) i r) ∧ Below w.heap.size w w' := by
  have hft := Lib.hid h.foot
  have hlr := hE.lr
  have hll : Lr.length = O.length := by rw [hlr, List.length_map]
  have hb0 : Below w.heap.size w ((w.alloc (.cells #[.pointer (some ⟨p, 0, none⟩)] 26)).alloc (.cells #[.slice none 0 0] 22)) := (boxed w _).alloc (boxed w _).size _
  have hsz0 : ((w.alloc (.cells #[.pointer (some ⟨p, 0, none⟩)] 26)).alloc (.cells #[.slice none 0 0] 22)).heap.size = w.heap.size + 2 := by simp
  have x0 := (Blk.new w 26 #[.pointer (some ⟨p, 0, none⟩)]).alloc (.cells #[.slice none 0 0] 22)
  have x1 : Boxed ((w.alloc (.cells #[.pointer (some ⟨p, 0, none⟩)] 26)).alloc (.cells #[.slice none 0 0] 22)) (w.heap.size + 1) 22 (.slice none 0 0) := by
    have := Blk.new (w.alloc (.cells #[.pointer (some ⟨p, 0, none⟩)] 26)) 22 #[.slice none 0 0]
    simp only [World.size_alloc] at this
    exact this
  have AX := Lib.hid (show Calls Tryz.prog 47 #[.pointer (some ⟨p, 0, none⟩), .int .i64 192] ((w.alloc (.cells #[.pointer (some ⟨p, 0, none⟩)] 26)).alloc (.cells #[.slice none 0 0] 22)) _ from by
    obtain ⟨its, hL⟩ := (h.below hb0).all (by omega)
    exact all_at hL 8 (by omega) (fpR (w.heap.size + 1) (.slice none 0 0)) (fun j hj e => by
      have := (hft.out j hj).2
      rcases e with e | e
      · omega
      · cases e) (fun j e => by
      rcases e with e | e
      · omega
      · cases e))
  have X := Lib.hid (And.intro hb0 (And.intro hsz0 (And.intro x0 x1)))
  have HH := Lib.hid (And.intro h (And.intro hE (And.intro hZ (And.intro hsz hO))))
  have HLL := Lib.hid (And.intro hlr hll)
  clear hb0 hsz0 x0 x1 h hE hZ hsz hO hlr hll
  refine (callsIn_wide (n := 9)).1 ?_
  refine callsIn_of_wp_marks Tryz.func22 rfl trivial ?_ rfl
  simp only [Tryz.ntmps22, List.size_toArray, List.length_cons, List.length_nil, Nat.reduceAdd, Nat.reduceSub, Array.replicate_succ, Array.replicate_zero, List.push_toArray, List.append_toArray, List.nil_append, List.cons_append]
  gi_wp2_with (refine ⟨trivial, ?_⟩; gi_at_call 47; refine (callsIn_wide.2 AX.out).mono ?_; rintro e w2 ⟨rfl, hb2, hseq⟩)
  obtain ⟨hb0, hsz0, x0, x1⟩ := X.out
  rw [hsz0] at hseq
  generalize (w.alloc (.cells #[.pointer (some ⟨p, 0, none⟩)] 26)).alloc (.cells #[.slice none 0 0] 22) = w0 at *
  have hs2 := hb2.size
  have hbw2 : Below w.heap.size w w2 := hb0.trans (hb2.mono hb0.size)
  have y0 := x0.below hb2 (by omega)
  have y1 : Boxed w2 (w.heap.size + 1) 22 (.slice none 0 0) := Blk.below (t := 22) (cs := #[.slice none 0 0]) x1 hb2 (by omega)
  clear X AX hb0 x0 x1 hb2
  refine wp_range_F (F := Fence.wide) (n := 9) rfl (by omega) (gf := 79) (lb := rwB (w.heap.size + 2)) rfl trivial (enters_of Tryz.func79 (by kernel_rfl) rfl) hseq
      (fun k hk => by rcases hk with rfl | hk; · omega
                      · cases hk)
      (fun fp pre z => tellsP_own Lr _ fp pre z) (fun _ => rfl)
      (fun fq pre W => CollR p w O Z fq pre.length W)
      (fun c pre W => False)
      (fun fq => collR_own (by omega) fq)
      (fun c => own_never)
      ⟨_, [], rfl, y1, World.ownsRow_nil _ _ _ _, rfl, (fun i r hi => by simp at hi), y0, hbw2⟩
      (fun z a' W' => a' = { tmps := #[.pointer (some ⟨p, 0, none⟩), .pointer (some ⟨w.heap.size, 0, none⟩), .slice none 0 0, .pointer (some ⟨w.heap.size + 1, 0, none⟩), .int .u64 z, undef, undef, .pointer (some ⟨p, 0, none⟩), alV (w.heap.size + 2), .int .u64 z, undef, undef, undef, undef, undef, undef, undef, undef, undef, undef, undef, undef], defers := [] })
      (fun z a' _ A C row hs hg hr => hs)
      ?assign ?body ?done ?stop
  case assign =>
    intro l2 z W3 K hW hK
    dsimp only [placeE]
    gi_wp2
    exact hK _ _ (Below.refl _ _) rfl
  case body =>
    rintro l2 fp fq pre z W3 ⟨v, l, rfl, hv, hrow, hlm, heach, hbm, hbW⟩ hok hsub hlen ⟨rest, hrest⟩ - a' rfl
    have k0 := hbm.cell 0
    obtain ⟨A1, c1, rfl, -, -⟩ := own_form hrow
    obtain ⟨hEX, hE, hZ, hsz, hO⟩ := HH.out
    have hzi : Lr[pre.length]? = some z := by rw [← hrest]; simp
    have hil : pre.length < O.length := by
      have := (List.getElem?_eq_some_iff.1 hzi).1
      rw [HLL.out.2] at this; exact this
    obtain ⟨o, ho⟩ : ∃ o, O[pre.length]? = some o := ⟨_, List.getElem?_eq_getElem hil⟩
    have hoz : z = (o.at_ : Int) := by
      rw [HLL.out.1, List.getElem?_map, ho] at hzi
      simpa using hzi.symm
    have hZl : Z.length = O.length := by rw [hE.len, hZ, List.length_map]
    obtain ⟨zs, hzs⟩ : ∃ zs, Z[pre.length]? = some zs := ⟨_, List.getElem?_eq_getElem (by omega)⟩
    have hEz : E[pre.length]? = some (zs.map nums) := by rw [hZ, List.getElem?_map, hzs]; rfl
    have RD := Lib.hid (eread_yes (hEX.below hbW) hE ho hEz (hsz zs (List.mem_of_getElem? hzs)))
    subst hoz
    obtain ⟨i0, hi, hz0, hz1, hz2⟩ := info_parts recInfo
    have s1 := sr5a (m := l.length) (by omega)
    have s2 := sr5b (m := l.length) (by omega)
    have hsW := hbW.size
    obtain ⟨v0, hv0⟩ : ∃ v, o.ws.getD 0 0 = v := ⟨_, rfl⟩
    obtain ⟨v1, hv1⟩ : ∃ v, o.ws.getD 1 0 = v := ⟨_, rfl⟩
    obtain ⟨v2, hv2⟩ : ∃ v, o.ws.getD 2 0 = v := ⟨_, rfl⟩
    obtain ⟨v3, hv3⟩ : ∃ v, o.ws.getD 3 0 = v := ⟨_, rfl⟩
    obtain ⟨at_, hate⟩ : ∃ a, o.at_ = a := ⟨_, rfl⟩
    obtain ⟨n, hn⟩ : ∃ n, zs.length = n := ⟨_, rfl⟩
    rw [hv0, hv1, hv2, hv3, hate, hn] at RD
    rw [hate]
    have HM := Lib.hid (And.intro ho (And.intro hzs (And.intro hv0 (And.intro hv1 (And.intro hv2 (And.intro hv3 hn))))))
    have HEA := Lib.hid heach
    have HOK := Lib.hid hok
    have HLM := Lib.hid hlm
    clear hEX hE hZ hsz hO hzi hil hZl hEz ho hzs hv0 hv1 hv2 hv3 hate hn hrest heach hok hsub hlen hlm
    gi_wp2_with (first
      | (refine ⟨trivial, ?_⟩; gi_at_call 40; go_loud (refine (CallsIn.inRound l2 (callsIn_wide.2 RD.out)).mono ?_; rintro e w4 ⟨A, rfl, ht4, hb4, hf4⟩; have hb5 : Below W3.heap.size W3 (w4.alloc (.cells #[.int .u64 v0, .int .u64 v1, .int .u64 v2, .int .u64 v3, .slice A n n] 36)) := hb4.alloc hb4.size _; have hv5 : Boxed (w4.alloc (.cells #[.int .u64 v0, .int .u64 v1, .int .u64 v2, .int .u64 v3, .slice A n n] 36)) (w.heap.size + 1) 22 (.slice A1 l.length c1) := Blk.below (t := 22) (cs := #[.slice A1 l.length c1]) hv hb5 hv.lt; have cv5 := hv5.cell; have hrow5 := own_below hrow hb5; have ht5 := ht4.below (boxed w4 (.cells #[.int .u64 v0, .int .u64 v1, .int .u64 v2, .int .u64 v3, .slice A n n] 36)); have hbm5 := hbm.below hb5 hbm.lt; have hs5 := hb5.size; have hs4 := hb4.size))
      | (gi_at_builtin; go_loud (refine wpListIn_append_at _ rfl _ _ 22 rfl w.heap.size 36 i0 (.agg #[.int .u64 0, .int .u64 0, .int .u64 0, .int .u64 0, .slice none 0 0]) 5 56 Tryz.underlying22 hi hz0 hz1 hz2 rfl (by decide) _ _ _ rfl (hrow5.alloc _) _ _ 1 1 [.int .u64 v0, .int .u64 v1, .int .u64 v2, .int .u64 v3, .slice A n n] rfl (recNew2 (World.size_alloc _ _) _ _ _ _ _ _) (recOne _ _ _ _ _ _ _) s1 s2 (by simp; omega) ?_; intro v' w1 hown' hgrow hat; obtain ⟨g', cap', rfl⟩ := ownsRow_succ hown'; obtain ⟨hv1, hv2, hr2, hg2⟩ := appendedF hv5 (by decide) hrow5 hown' hgrow hat; have hc1 := hv1.cell; have hf1 := hv1.frozen)))
    obtain ⟨ho, hzs, e0, e1, e2, e3, en⟩ := HM.out
    subst en
    have G := (GrowF.below HOK.out hb5).trans hg2
    have hlW := (hrow.lt)
    have hnbm : (Value.slice A1 l.length c1).ownBlock ≠ some w.heap.size := own_blk_ne hrow hbm (by decide)
    have hrc : recOf o A zs = ⟨v0, v1, v2, v3, A, zs.length, zs.length, zs⟩ := by unfold recOf; rw [e0, e1, e2, e3]
    refine ⟨_, ⟨_, l ++ [recOf o A zs], rfl, hv2, ?_, ?_, fun i r hi => ?_, ?_, ?_⟩, G⟩
    · rw [List.length_append, cellsR5_snoc, hrc]; exact hr2
    · rw [List.length_append, List.length_append, HLM.out]; rfl
    · rcases Nat.lt_or_ge i l.length with hlt | hge
      · rw [List.getElem?_append_left hlt] at hi
        obtain ⟨o', zs', h1, h2, h3, h4, h5⟩ := (HEA.out i r hi).ex
        refine ⟨⟨o', zs', h1, h2, h3, ⟨(h4.reads.chg G.1 (Nat.le_refl _) h5).more G.1.size, h4.le, h4.cap, h4.sz⟩, fun hn ad ha e => ?_⟩⟩
        obtain ⟨ad2, ea, hb, -⟩ := h4.reads.2 hn
        rw [ha] at ea; injection ea with ea; subst ea
        rcases (G.2 _ e).1 with e | e
        · exact h5 hn ad ha e
        · omega
      · have hi0 : i - l.length = 0 := by
          have := (List.getElem?_eq_some_iff.1 hi).1
          rw [List.length_append] at this
          simp at this; omega
        rw [List.getElem?_append_right hge, hi0] at hi
        have hrx : recOf o A zs = r := by simpa using hi
        have hil : i = pre.length := by rw [← HLM.out]; omega
        subst hrx
        subst hil
        have hAf : ∀ ad, A = some ad → ¬ fpR (w.heap.size + 1) (Value.slice A1 l.length c1) ad.block := fun ad ha e => by
          have hl3 := HOK.out _ e
          have := hf4 ad ha
          omega
        have hlw4 : w4.heap.size ≤ (w4.alloc (.cells #[.int .u64 v0, .int .u64 v1, .int .u64 v2, .int .u64 v3, .slice A zs.length zs.length] 36)).heap.size := by simp
        refine ⟨⟨o, zs, ho, hzs, rfl, ⟨(ht5.reads.chg hg2.1 hlw4 (fun _ => hAf)).more (Nat.le_trans hlw4 hg2.1.size), ht5.le, ht5.cap, ht5.sz⟩, fun hn ad ha e => ?_⟩⟩
        have ha : A = some ad := ha
        obtain ⟨ad2, ea, hb, -⟩ := ht5.reads.2 hn
        rw [ha] at ea; injection ea with ea; subst ea
        rcases (hg2.2 _ e).1 with e | e
        · exact hAf ad ha e
        · have : (w4.alloc (.cells #[.int .u64 v0, .int .u64 v1, .int .u64 v2, .int .u64 v3, .slice A zs.length zs.length] 36)).heap.size = w4.heap.size + 1 := World.size_alloc _ _
          omega
    · exact hbm.chg G.1 (fun e => by
        rcases e with e | e
        · omega
        · exact hnbm e)
    · refine hbW.trans (G.1.below hbW.size (fun q _ hq => ?_))
      rcases hq with hq | hq
      · omega
      · exact (hrow.lt q hq).1
  case done =>
    rintro D fq xs W3 hD hxs ⟨v, l, rfl, hv, hrow, hlm, heach, hbm, hbW⟩ hK
    have cv := hv.cell
    have hxs : xs = Lr := hxs
    subst hxs
    obtain ⟨A1, c1, rfl, -, -⟩ := own_form hrow
    have HE := Lib.hid (And.intro hlm heach)
    clear hlm heach
    gi_wp2
    refine ⟨by simp, .inl ⟨_, _, rfl, run_takeDeferred hK, ?_⟩⟩
    refine ⟨_, results_tmp rfl _ _ _, _, l, rfl, ownsRow_putObj hrow _ hK rfl, by rw [HE.out.1, HLL.out.2], fun i r hi => ?_, below_put1 hbW (by omega) _⟩
    obtain ⟨o, zs, h1, h2, h3, h4, h5⟩ := (HE.out.2 i r hi).ex
    exact ⟨⟨o, zs, h1, h2, h3, ⟨(h4.reads.put_other hK rfl).more (by simp), h4.le, h4.cap, h4.sz⟩, fun hn ad ha e => h5 hn ad ha (.inr e)⟩⟩
  case stop =>
    rintro D cc pre W3 hD hp hf hK
    exact hf.elim
end

end Go.Proofs.YtobbkhncnokpiaaGreat
