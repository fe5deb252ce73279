/-
  LAYER 14: WHAT All's ITERATOR TELLS: the places of a list.
-/
import Derived.Test.YtblpmnipapimcaaChRows
set_option linter.unusedVariables false
set_option maxRecDepth 100000
set_option linter.unusedSimpArgs false
namespace Go.Proofs.Ytblpmnipapimcaa
open Go.RowKit Go.Shelf
attribute [local go_sem] Oper.semAt_some

/-- A place that is told. -/
def placeE (x : Int) : Array Value := #[.int .u64 x]
def TellsP (L : List Int) (fp : Nat → Prop) (pre : List Int) (x : Int) (W : World) : Prop := ∃ rest, pre ++ x :: rest = L
def IsL (L : List Int) (xs : List Int) : Prop := xs = L
def PreL (L : List Int) (pre : List Int) : Prop := ∃ rest, pre ++ rest = L
def flatR (pre : List Rw) : List Int := (pre.map (·.zs)).flatten
theorem flatR_snoc (pre : List Rw) (x : Rw) : flatR (pre ++ [x]) = flatR pre ++ x.zs := by simp [flatR]
theorem tellsP_own (L : List Int) (B : Nat) (fp : Nat → Prop) (pre : List Int) (x : Int) : OwnFrom B (fun (_ : Unit) W => TellsP L fp pre x W) := fun _ W W' row hs hg hr => hs

section
variable {base p : Nat} {S : Nat → Prop} {i k d f h : Int} {m : IM} {bv sv : Value}

set_option maxHeartbeats 4000000 in
theorem all_F (n : Nat) (hn : 3 ≤ n) (fp₀ : Nat → Prop) (g : Nat) (root : Int) (its : List It) (w : World) (H : IX w base S p i k d f h m bv sv) (hbm : AreB m.b) (hl : m.b.length ≤ 1099511627776)
    (hd : 1 ≤ d ∧ d ≤ 256) (hf : 1 ≤ f ∧ f ≤ 256) (hS : ∀ j, S j → j < w.heap.size ∧ ¬ fp₀ j) (hB : RwAt w g p root) (hT : ¬ fp₀ g ∧ ¬ fp₀ (g + 1)) (h0 : -9223372036854775808 ≤ root) (h1 : root ≤ 9223372036854775807)
    (hits : ∀ t ∈ its, t.is.length ≤ 140737488355328) (hU : IsU (m.word root)) (hch : chainAt m d f 4 0 0 (m.word root) its) (L : List Int) (hL : L = placesA (its.map (·.is)).flatten) :
    SeqF Fence.wide n Try.prog 53 (rwB g) placeE (TellsP L) fp₀ (IsL L) (PreL L) L.length w := by
  intro l J Jx W f1 hb hJ hJx hf1 hfok hY hst
  have hbox : Below W.heap.size W (W.alloc (.cells #[.func (.yield l) #[] #[]] 48)) := boxed _ _
  obtain ⟨W0, hW0⟩ : ∃ W0, W.alloc (.cells #[.func (.yield l) #[] #[]] 48) = W0 := ⟨_, rfl⟩
  have yb : Blk W0 W.heap.size 48 #[.func (.yield l) #[] #[]] := by rw [← hW0]; exact Blk.new _ _ _
  have hs0 : W0.heap.size = W.heap.size + 1 := by rw [← hW0]; simp
  rw [hW0] at hbox
  have hsW := hb.size
  have H0 : IX W0 base S p i k d f h m bv sv := (H.below hb).below hbox
  have AR := Lib.hid (crows_any p root W0)
  have c1 := ((hB.below hb).below hbox).cm
  have c2 := ((hB.below hb).below hbox).cr
  have hgw : g + 1 < W0.heap.size := by have := hB.lo; omega
  obtain ⟨gb, hgb⟩ : ∃ gb, W0.heap.size = gb := ⟨_, rfl⟩
  rw [hgb] at AR
  have HG := Lib.hid (And.intro hgb hs0)
  clear hgb hs0
  have HRS : Hid ((rowsL (its.map (·.is))).flatten = L) := Lib.hid (by rw [rowsL_flatten, hL])
  clear hL
  obtain ⟨rs, hrs⟩ : ∃ rs, rowsL (its.map (·.is)) = rs := ⟨_, rfl⟩
  refine callsIn_of_wp_marks Try.func53 rfl trivial ?_ rfl
  simp only [Try.ntmps53, List.size_toArray, List.length_cons, List.length_nil, Nat.reduceAdd, Nat.reduceSub, Array.replicate_succ, Array.replicate_zero, List.push_toArray, List.append_toArray, List.nil_append, List.cons_append]
  gi_wp2_with (refine ⟨trivial, (fun h => by cases h), ?_⟩; gi_at_call 34; refine (callsIn_wide.2 AR.out).mono ?_; rintro e w2 ⟨rfl, hb2, hfl⟩)
  obtain ⟨hgb, hs0⟩ := HG.out
  rw [← hgb] at hb2
  have hs2 := hb2.size
  have hlo := hfl.lo
  have H2 := H0.below hb2
  have hbW2 : Below W.heap.size W w2 := hbox.trans (hb2.mono hbox.size)
  have yb2 := yb.below hb2 (by omega)
  have hf1' : ∀ k, W.heap.size ≤ k → ¬ f1 k := fun k hk e => by have := hfok k e; omega
  have hSw : ∀ j, S j → j < w2.heap.size ∧ ¬ f1 j := fun j hj => by
    have := hS j hj
    exact ⟨by omega, fun e => by rcases hf1 j e with e | e; · exact this.2 e
                                 · omega⟩
  have hseq := rows_F (n - 1) (by omega) f1 gb root its w2 H2 hbm hl hd hf hSw hfl ⟨hf1' _ (by omega), hf1' _ (by omega)⟩ h0 h1 hits hU hch
  rw [hrs] at hseq HRS
  refine wp_range_F (F := Fence.wide) (n := n) rfl (by omega) (gf := 54) (lb := rwB gb) rfl trivial (enters_of Try.func54 (by kernel_rfl) rfl) hseq
      (fun k hk => by have := hfok k hk; omega)
      (fun fp pre x => tellsR_own rs _ fp pre x) (fun _ => rfl)
      (fun fq pre W' => J fq (flatR pre) W' ∧ Blk W' W.heap.size 48 #[.func (.yield l) #[] #[]] ∧ ¬ fq W.heap.size)
      (fun c pre W' => c = .ret ∧ SeqEnd (IsL L) (PreL L) J Jx W')
      (fun fq s A C row hs hg hr => ⟨hJ fq _ A C row hs.1 hg (fun r e => ⟨by have := (hr r e).1; omega, (hr r e).2⟩), own_blkOf (β := Unit) (B := w2.heap.size) (by omega) (fun _ => #[.func (.yield l) #[] #[]]) () A C row hs.2.1 hg hr, hs.2.2⟩)
      (fun c s A C row hs hg hr => ⟨hs.1, seqEnd_own hJ hJx (by omega) () A C row hs.2 hg hr⟩)
      ⟨ownFrom_below' (hJ f1) hst hbW2, yb2, hf1' _ (Nat.le_refl _)⟩
      (fun x a' W' => a' = { tmps := #[.func (.yield l) #[] #[], .pointer (some ⟨g, 0, none⟩), .pointer (some ⟨g + 1, 0, none⟩), .pointer (some ⟨W.heap.size, 0, none⟩), x.v, undef, undef, .pointer (some ⟨p, 0, none⟩), .int .i64 root, rwV gb, x.v, undef, undef, undef, undef, undef, undef, undef, undef, undef, undef, undef], defers := [] })
      (fun x a' _ A C row hs hg hr => hs)
      ?assign ?body ?done ?stop
  case assign =>
    intro l2 x W3 K hW hK
    dsimp only [Rw.encs]
    gi_wp2
    exact hK _ _ (Below.refl _ _) rfl
  case body =>
    rintro l2 fp fq pre x W3 ⟨hJs, yb3, hny⟩ hok hsub hlen ⟨⟨rest, hrest⟩, hlies, hfree⟩ - a' rfl
    have y3 := yb3.cell 0
    have hxl := hlies.rd.len
    dsimp only [Rw.v]
    gi_wp2
    gi_loopw [13] (fun s13 wr => ∃ (k : Nat) (fp' : Nat → Prop), s13 = .int .i64 k ∧ k ≤ x.n ∧ J fp' (flatR pre ++ x.zs.take k) wr ∧ GrowF fq W3 fp' wr) (fun s13 _ => x.n - (intOf s13).toNat)
    case atStart => exact ⟨0, fq, rfl, Nat.zero_le _, by rw [List.take_zero, List.append_nil]; exact hJs, GrowF.refl hok⟩
    case round =>
      obtain ⟨k, fp', rfl, hk, hJr, hgr⟩ := hrel
      have yr := (hgr.keep yb3.lt hny).1.trans yb3
      have y3r := Blk.cell yr 0
      by_cases hlt : k < x.n
      · have hrd : Reads wr W3.heap.size 1 x.A x.n (cellsOf .u64 x.zs) := hlies.rd.chg hgr.1 (Nat.le_refl _) (fun _ ad e hq => hfree ad e (hsub _ hq))
        obtain ⟨bl, off, hA, _, h1c⟩ := hrd.plain (by omega)
        have q1 := h1c k hlt
        obtain ⟨z, hz⟩ : ∃ z, x.zs.getD k 0 = z := ⟨_, rfl⟩
        rw [hz] at q1
        have htk : x.zs.take (k + 1) = x.zs.take k ++ [z] := by
          rw [List.take_succ_eq_append_getElem (by omega), ← hz, List.getD_eq_getElem?_getD, List.getElem?_eq_getElem (by omega)]; rfl
        have hLe : L = (flatR pre ++ x.zs.take k) ++ z :: (x.zs.drop (k + 1) ++ rest.flatten) := by
          have h1 : x.zs = x.zs.take (k + 1) ++ x.zs.drop (k + 1) := (List.take_append_drop _ _).symm
          rw [← HRS.out, ← hrest, List.flatten_append, List.flatten_cons]
          conv => lhs; rw [h1, htk]
          simp [flatR]
        obtain ⟨fn, tmps, assign, body, hy, hR⟩ := YieldAt.deep (n - 1 - 1 - 1) l2 (hY fp' (flatR pre ++ x.zs.take k) z wr hJr (by rw [hLe]; simp) hgr.ok ⟨_, hLe.symm⟩)
        dsimp only [placeE] at hy
        have i1 : (k : Int) < (x.n : Int) := by omega
        have hnx : x.n ≤ 9223372036854775807 := Nat.le_trans hlies.cap.1 hlies.cap.2
        rw [hA]
        have HF : Hid (flatR pre ++ x.zs.take k ++ [z] = flatR pre ++ x.zs.take (k + 1)) := Lib.hid (by rw [htk, List.append_assoc])
        have HP : Hid (PreL L (flatR pre ++ x.zs.take k ++ [z])) := Lib.hid ⟨x.zs.drop (k + 1) ++ rest.flatten, by rw [hLe]; simp⟩
        clear h1c hrd htk hLe hz
        gi_wp2
        refine ⟨(fun h => by cases h), hR.mono ?_⟩
        rintro e W5 (⟨rfl, fp5, hJ5, hg5⟩ | ⟨rfl, hJx5, hc5⟩)
        · gi_wp2
          go_roundw
          case rel => exact ⟨k + 1, fp5, by go_num, by omega, by rw [← HF.out]; exact hJ5, hgr.trans hg5⟩
          case measure => simp [intOf]; omega
        · gi_wp2
          exact ⟨hgr.1.trans hc5 (fun j hj e => (hgr.2 j e).1.elim id (fun e2 => by omega)), rfl, .inr ⟨_, HP.out, hJx5⟩⟩
      · have e : k = x.n := by omega
        subst e
        gi_wp2
        refine ⟨fp', ⟨?_, yr, (hgr.keep yb3.lt hny).2⟩, hgr⟩
        rw [flatR_snoc]
        rw [List.take_of_length_le (Nat.le_of_eq hxl)] at hJr
        exact hJr
  case done =>
    rintro D fq xs W3 hD hxs ⟨hJs, -, -⟩ hK
    gi_wp2
    refine ⟨by simp, .inl ⟨_, _, rfl, run_takeDeferred hK, ?_⟩⟩
    refine ⟨_, results_none rfl _ _ _, ⟨_, rfl⟩, .inl ⟨flatR xs, ?_, fq, (hJ fq).putObj _ hJs (by omega) hK rfl⟩⟩
    unfold IsL flatR; rw [hxs]; exact HRS.out
  case stop =>
    rintro D cc pre W3 hD hp ⟨rfl, hf⟩ hK
    gi_wp2
    refine ⟨by simp, .inl ⟨_, _, rfl, run_takeDeferred hK, ?_⟩⟩
    refine ⟨_, results_none rfl _ _ _, ⟨_, rfl⟩, ?_⟩
    rcases hf with ⟨xs, fp', e1, e2⟩ | ⟨pre', e1, e2⟩
    · exact .inl ⟨xs, e1, fp', (hJ fp').putObj _ e2 (by omega) hK rfl⟩
    · exact .inr ⟨pre', e1, hJx.putObj _ e2 (by omega) hK rfl⟩
end

end Go.Proofs.Ytblpmnipapimcaa
