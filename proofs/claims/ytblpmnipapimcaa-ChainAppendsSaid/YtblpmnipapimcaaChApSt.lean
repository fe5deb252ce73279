/-
  LAYER 14: ChainAppends' state: the file, and the document's two lists beside it; what a round does to it.
-/
import Derived.Test.YtblpmnipapimcaaChAp0
import Derived.Test.YtblpmnipapimcaaChAp1
import Derived.Test.YtblpmnipapimcaaChAp2
set_option linter.unusedVariables false
set_option maxRecDepth 100000
set_option linter.unusedSimpArgs false
namespace Go.Proofs.Ytblpmnipapimcaa
open Go.RowKit Go.Shelf

theorem blk_ne {w : World} {g g' : Nat} {t t' : TypeId} {cs cs' : Array Value} (h : Blk w g t cs) (h' : Blk w g' t' cs') (hne : t ≠ t') : g ≠ g' := fun e => by
  subst e
  have h1 : w.heap[g]? = _ := h
  have h2 : w.heap[g]? = _ := h'
  rw [h1] at h2
  injection h2 with h2
  injection h2 with _ h2
  exact hne h2
theorem updN_self (As : Nat → Nat) (t : Nat) : updN As t (As t) = As := by
  funext u; unfold updN; split
  · rename_i e; rw [e]
  · rfl
theorem CS.more {w : World} {base : Nat} {S : Nat → Prop} {p lim : Nat} {Ls : Nat → List Int} {As : Nat → Nat} {tl cnt cnt' : Nat} (h : CS w base S p lim Ls As tl cnt) (hc : cnt ≤ cnt') (hm : cnt' ≤ 1000000) : CS w base S p lim Ls As tl cnt' := by
  obtain ⟨⟨k, m, bv, sv, l, h1, h2, h3, h4, h5, h6, h7, h8⟩, hs, hf⟩ := h
  exact ⟨⟨k, m, bv, sv, l, h1, h2, h3, h4, h5, by omega, h7, h8⟩, ⟨hs.1, hm⟩, fun t ht => by have := hf t ht; omega⟩

/-- What lies beside the file. -/
structure ApR (w wr : World) (S : Nat → Prop) (Ls : Nat → List Int) (As : Nat → Nat) (ga gl : Nat) (gs : Nat → Nat) (vs : Nat → Value) : Prop where
  rl : ∀ t, t < 2 → RL wr w.heap.size (gs t) (vs t) (Ls t) (As t)
  ka : Blk wr ga 3 #[.int .i64 192, .int .i64 200]
  kl : Blk wr gl 29 #[.pointer (some ⟨gs 0, 0, none⟩), .pointer (some ⟨gs 1, 0, none⟩)]
  apS : ∀ j, S j → j ≠ ga ∧ j ≠ gl ∧ ∀ t, t < 2 → j ≠ gs t ∧ (vs t).ownBlock ≠ some j
  apV : ∀ t u, t < 2 → u < 2 → t ≠ u → gs t ≠ gs u ∧ ∀ j, (vs t).ownBlock = some j → (vs u).ownBlock ≠ some j
  lo : ∀ t, t < 2 → w.heap.size ≤ gs t
  bel : Below w.heap.size w wr

section
variable {w wr w' : World} {S : Nat → Prop} {Ls : Nat → List Int} {As : Nat → Nat} {ga gl : Nat} {gs : Nat → Nat} {vs : Nat → Value}

theorem ApR.app1 (h : ApR w wr S Ls As ga gl gs vs) (hS : ∀ j, S j → w.heap.size ≤ j ∧ j < wr.heap.size) (hc : Chg S wr w') : ApR w w' (grow S wr w') Ls As ga gl gs vs where
  rl t ht := (h.rl t ht).chg hc (fun e => ((h.apS _ e).2.2 t ht).1 rfl) (fun j hj e => ((h.apS j e).2.2 t ht).2 hj)
  ka := (hc.block ga h.ka.lt (fun e => (h.apS _ e).1 rfl)).trans h.ka
  kl := (hc.block gl h.kl.lt (fun e => (h.apS _ e).2.1 rfl)).trans h.kl
  apS j hj := by
    rcases hj with hj | hj
    · exact h.apS j hj
    · refine ⟨by have := h.ka.lt; omega, by have := h.kl.lt; omega, fun t ht => ⟨by have := (h.rl t ht).blk.lt; omega, fun e => ?_⟩⟩
      have := ((h.rl t ht).row.lt j e).2
      omega
  apV := h.apV
  lo := h.lo
  bel := h.bel.trans (hc.below h.bel.size (fun j _ hj => (hS j hj).1))
theorem ApR.below (h : ApR w wr S Ls As ga gl gs vs) (hb : Below wr.heap.size wr w') : ApR w w' S Ls As ga gl gs vs where
  rl t ht := (h.rl t ht).below hb
  ka := h.ka.below hb h.ka.lt
  kl := h.kl.below hb h.kl.lt
  apS := h.apS
  apV := h.apV
  lo := h.lo
  bel := h.bel.trans (hb.mono h.bel.size)
theorem ApR.app2 (h : ApR w wr S Ls As ga gl gs vs) (hS : ∀ j, S j → w.heap.size ≤ j ∧ j < wr.heap.size) {t : Nat} (ht : t < 2) {L' : List Int} {A' : Nat} (hn : RLnew wr w' w.heap.size (gs t) (vs t) L' A') :
    ∃ vs', ApR w w' S (updL Ls t L') (updN As t A') ga gl gs vs' ∧ Chg (fun j => j = gs t ∨ (vs t).ownBlock = some j) wr w' := by
  obtain ⟨⟨v', hrl, hown⟩, hc⟩ := hn
  have h1 := h.rl t ht
  have hbel : Below w.heap.size w w' := h.bel.trans (hc.below h.bel.size (fun j _ hj => by
    rcases hj with rfl | hj
    · exact h.lo t ht
    · exact (h1.row.lt j hj).1))
  have hkeep : ∀ g (ty : TypeId) cs, Blk wr g ty cs → g ≠ gs t → ty ≠ 36 → Blk w' g ty cs := fun g ty cs hb hg hty => by
    refine (hc.block g hb.lt (fun e => ?_)).trans hb
    rcases e with e | e
    · exact hg e
    · exact own_blk_ne h1.row hb (fun e2 => hty e2.symm) e
  refine ⟨fun u => if u = t then v' else vs u, ⟨fun u hu => ?_, hkeep ga _ _ h.ka (blk_ne h.ka h1.blk (by decide)) (by decide), hkeep gl _ _ h.kl (blk_ne h.kl h1.blk (by decide)) (by decide), fun j hj => ⟨(h.apS j hj).1, (h.apS j hj).2.1, fun u hu => ⟨((h.apS j hj).2.2 u hu).1, ?_⟩⟩, fun u x hu hx hne => ⟨(h.apV u x hu hx hne).1, fun j hj => ?_⟩, h.lo, hbel⟩, hc⟩
  · unfold updL updN
    by_cases hut : u = t
    · subst hut
      simp only [if_true]
      exact hrl
    · simp only [if_neg hut]
      have hu2 := h.rl u hu
      refine hu2.chg hc (fun e => ?_) (fun j hj e => ?_)
      · rcases e with e | e
        · exact (h.apV u t hu ht hut).1 e
        · exact own_blk_ne h1.row hu2.blk (by decide) e
      · rcases e with e | e
        · exact own_blk_ne hu2.row h1.blk (by decide) (by rw [← e]; exact hj)
        · exact (h.apV u t hu ht hut).2 j hj e
  · by_cases hut : u = t
    · subst hut
      simp only [if_true]
      intro e
      rcases hown with e2 | e2
      · exact ((h.apS j hj).2.2 u hu).2 (by rw [← e2]; exact e)
      · have := e2 j e; have := (hS j hj).2; omega
    · simp only [if_neg hut]
      exact ((h.apS j hj).2.2 u hu).2
  · by_cases hut : u = t
    · subst hut
      have hxu : x ≠ u := fun e => hne e.symm
      simp only [if_true, if_neg hxu] at hj ⊢
      rcases hown with e2 | e2
      · exact (h.apV u x hu hx hne).2 j (by rw [← e2]; exact hj)
      · intro e
        have := e2 j hj
        have := ((h.rl x hx).row.lt j e).2
        omega
    · simp only [if_neg hut] at hj
      by_cases hxt : x = t
      · subst hxt
        simp only [if_true]
        intro e
        rcases hown with e2 | e2
        · exact (h.apV u x hu hx hne).2 j hj (by rw [← e2]; exact e)
        · have := e2 j e
          have := ((h.rl u hu).row.lt j hj).2
          omega
      · simp only [if_neg hxt]
        exact (h.apV u x hu hx hne).2 j hj
end

/-- The file, and what lies beside it. -/
def ApSt (w wr : World) (p lim ga gl : Nat) (gs : Nat → Nat) (tl cnt : Nat) : Prop := ∃ S Ls As vs, CS wr w.heap.size S p lim Ls As tl cnt ∧ ApR w wr S Ls As ga gl gs vs

theorem ApR.root {w wr : World} {S : Nat → Prop} {Ls : Nat → List Int} {As : Nat → Nat} {ga gl : Nat} {gs : Nat → Nat} {vs : Nat → Value} (h : ApR w wr S Ls As ga gl gs vs) {t : Nat} (ht : t < 2) : wr.cell? ⟨ga, t, none⟩ = some (.int .i64 (roots2 t : Nat)) := by
  rw [h.ka.cell t]
  rcases (show t = 0 ∨ t = 1 by omega) with rfl | rfl
  · rfl
  · rfl
theorem ApR.ptr {w wr : World} {S : Nat → Prop} {Ls : Nat → List Int} {As : Nat → Nat} {ga gl : Nat} {gs : Nat → Nat} {vs : Nat → Value} (h : ApR w wr S Ls As ga gl gs vs) {t : Nat} (ht : t < 2) : wr.cell? ⟨gl, t, none⟩ = some (.pointer (some ⟨gs t, 0, none⟩)) := by
  rw [h.kl.cell t]
  rcases (show t = 0 ∨ t = 1 by omega) with rfl | rfl
  · rfl
  · rfl

set_option maxHeartbeats 4000000 in
/-- A round, from its Append on. -/
theorem ap_round {w wr : World} {p lim ga gl tl cnt : Nat} {gs : Nat → Nat} (h : ApSt w wr p lim ga gl gs tl cnt) (hcnt : cnt + 1 ≤ 900) (hlim : lim < 65536) {b off n c i t : Nat} {V1 : Value} {x : Int} (hx : IsU x) (hi : i < n) (ht : t < 2) (hn : n ≤ 9223372036854775807)
    (hl : ∀ w1, Below w.heap.size w w1 → w1.cell? ⟨b, off + i, none⟩ = some (.int .u64 x)) (Y X : Nat → Value) (Q : Exit → Act → World → Prop)
    (HQ : ∀ w2 tl', ApSt w w2 p lim ga gl gs tl' (cnt + 1) → ∀ X, Q .normal { tmps := apF b off n c V1 lim p ga gl i t tl Y X, defers := [] } w2 ∧ Q (.exit 1) { tmps := apF b off n c V1 lim p ga gl i t tl Y X, defers := [] } w2) :
    apTail.wp Try.prog Q { tmps := apF b off n c V1 lim p ga gl i t tl Y X, defers := [] } wr := by
  obtain ⟨S, Ls, As, vs, hC, hR⟩ := h
  have hfoot := hC.foot
  have hmT := hC.mostT
  have hfew := hC.few t ht
  have hsml := hC.small
  have hbs := hR.bel.size
  have K0 : wr.cell? ⟨ga, t, none⟩ = some (.int .i64 (roots2 t : Nat)) ∧ wr.cell? ⟨b, off + i, none⟩ = some (.int .u64 x) := ⟨hR.root ht, hl _ hR.bel⟩
  have hd : ∀ d, Below wr.heap.size wr (wr.drewN d) := fun d => below_drewn (Below.refl _ _) d
  have hAP : ∀ d, Calls Try.prog 9 #[.pointer (some ⟨p, 0, none⟩), .int .i64 (roots2 t : Nat), .int .u64 x] (wr.drewN d) (CsTold w.heap.size S p lim Ls As tl cnt t x (wr.drewN d)) := fun d => cappend_cs (hC.below (hd d)) (by omega) ht x hx
  have hRL := hR.rl t ht
  by_cases hx0 : x = 0
  · subst hx0
    refine ap_tail0 b off n c V1 lim p ga gl i t tl (roots2 t) Y X wr (fun w1 => Below wr.heap.size wr w1) Q hi ht hn hlim hmT K0 ?_ ?_ ?_ ?_
    · refine Lib.hid (fun d => (hAP d).mono ?_)
      rintro e w1 (⟨-, rfl, h2⟩ | ⟨h0, -⟩ | ⟨h0, -⟩ | ⟨h0, -⟩)
      · exact ⟨rfl, (hd d).trans h2⟩
      · exact absurd rfl h0
      · exact absurd rfl h0
      · exact absurd rfl h0
    · exact Lib.hid (fun w1 hp => ⟨(hR.below hp).root ht, hl _ (hR.below hp).bel⟩)
    · exact Lib.hid (fun w1 hp => (hC.below hp).tail)
    · exact Lib.hid (fun w1 hp X => (HQ w1 tl ⟨S, Ls, As, vs, (hC.below hp).more (by omega) (by omega), hR.below hp⟩ X).2)
  · by_cases hroom : (Ls t).length < roomC (As t)
    · refine ap_tail1 b off n c V1 lim p ga gl i t tl (roots2 t) (gs t) 0 x Y X wr (fun w1 => ∃ S1, CS w1 w.heap.size S1 p lim (updL Ls t (Ls t ++ [x])) As tl (cnt + 1) ∧ ApR w w1 S1 Ls As ga gl gs vs) (fun w2 => ApSt w w2 p lim ga gl gs tl (cnt + 1)) Q hi ht hn hlim hmT (by omega) hx0 K0 ?_ ?_ ?_ ?_ ?_ ?_
      · refine Lib.hid (fun d => (hAP d).mono ?_)
        rintro e w1 (⟨h0, -⟩ | ⟨-, -, rfl, hc, hC'⟩ | ⟨-, heq, -⟩ | ⟨-, heq, -⟩)
        · exact absurd h0 hx0
        · exact ⟨rfl, _, hC', (hR.below (hd d)).app1 hfoot hc⟩
        · omega
        · omega
      · exact Lib.hid (fun w1 ⟨S1, h1, h2⟩ => ⟨⟨h2.root ht, hl _ h2.bel⟩, h2.ptr ht⟩)
      · refine Lib.hid (fun w1 ⟨S1, h1, h2⟩ d => ?_)
        have hd1 : Below w1.heap.size w1 (w1.drewN d) := below_drewn (Below.refl _ _) d
        refine (rlappend_any x ((lim : Int) - (tl : Int)) (w1.drewN d) ((h2.below hd1).rl t ht) (by have := (h2.below hd1).bel.size; exact this) (by omega) (by omega) (by omega)).mono ?_
        rintro e w2 (⟨-, rfl, hn⟩ | ⟨hge, -⟩ | ⟨hge, -⟩)
        · obtain ⟨vs', hR2, hc2⟩ := (h2.below hd1).app2 (h1.below hd1).foot ht hn
          rw [updN_self] at hR2
          refine ⟨rfl, S1, _, As, vs', (h1.below hd1).keep hc2 (fun j hj e => ?_), hR2⟩
          have := (h2.apS j hj).2.2 t ht
          rcases e with e | e
          · exact this.1 e
          · exact this.2 e
        · omega
        · omega
      · exact Lib.hid (fun w2 ⟨S2, L2, A2, v2, h1, h2⟩ => ⟨h2.ptr ht, hl _ h2.bel⟩)
      · refine Lib.hid (fun w2 ⟨S2, L2, A2, v2, h1, h2⟩ => ?_)
        have := h1.tail
        rw [show ((tl : Int) + ((0 : Nat) : Int)) = (tl : Int) by omega]
        exact this
      · exact Lib.hid (fun w2 h2 X => (HQ w2 tl h2 X).1)
    · by_cases hfull : lim < tl + alen (sizeC (As t))
      · refine ap_tail2 b off n c V1 lim p ga gl i t tl (roots2 t) (gs t) x Y X wr (fun w1 => Below wr.heap.size wr w1) (fun w2 => Below wr.heap.size wr w2) Q hi ht hn hlim hmT hx0 K0 ?_ ?_ ?_ ?_ ?_
        · refine Lib.hid (fun d => (hAP d).mono ?_)
          rintro e w1 (⟨h0, -⟩ | ⟨-, hlt, -⟩ | ⟨-, heq, -, rfl, hb⟩ | ⟨-, heq, hfit, -⟩)
          · exact absurd h0 hx0
          · omega
          · exact ⟨rfl, (hd d).trans hb⟩
          · omega
        · exact Lib.hid (fun w1 hp => ⟨⟨(hR.below hp).root ht, hl _ (hR.below hp).bel⟩, (hR.below hp).ptr ht⟩)
        · refine Lib.hid (fun w1 hp d => ?_)
          have hd1 : Below wr.heap.size wr (w1.drewN d) := below_drewn hp d
          refine (rlappend_any x ((lim : Int) - (tl : Int)) (w1.drewN d) ((hR.below hd1).rl t ht) (by have := (hR.below hd1).bel.size; exact this) (by omega) (by omega) (by omega)).mono ?_
          rintro e w2 (⟨hlt, -⟩ | ⟨-, -, rfl, hb⟩ | ⟨-, hfit, -⟩)
          · omega
          · exact ⟨rfl, hd1.trans (hb.mono hd1.size)⟩
          · omega
        · exact Lib.hid (fun w1 hp => ⟨(hR.below hp).ptr ht, hl _ (hR.below hp).bel⟩)
        · exact Lib.hid (fun w1 hp X => (HQ w1 tl ⟨S, Ls, As, vs, (hC.below hp).more (by omega) (by omega), hR.below hp⟩ X).1)
      · refine ap_tail1 b off n c V1 lim p ga gl i t tl (roots2 t) (gs t) (alen (sizeC (As t))) x Y X wr (fun w1 => ∃ S1, CS w1 w.heap.size S1 p lim (updL Ls t (Ls t ++ [x])) (updN As t (As t + 1)) (tl + alen (sizeC (As t))) (cnt + 1) ∧ ApR w w1 S1 Ls As ga gl gs vs) (fun w2 => ApSt w w2 p lim ga gl gs (tl + alen (sizeC (As t))) (cnt + 1)) Q hi ht hn hlim hmT (by have := sizeC_bd (As t); unfold alen; omega) hx0 K0 ?_ ?_ ?_ ?_ ?_ ?_
        · refine Lib.hid (fun d => (hAP d).mono ?_)
          rintro e w1 (⟨h0, -⟩ | ⟨-, hlt, -⟩ | ⟨-, heq, hf2, -⟩ | ⟨-, heq, hfit, rfl, hc, hC'⟩)
          · exact absurd h0 hx0
          · omega
          · omega
          · exact ⟨rfl, _, hC', (hR.below (hd d)).app1 hfoot hc⟩
        · exact Lib.hid (fun w1 ⟨S1, h1, h2⟩ => ⟨⟨h2.root ht, hl _ h2.bel⟩, h2.ptr ht⟩)
        · refine Lib.hid (fun w1 ⟨S1, h1, h2⟩ d => ?_)
          have hd1 : Below w1.heap.size w1 (w1.drewN d) := below_drewn (Below.refl _ _) d
          refine (rlappend_any x ((lim : Int) - (tl : Int)) (w1.drewN d) ((h2.below hd1).rl t ht) (by have := (h2.below hd1).bel.size; exact this) (by omega) (by omega) (by omega)).mono ?_
          rintro e w2 (⟨hlt, -⟩ | ⟨-, hf2, -⟩ | ⟨-, -, rfl, hn⟩)
          · omega
          · omega
          · obtain ⟨vs', hR2, hc2⟩ := (h2.below hd1).app2 (h1.below hd1).foot ht hn
            refine ⟨rfl, S1, _, _, vs', (h1.below hd1).keep hc2 (fun j hj e => ?_), hR2⟩
            have := (h2.apS j hj).2.2 t ht
            rcases e with e | e
            · exact this.1 e
            · exact this.2 e
        · exact Lib.hid (fun w2 ⟨S2, L2, A2, v2, h1, h2⟩ => ⟨h2.ptr ht, hl _ h2.bel⟩)
        · refine Lib.hid (fun w2 ⟨S2, L2, A2, v2, h1, h2⟩ => ?_)
          have := h1.tail
          rw [show ((tl : Int) + ((alen (sizeC (As t)) : Nat) : Int)) = ((tl + alen (sizeC (As t)) : Nat) : Int) by omega]
          exact this
        · exact Lib.hid (fun w2 h2 X => (HQ w2 _ h2 X).1)

end Go.Proofs.Ytblpmnipapimcaa
