/-
  LAYER 16: what the statements hold at the head of each round: the file, and the list of its records.
-/
import Derived.Test.YtobbkhncnokpiaaGreatEnLaw
import Derived.Test.YtobbkhncnokpiaaGreatEnSearch
set_option linter.unusedVariables false
set_option maxRecDepth 100000
set_option linter.unusedSimpArgs false
namespace Go.Proofs.YtobbkhncnokpiaaGreat
open Go.RowKit Go.Shelf

theorem grownC {W w1 : World} {tmp : Obj} {row : Option Nat} (hg : (W.alloc tmp).grownBy w1 row) : Chg (fun k => row = some k) W w1 :=
  ⟨hg.os, hg.tape, hg.output, by have := hg.size; simp at this; omega, fun k hk hn => (hg.block k (by simp; omega) (fun e => hn e.symm)).trans (Below.heap_alloc _ _ _ hk)⟩

/-- The file and the list of its records. -/
structure EnSt (w wr : World) (S : Nat → Prop) (p lim : Nat) (bs : List Int) (R : List DR) (O : List GO) (Lr : List Int) (tl : Nat) (v : Value) (l : List RC) : Prop where
  ed : ED 3 4 2 wr w.heap.size S p lim bs R O Lr tl
  el : EL R O Lr (l.map fun r => r.its.map nums)
  ob : ∀ (i : Nat) (o : GO) (r : RC), O[i]? = some o → l[i]? = some r → o.ws = [r.seq, r.real, r.mono, r.boot, xorL 3 r.its]
  own : wr.ownsRow w.heap.size 36 5 v l.length (cellsR5 l)
  vS : ∀ g, v.ownBlock = some g → ¬ S g
  each : ∀ r ∈ l, Txt wr wr.heap.size r.A r.n r.c r.its ∧ (0 < r.n → ∀ ad, r.A = some ad → ¬ S ad.block ∧ v.ownBlock ≠ some ad.block)
  good : ∀ r ∈ l, Good64 r.its
  below : Below w.heap.size w wr
section
variable {w wr w5 w6 w' : World} {S T : Nat → Prop} {p lim : Nat} {bs bs' : List Int} {R R' : List DR} {O : List GO} {Lr Lr' : List Int} {tl tl' : Nat} {v v' : Value} {l : List RC}
theorem EnSt.len (H : EnSt w wr S p lim bs R O Lr tl v l) : O.length = l.length := by rw [H.el.len, List.length_map]
theorem EnSt.vlt (H : EnSt w wr S p lim bs R O Lr tl v l) : ∀ g, v.ownBlock = some g → w.heap.size ≤ g ∧ g < wr.heap.size := H.own.lt
/-- Made anew. -/
theorem EnSt.start (hb : Below w.heap.size w wr) (h : ED 3 4 2 wr w.heap.size S p lim bs [] [] [] tl) : EnSt w wr S p lim bs [] [] [] tl (.slice none 0 0) [] :=
  ⟨h, EL.nothing, fun i o r ho => by simp at ho, World.ownsRow_nil _ _ _ _, (fun g hg => by cases hg), (fun r hr => by cases hr), (fun r hr => by cases hr), hb⟩
/-- The file has turned, and is what it was. -/
theorem EnSt.turn (H : EnSt w wr S p lim bs R O Lr tl v l) (hF : Fp S wr T w') (h : ED 3 4 2 w' w.heap.size T p lim bs' R O Lr tl') : EnSt w w' T p lim bs' R O Lr tl' v l := by
  have hTS : ∀ q, q < wr.heap.size → ¬ S q → ¬ T q := fun q hq hn ht => (hF.sub q ht).elim hn (fun e => by omega)
  refine ⟨h, H.el, H.ob, own_chg H.own hF.chg H.vS, fun g hg => hTS g (H.vlt g hg).2 (H.vS g hg), fun r hr => ?_, H.good, H.below.trans (hF.chg.below H.below.size (fun q _ hq => (H.ed.foot q hq).1))⟩
  obtain ⟨h1, h2⟩ := H.each r hr
  refine ⟨⟨(h1.reads.chg hF.chg (Nat.le_refl _) (fun hn ad ha => (h2 hn ad ha).1)).more hF.size, h1.le, h1.cap, h1.sz⟩, fun hn ad ha => ⟨?_, (h2 hn ad ha).2⟩⟩
  obtain ⟨ad2, ea, hb, -⟩ := h1.reads.2 hn
  rw [ha] at ea; injection ea with ea; subst ea
  exact hTS _ hb (h2 hn ad ha).1
theorem EnSt.belowW (H : EnSt w wr S p lim bs R O Lr tl v l) (hb : Below wr.heap.size wr w') : EnSt w w' S p lim bs R O Lr tl v l := H.turn ((Fp.refl S wr).below hb) (H.ed.below hb)
theorem EnSt.more (H : EnSt w wr S p lim bs R O Lr tl v l) (ht : tl ≤ tl') : EnSt w wr S p lim bs R O Lr tl' v l := ⟨H.ed.more ht, H.el, H.ob, H.own, H.vS, H.each, H.good, H.below⟩
/-- An entry more. -/
theorem EnSt.next {o : GO} {rc : RC} {tmp : Obj} (H : EnSt w wr S p lim bs R O Lr tl v l) (hF : Fp S wr T w5) (hED : ED 3 4 2 w5 w.heap.size T p lim bs' R' (O ++ [o]) Lr' tl') (hE : EL R' (O ++ [o]) Lr' ((l.map fun r => r.its.map nums) ++ [rc.its.map nums]))
    (ho : o.ws = [rc.seq, rc.real, rc.mono, rc.boot, xorL 3 rc.its]) (hT : Txt w5 w5.heap.size rc.A rc.n rc.c rc.its) (hTf : ∀ ad, rc.A = some ad → wr.heap.size ≤ ad.block ∧ ¬ T ad.block) (hG : Good64 rc.its)
    (hown : w6.ownsRow w.heap.size 36 5 v' (l.length + 1) (cellsR5 l ++ rc.cs)) (hg : (w5.alloc tmp).grownBy w6 v.ownBlock) (hat : v'.ownBlock = v.ownBlock ∨ v'.ownBlock = some (w5.alloc tmp).heap.size) :
    EnSt w w6 T p lim bs' R' (O ++ [o]) Lr' tl' v' (l ++ [rc]) := by
  have hTS : ∀ q, q < wr.heap.size → ¬ S q → ¬ T q := fun q hq hn ht => (hF.sub q ht).elim hn (fun e => by omega)
  have hvT : ∀ g, v.ownBlock = some g → ¬ T g := fun g hg => hTS g (H.vlt g hg).2 (H.vS g hg)
  have hc := grownC hg
  have hs5 := hF.size
  have hsa : (w5.alloc tmp).heap.size = w5.heap.size + 1 := World.size_alloc _ _
  have hb5 := H.below.trans (hF.chg.below H.below.size (fun q _ hq => (H.ed.foot q hq).1))
  have hv' : ∀ g, v'.ownBlock = some g → v.ownBlock = some g ∨ w5.heap.size ≤ g := fun g hg => by
    rcases hat with e | e
    · exact .inl (by rw [← e]; exact hg)
    · rw [e] at hg; injection hg with hg; right; omega
  have hlen := H.len
  refine ⟨hED.keep hc (fun q hq e => hvT q e hq), ?_, fun i o' r' ho' hr' => ?_, ?_, fun g hg ht => ?_, fun r hr => ?_, fun r hr => ?_, ?_⟩
  · rw [List.map_append]; exact hE
  · rcases Nat.lt_or_ge i O.length with hi | hi
    · rw [List.getElem?_append_left hi] at ho'
      rw [List.getElem?_append_left (by omega)] at hr'
      exact H.ob i o' r' ho' hr'
    · rw [List.getElem?_append_right hi] at ho'
      rw [List.getElem?_append_right (by omega)] at hr'
      have h0 : i - O.length = 0 := by
        have := (List.getElem?_eq_some_iff.1 ho').1
        simp at this; omega
      have h1 : i - l.length = 0 := by omega
      rw [h0] at ho'; rw [h1] at hr'
      have e1 : o = o' := by simpa using ho'
      have e2 : rc = r' := by simpa using hr'
      subst e1; subst e2
      exact ho
  · rw [List.length_append, cellsR5_snoc]; exact hown
  · rcases hv' g hg with e | e
    · exact hvT g e ht
    · have := (hED.foot g ht).2; omega
  · rcases List.mem_append.1 hr with hr | hr
    · obtain ⟨h1, h2⟩ := H.each r hr
      have t1 := h1.reads.chg hF.chg (Nat.le_refl _) (fun hn ad ha => (h2 hn ad ha).1)
      have t2 := t1.chg hc (by omega) (fun hn ad ha e => (h2 hn ad ha).2 e)
      refine ⟨⟨t2.more (by have := hc.size; omega), h1.le, h1.cap, h1.sz⟩, fun hn ad ha => ?_⟩
      obtain ⟨ad2, ea, hb, -⟩ := h1.reads.2 hn
      rw [ha] at ea; injection ea with ea; subst ea
      refine ⟨hTS _ hb (h2 hn ad ha).1, fun e => ?_⟩
      rcases hv' _ e with e | e
      · exact (h2 hn ad ha).2 e
      · omega
    · rw [List.mem_singleton.1 hr]
      have hnv : ∀ ad, rc.A = some ad → v.ownBlock ≠ some ad.block := fun ad ha e => by
        have h1 := (H.vlt _ e).2
        have h2 := (hTf ad ha).1
        omega
      refine ⟨⟨(hT.reads.chg hc (Nat.le_refl _) (fun _ ad ha e => hnv ad ha e)).more hc.size, hT.le, hT.cap, hT.sz⟩, fun hn ad ha => ⟨(hTf ad ha).2, fun e => ?_⟩⟩
      obtain ⟨ad2, ea, hb, -⟩ := hT.reads.2 hn
      rw [ha] at ea; injection ea with ea; subst ea
      rcases hv' _ e with e | e
      · exact hnv ad ha e
      · omega
  · rcases List.mem_append.1 hr with hr | hr
    · exact H.good r hr
    · rw [List.mem_singleton.1 hr]; exact hG
  · exact hb5.trans (hc.below hb5.size (fun q _ e => (H.vlt q e).1))
/-- The list, as the document's calls read it. -/
theorem EnSt.recs (H : EnSt w wr S p lim bs R O Lr tl v l) : ∃ A c, v = .slice A l.length c ∧ RecsR wr wr.heap.size A l.length c l := RecsR.of_own H.own (fun r hr => (H.each r hr).1)
theorem EnSt.small (H : EnSt w wr S p lim bs R O Lr tl v l) : ∀ r ∈ l, ∀ s ∈ r.its, s.size ≤ 1024 := fun r hr s hs => ((H.good r hr).ok s hs).2
theorem EnSt.seqs (H : EnSt w wr S p lim bs R O Lr tl v l) : (O.map fun o => o.ws.getD 0 0) = l.map (·.seq) := by
  refine List.ext_getElem? fun i => ?_
  rw [List.getElem?_map, List.getElem?_map]
  have hlen := H.len
  cases ho : O[i]? with
  | none =>
    rw [List.getElem?_eq_none (by have := List.getElem?_eq_none_iff.1 ho; omega)]
    rfl
  | some o =>
    obtain ⟨r, hr⟩ : ∃ r, l[i]? = some r := ⟨_, List.getElem?_eq_getElem (by have := (List.getElem?_eq_some_iff.1 ho).1; omega)⟩
    rw [hr]
    show some (o.ws.getD 0 0) = some r.seq
    rw [H.ob i o r ho hr]; rfl
end

end Go.Proofs.YtobbkhncnokpiaaGreat
