/-
  A RANGE OVER A FUNCTION WHOSE LOOP VARIABLES ARE THE CALLER'S OWN ('for place, last = range ..'): what a round is handed is stored into blocks of the footprint ahead of the body. Of no program.
-/
import Derived.Test.YtblpmnipapimcaaRangeF
set_option linter.unusedVariables false
namespace Go.Proofs.Ytblpmnipapimcaa
open Go.RowKit

section
variable {F : Fence} {n : Nat} {P : Program}
theorem wp_range_A {α : Type} {g : Operand} {ps : Array Tmp} {assign body : Code} {Q : Exit → Act → World → Prop} {a : Act} {w : World}
    (hro : F.round = none) (h1 : 1 ≤ n) {gf : Nat} {lb : Array Value} (hg : a.eval g = .func (.func gf) #[] lb) (hFg : F.fn gf) (eg : ∀ args w, (callFunc gf args).run P w = .ok (.enter gf args) w)
    {encs : α → Array Value} {Px : (Nat → Prop) → List α → α → World → Prop} {fp₀ : Nat → Prop} {S Sp : List α → Prop} {N : Nat} (hseq : SeqF F (n - 1) P gf lb encs Px fp₀ S Sp N w)
    (hfp : FpOk fp₀ w) (hps : ∀ x, (encs x).size = ps.size)
    (I : (Nat → Prop) → List α → World → Prop) (Ix : Code → List α → World → Prop) (hI : ∀ fq, OwnFrom w.heap.size (I fq)) (hIx : ∀ c, OwnFrom w.heap.size (Ix c)) (h0 : I fp₀ [] w)
    (Mid : (Nat → Prop) → List α → α → Act → World → Prop) (hMid : ∀ fq pre x a', OwnFrom w.heap.size (fun (_ : Unit) W => Mid fq pre x a' W))
    (hassign : ∀ (l : Nat) (fp fq : Nat → Prop) (pre : List α) (x : α) (W : World) (K : Act → World → Prop), w.heap.size ≤ W.heap.size → I fq pre W → FpOk fq W → (∀ k, fq k → fp k) → pre.length < N → Px fp pre x W →
      (∀ (a' : Act) (W' : World), Chg fq W W' → Mid fq pre x a' W' → K a' W') →
      assign.wpIn (F.inRound l) (n - 1 - 1) P (Exit.then K (fun _ _ _ => False)) { tmps := (ps.zip (encs x)).foldl (fun t (p, v) => t.setIfInBounds p v) a.tmps, defers := [] } W)
    (hbody : ∀ (l : Nat) (fq : Nat → Prop) (pre : List α) (x : α) (W : World), FpOk fq W → pre.length < N → (∃ r, W.heap[l]? = some (.loop r)) ∧ w.heap.size ≤ l ∧ ¬ fq l → ∀ a', Mid fq pre x a' W → body.wpIn (F.inRound l) (n - 1 - 1) P (ownPostF I Ix fq (pre ++ [x]) W) a' W)
    (hdone : ∀ (D : Nat) (fq : Nat → Prop) (xs : List α) (W : World), w.heap.size ≤ D → S xs → I fq xs W → W.heap[D]? = some (.deferred (some [])) → Q .normal { a with defers := { target := .collected D, args := #[] } :: a.defers } W)
    (hstop : ∀ (D : Nat) (c : Code) (pre : List α) (W : World), w.heap.size ≤ D → Sp pre → Ix c pre W → W.heap[D]? = some (.deferred (some [])) → c.wpIn F n P Q { a with defers := { target := .collected D, args := #[] } :: a.defers } W) :
    (Code.rangeFunc g ps assign body).wpIn F n P Q a w := by
  refine wpIn_rangeFunc fun fn hfn => ?_
  rw [hro]
  obtain ⟨B, hB⟩ : ∃ B, w.heap.size = B := ⟨_, rfl⟩
  obtain ⟨rec, hrec⟩ : ∃ rec : LoopState → Option Code → Loop, rec = fun st pe => { state := st, pending := pe, fn, tmps := a.tmps, params := ps, assign, body, defers := w.heap.size } := ⟨_, rfl⟩
  obtain ⟨W1, hW1⟩ : ∃ W1, (w.alloc (.deferred (some []))).alloc (.loop (rec .ready none)) = W1 := ⟨_, rfl⟩
  have hs1 : W1.heap.size = B + 1 + 1 := by rw [← hW1, ← hB]; simp
  have hlies : LoopLies B (rec .ready none) W1 := by
    subst hB
    refine ⟨?_, ?_⟩
    · rw [← hW1]; have h := World.alloc_heap_new (w.alloc (.deferred (some []))) (.loop (rec .ready none)); rwa [World.size_alloc] at h
    · rw [← hW1]; exact (Below.heap_alloc _ _ _ (by simp)).trans (World.alloc_heap_new w _)
  have hb1 : Below w.heap.size w W1 := by rw [← hW1]; exact ((Below.refl _ w).alloc (Nat.le_refl _) _).alloc (by simp) _
  have hI1 : I fp₀ [] W1 := ownFrom_below' (hI fp₀) h0 hb1
  have own1 : ∀ {β : Type} {K : β → World → Prop}, OwnFrom w.heap.size K → OwnFrom W1.heap.size K := fun h s A C row hs hg hr => h s A C row hs hg (fun r e => ⟨by have := (hr r e).1; omega, (hr r e).2⟩)
  have lies1 : ∀ {β : Type} (f : β → Loop), OwnFrom W1.heap.size (fun (s : β) W => LoopLies B (f s) W) := fun f s A C row hs hg hr =>
    ⟨(hg.block _ (Array.getElem?_eq_some_iff.1 hs.rec_).1 (fun e => by have := (hr _ e.symm).1; omega)).trans hs.rec_, (hg.block _ (Array.getElem?_eq_some_iff.1 hs.def_).1 (fun e => by have := (hr _ e.symm).1; omega)).trans hs.def_⟩
  refine ⟨w.heap.size + 1, [{ target := .collected w.heap.size, args := #[] }], W1, { target := .fn (.func gf) lb, args := #[.func (.yield (w.heap.size + 1)) #[] #[]] }, W1, gf,
    #[.func (.yield (w.heap.size + 1)) #[] #[]] ++ lb, W1, ?_, ?_, ?_, ?_, fun _ => h1, ?_⟩
  · rw [← hW1, hrec]; exact run_enterLoop_outer _ _ _ _ _
  · simp only [resolve, hg]
    simp [go_sem]
  · intro f' hf'; simp [Target.leads] at hf'; subst hf'; exact hFg
  · simp [invoke, go_sem, eg]
  rw [hB]
  refine (hseq (B + 1) (fun fp pre W => ∃ fq, (fp = fun k => fq k ∨ k = B + 1) ∧ I fq pre W ∧ LoopLies B (rec .ready none) W ∧ FpOk fq W ∧ ¬ fq B ∧ ¬ fq (B + 1)) (fun pre W => ∃ c, Ix c pre W ∧ LoopLies B (rec .done (some c)) W) W1 (fun k => fp₀ k ∨ k = B + 1) hb1
    (fun fp s A C row hs hg' hr => by
      obtain ⟨fq, e, h1, h2, h3, h4⟩ := hs
      exact ⟨fq, e, own1 (hI fq) s A C row h1 hg' hr, lies1 (fun _ : Unit => rec .ready none) () A C row h2 hg' hr, fun k hk => Nat.lt_of_lt_of_le (h3 k hk) hg'.size, h4⟩)
    (fun s A C row hs hg' hr => by
      obtain ⟨c, hc, hl⟩ := hs
      exact ⟨c, own1 (hIx c) s A C row hc hg' hr, lies1 (fun _ : Unit => rec .done (some c)) () A C row hl hg' hr⟩)
    (fun k hk => hk.elim .inl (fun e => .inr (by omega))) (fun k hk => hk.elim (fun e => by have := hfp k e; omega) (fun e => by omega))
    ?_ ⟨fp₀, rfl, hI1, hlies, fun k hk => by have := hfp k hk; omega, fun e => by have := hfp B e; omega, fun e => by have := hfp (B + 1) e; omega⟩).mono ?_
  · rintro fp pre x W ⟨fq, rfl, hi, hl, hok, hnB, hnB1⟩ hlen hfo hpx
    have hy := run_yield (P := P) (args := encs x) hl.rec_ (by rw [hrec]; exact hps x)
    rw [hrec] at hy
    have hBW := (Array.getElem?_eq_some_iff.1 hl.rec_).1
    refine ⟨fn, _, assign, body, hy, roundIn_of_wpIn hfn (hassign _ _ fq pre x W _ (by omega) hi hok (fun k hk => .inl hk) hlen hpx fun a' W2 hc2 hmid => ?_)⟩
    have hs2 := hc2.size
    have hl2 : LoopLies B (rec .ready none) W2 := ⟨(hc2.block _ hBW hnB1).trans hl.rec_, (hc2.block _ (by omega) hnB).trans hl.def_⟩
    have hok2 : FpOk fq W2 := fun k hk => Nat.lt_of_lt_of_le (hok k hk) hs2
    have hbusy := hl2.put { rec .ready none with state := .busy }
    have hmid3 := OwnFrom.putObj (hMid fq pre x a') (s := ()) (.loop { rec .ready none with state := .busy }) hmid (by omega) hl2.rec_ rfl
    have hok3 : FpOk fq (W2.putObj (B + 1) (.loop { rec .ready none with state := .busy })) := fun k hk => by simpa using hok2 k hk
    have hbg := run_beginRound (P := P) hl2.rec_ (by rw [hrec])
    refine ⟨_, hbg, wpIn_mono (hbody _ fq pre x _ hok3 hlen ⟨⟨_, hbusy.rec_⟩, by omega, hnB1⟩ a' hmid3) ?_⟩
    have hsz3 : (W2.putObj (B + 1) (.loop { rec .ready none with state := .busy })).heap.size = W2.heap.size := by simp
    have fin2 : ∀ (W3 : World) (o : Obj), Chg fq (W2.putObj (B + 1) (.loop { rec .ready none with state := .busy })) W3 → Chg (fun k => fq k ∨ k = B + 1) W (W3.putObj (B + 1) o) := fun W3 o hc => by
      have a1 : Chg (fun k => fq k ∨ k = B + 1) W W2 := hc2.mono (fun k _ e => .inl e)
      have a2 : Chg (fun k => fq k ∨ k = B + 1) W2 (W2.putObj (B + 1) (.loop { rec .ready none with state := .busy })) := ⟨rfl, rfl, rfl, by simp, fun k hk hn => World.putObj_heap_other (fun e => hn (.inr e))⟩
      have a3 : Chg (fun k => fq k ∨ k = B + 1) (W2.putObj (B + 1) (.loop { rec .ready none with state := .busy })) W3 := hc.mono (fun k _ e => .inl e)
      have a4 : Chg (fun k => fq k ∨ k = B + 1) W3 (W3.putObj (B + 1) o) := ⟨rfl, rfl, rfl, by simp, fun k hk hn => World.putObj_heap_other (fun e => hn (.inr e))⟩
      exact ((a1.trans a2 (fun _ _ h => h)).trans a3 (fun _ _ h => h)).trans a4 (fun _ _ h => h)
    have fin : ∀ (jump : Option Code) (W3 : World), Chg fq (W2.putObj (B + 1) (.loop { rec .ready none with state := .busy })) W3 →
        (Instr.endRound (B + 1) jump).run P W3 = .ok (.bool jump.isNone) (W3.putObj (B + 1) (.loop (rec (if jump.isNone then .ready else .done) jump))) ∧
        W3.heap[B + 1]? = some (.loop { rec .ready none with state := .busy }) ∧ LoopLies B (rec (if jump.isNone then .ready else .done) jump) (W3.putObj (B + 1) (.loop (rec (if jump.isNone then .ready else .done) jump))) := fun jump W3 hk3 => by
      have hl3 : LoopLies B { rec .ready none with state := .busy } W3 := ⟨(hk3.block _ (by omega) hnB1).trans hbusy.rec_, (hk3.block _ (by omega) hnB).trans hbusy.def_⟩
      have he := run_endRound (P := P) jump hl3.rec_
      exact ⟨by rw [hrec] at he ⊢; exact he, hl3.rec_, hl3.put _⟩
    rintro e a3 W3 hp
    cases e with
    | normal =>
      obtain ⟨fq', hi4, hg4⟩ := hp
      obtain ⟨hr, hl3, hl4⟩ := fin none W3 hg4.1
      have hg5 := hg4.plus (b := B + 1) (by omega)
      have g1 : GrowF (fun k => fq k ∨ k = B + 1) W (fun k => fq k ∨ k = B + 1) W2 := ⟨hc2.mono (fun k _ e => .inl e), fun k hk => ⟨.inl hk, Nat.lt_of_lt_of_le (hfo k hk) hs2⟩⟩
      have g2 := GrowF.put (l := B + 1) g1.ok (.inr rfl) (.loop { rec .ready none with state := .busy })
      have g3 := GrowF.put (l := B + 1) hg5.ok (.inr rfl) (.loop (rec .ready none))
      refine ⟨_, _, hr, .inl ⟨rfl, _, ⟨fq', rfl, (hI fq').putObj _ hi4 (by omega) hl3 rfl, hl4, fun k hk => by simpa using hg4.ok k hk, (hg4.keep (by omega) hnB).2, (hg4.keep (by omega) hnB1).2⟩, ((g1.trans g2).trans hg5).trans g3⟩⟩
    | ret =>
      obtain ⟨hr, hl3, hl4⟩ := fin (some .ret) W3 hp.1
      exact ⟨_, _, hr, .inr ⟨rfl, ⟨.ret, (hIx _).putObj _ hp.2 (by omega) hl3 rfl, hl4⟩, fin2 _ _ hp.1⟩⟩
    | exit id =>
      obtain ⟨hr, hl3, hl4⟩ := fin (some (.exit id)) W3 hp.1
      exact ⟨_, _, hr, .inr ⟨rfl, ⟨.exit id, (hIx _).putObj _ hp.2 (by omega) hl3 rfl, hl4⟩, fin2 _ _ hp.1⟩⟩
    | goto t =>
      obtain ⟨hr, hl3, hl4⟩ := fin (some (.goto t)) W3 hp.1
      exact ⟨_, _, hr, .inr ⟨rfl, ⟨.goto t, (hIx _).putObj _ hp.2 (by omega) hl3 rfl, hl4⟩, fin2 _ _ hp.1⟩⟩
    | panic ch => exact hp.elim
    | outgrown => exact hp.elim
  · rintro e W2 ⟨⟨v, rfl⟩, (⟨xs, fp, hS, fq, rfl, hi, hl, -⟩ | ⟨pre, hSp, c, hi, hl⟩)⟩
    · have he := run_endLoop (P := P) hl.rec_ (by rw [hrec]; simp)
      rw [hrec] at he
      exact ⟨none, _, he, hdone B fq xs _ (by omega) hS ((hI fq).putObj _ hi (by omega) hl.rec_ rfl) ((World.putObj_heap_other (by omega)).trans hl.def_)⟩
    · have he := run_endLoop (P := P) hl.rec_ (by rw [hrec]; simp)
      rw [hrec] at he
      exact ⟨some c, _, he, hstop B c pre _ (by omega) hSp ((hIx c).putObj _ hi (by omega) hl.rec_ rfl) ((World.putObj_heap_other (by omega)).trans hl.def_)⟩
end

end Go.Proofs.Ytblpmnipapimcaa
