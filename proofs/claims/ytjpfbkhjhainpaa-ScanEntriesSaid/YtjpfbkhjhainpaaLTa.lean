/-
  MERGED BY PROGRAM out of the texts RangeP RangePX TableMath TabRows TabFollow TabFn TabChain TabRange TabFindG TabAddG.
-/
import Derived.Test.YtjpfbkhjhainpaaTaBase
import Derived.RangeFuncFrom
import Derived.RangeFuncNested
import Derived.RangeFuncBound
import Derived.RangeFuncCalls
import Derived.RangeFuncLeaves
import Derived.Shelf.Abstract
import Derived.Shelf.RegionOpen
import Derived.WalkKit
import Derived.OwnWalkIn
import Derived.TacticsInMore
import Derived.LoopNIn
import Derived.LoopIn
import Derived.BigQuiet
/-
  A LAW FOR A RANGE OVER A FUNCTION WHOSE ROUNDS ARE HANDED THINGS THAT LIE IN MEMORY: what a round may know of what it is handed (Px) is said in the world in which it is handed. Of no program.
-/
set_option linter.unusedVariables false
namespace Go.Proofs.Ytjpfbkhjhainpaa
open Go.RowKit

/-- The two blocks of a loop's own: its record, and what its rounds defer. -/
structure LoopLies (B : Nat) (r : Loop) (W : World) : Prop where
  rec_ : W.heap[B + 1]? = some (.loop r)
  def_ : W.heap[B]? = some (.deferred (some []))
theorem LoopLies.grown {B : Nat} {r : Loop} {W W' : World} {row : Option Nat} (h : LoopLies B r W) (hg : W.grownBy W' row) (hr : ∀ k, row = some k → ∃ o : Obj, W.heap[k]? = some o ∧ o.isWalk = true) : LoopLies B r W' :=
  ⟨(grownBy_keeps hg hr h.rec_ rfl).trans h.rec_, (grownBy_keeps hg hr h.def_ rfl).trans h.def_⟩
theorem LoopLies.put {B : Nat} {r : Loop} {W : World} (h : LoopLies B r W) (r' : Loop) : LoopLies B r' (W.putObj (B + 1) (.loop r')) :=
  ⟨World.putObj_heap_same (Array.getElem?_eq_some_iff.1 h.rec_).1, (World.putObj_heap_other (by omega)).trans h.def_⟩
theorem LoopLies.others {B : Nat} {r : Loop} {W W' : World} (h : LoopLies B r W) (hk : KeepsOthers W W') : LoopLies B r W' := ⟨hk.same _ _ h.rec_ rfl, hk.same _ _ h.def_ rfl⟩

/-- An iterator's contract; its rounds are told Px. -/
def SeqTells {α : Type} (F : Fence) (n : Nat) (P : Program) (g : Nat) (lb : Array Value) (encs : α → Array Value) (Px : List α → α → World → Prop) (Kp : World → World → Prop) (S Sp : List α → Prop) (N : Nat) (w : World) : Prop :=
  ∀ (l : Nat) (J Jx : List α → World → Prop) (W : World), Below w.heap.size w W → AbidesFrom W.heap.size J → AbidesFrom W.heap.size Jx →
    (∀ pre x W1, J pre W1 → pre.length < N → Px pre x W1 → YieldAt F (n - 1) P l (encs x) W1 fun e W' =>
      (e = .returned (.bool true) ∧ J (pre ++ [x]) W' ∧ Kp W1 W') ∨ (e = .returned (.bool false) ∧ Jx (pre ++ [x]) W')) →
    J [] W →
    CallsIn F n P g (#[.func (.yield l) #[] #[]] ++ lb) W fun e W' => (∃ v, e = .returned v) ∧ ((∃ xs, S xs ∧ J xs W') ∨ (∃ pre, Sp pre ∧ Jx pre W'))

section
variable {F : Fence} {n : Nat} {P : Program}

theorem wp_range_tells {α : Type} {g : Operand} {ps : Array Tmp} {assign body : Code} {Q : Exit → Act → World → Prop} {a : Act} {w : World}
    (hro : F.round = none) (h1 : 1 ≤ n) {gf : Nat} {lb : Array Value} (hg : a.eval g = .func (.func gf) #[] lb) (hFg : F.fn gf) (eg : ∀ args w, (callFunc gf args).run P w = .ok (.enter gf args) w)
    {encs : α → Array Value} {Px : List α → α → World → Prop} {Kp : World → World → Prop} {S Sp : List α → Prop} {N : Nat} {w0 : World} (hseq : SeqTells F (n - 1) P gf lb encs Px Kp S Sp N w0)
    (hKt : ∀ {A B C : World}, Kp A B → Kp B C → Kp A C) (hKb : ∀ (W : World) (l : Nat) (o o' : Obj), w.heap.size ≤ l → W.heap[l]? = some o → o.isCells = false → o.isWalk = false → Kp W (W.putObj l o'))
    (hPx : ∀ (pre : List α) (x : α) (W : World) (l : Nat) (o o' : Obj), w.heap.size ≤ l → W.heap[l]? = some o → o.isCells = false → Px pre x W → Px pre x (W.putObj l o'))
    (hb0 : Below w0.heap.size w0 w) (hps : ∀ x, (encs x).size = ps.size)
    (I : List α → World → Prop) (Ix : Code → List α → World → Prop) (hI : OwnFrom w.heap.size I) (hIx : ∀ c, OwnFrom w.heap.size (Ix c)) (h0 : I [] w) (a₁ : α → Act)
    (hassign : ∀ (l : Nat) (x : α) (W : World) (K : Act → World → Prop), K (a₁ x) W →
      assign.wpIn (F.inRound l) (n - 1 - 1) P (Exit.then K (fun _ _ _ => False)) { tmps := (ps.zip (encs x)).foldl (fun t (p, v) => t.setIfInBounds p v) a.tmps, defers := [] } W)
    (hbody : ∀ (l : Nat) (pre : List α) (x : α) (W : World), I pre W → pre.length < N → Px pre x W → body.wpIn (F.inRound l) (n - 1 - 1) P (ownPostK Kp I Ix (pre ++ [x]) W) (a₁ x) W)
    (hdone : ∀ (D : Nat) (xs : List α) (W : World), w.heap.size ≤ D → S xs → I xs W → W.heap[D]? = some (.deferred (some [])) → Q .normal { a with defers := { target := .collected D, args := #[] } :: a.defers } W)
    (hstop : ∀ (D : Nat) (c : Code) (pre : List α) (W : World), w.heap.size ≤ D → Sp pre → Ix c pre W → W.heap[D]? = some (.deferred (some [])) → c.wpIn F n P Q { a with defers := { target := .collected D, args := #[] } :: a.defers } W) :
    (Code.rangeFunc g ps assign body).wpIn F n P Q a w := by
  refine wpIn_rangeFunc fun fn hfn => ?_
  rw [hro]
  obtain ⟨B, hB⟩ : ∃ B, w.heap.size = B := ⟨_, rfl⟩
  obtain ⟨rec, hrec⟩ : ∃ rec : LoopState → Option Code → Loop, rec = fun st pe => { state := st, pending := pe, fn, tmps := a.tmps, params := ps, assign, body, defers := w.heap.size } := ⟨_, rfl⟩
  obtain ⟨W1, hW1⟩ : ∃ W1, (w.alloc (.deferred (some []))).alloc (.loop (rec .ready none)) = W1 := ⟨_, rfl⟩
  have hs1 : B ≤ W1.heap.size := by rw [← hW1, ← hB]; simp; omega
  have hlies : LoopLies B (rec .ready none) W1 := by
    subst hB
    refine ⟨?_, ?_⟩
    · rw [← hW1]; have h := World.alloc_heap_new (w.alloc (.deferred (some []))) (.loop (rec .ready none)); rwa [World.size_alloc] at h
    · rw [← hW1]; exact (Below.heap_alloc _ _ _ (by simp)).trans (World.alloc_heap_new w _)
  have hI1 : I [] W1 := by rw [← hW1]; exact hI.alloc _ (hI.alloc _ h0)
  have hb1 : Below w0.heap.size w0 W1 := by
    rw [← hW1]; exact hb0.trans ((((Below.refl _ w).alloc (Nat.le_refl _) _).alloc (by simp) _).mono hb0.size)
  have cells : ∀ {A C : World} {row : Option Nat}, (∀ r, row = some r → W1.heap.size ≤ r ∧ ∃ o : Obj, A.heap[r]? = some o ∧ o.isWalk = true) → ∀ r, row = some r → w.heap.size ≤ r ∧ ∃ o : Obj, A.heap[r]? = some o ∧ o.isCells = false := fun hr r e => by
    obtain ⟨h2, o, ho, hw⟩ := hr r e
    exact ⟨by omega, o, ho, Obj.not_cells_of_walk hw⟩
  rw [hB] at hI hIx hKb hPx hdone hstop
  refine ⟨w.heap.size + 1, [{ target := .collected w.heap.size, args := #[] }], W1, { target := .fn (.func gf) lb, args := #[.func (.yield (w.heap.size + 1)) #[] #[]] }, W1, gf,
    #[.func (.yield (w.heap.size + 1)) #[] #[]] ++ lb, W1, ?_, ?_, ?_, ?_, fun _ => h1, ?_⟩
  · rw [← hW1, hrec]; exact run_enterLoop_outer _ _ _ _ _
  · simp only [resolve, hg]
    simp [go_sem]
  · intro f' hf'; simp [Target.leads] at hf'; subst hf'; exact hFg
  · simp [invoke, go_sem, eg]
  rw [hB]
  refine (hseq (B + 1) (fun pre W => I pre W ∧ LoopLies B (rec .ready none) W) (fun pre W => ∃ c, Ix c pre W ∧ LoopLies B (rec .done (some c)) W) W1 hb1
    (fun s A C row hs hg' hr => ⟨hI s A C row hs.1 hg' (by have := cells (C := C) hr; rwa [hB] at this), hs.2.grown hg' (fun r e => (hr r e).2)⟩)
    (fun s A C row hs hg' hr => by
      obtain ⟨c, hc, hl⟩ := hs
      exact ⟨c, hIx c s A C row hc hg' (by have := cells (C := C) hr; rwa [hB] at this), hl.grown hg' (fun r e => (hr r e).2)⟩)
    ?_ ⟨hI1, hlies⟩).mono ?_
  · rintro pre x W ⟨hi, hl⟩ hlen hpx
    have hy := run_yield (P := P) (args := encs x) hl.rec_ (by rw [hrec]; exact hps x)
    have hbusy := hl.put { rec .ready none with state := .busy }
    have hkw := hKb W (B + 1) _ (.loop { rec .ready none with state := .busy }) (by omega) hl.rec_ rfl rfl
    have hpx2 := hPx pre x W (B + 1) _ (.loop { rec .ready none with state := .busy }) (by omega) hl.rec_ rfl hpx
    have hi2 := hI.putObj (.loop { rec .ready none with state := .busy }) hi (by omega) hl.rec_ rfl
    have hbg := run_beginRound (P := P) hl.rec_ (by rw [hrec])
    rw [hrec] at hy
    refine ⟨fn, _, assign, body, hy, roundIn_of_wpIn hfn (hassign _ x W _ ⟨_, hbg, wpIn_mono (hbody _ pre x _ hi2 hlen hpx2) ?_⟩)⟩
    have fin : ∀ (jump : Option Code) (W3 : World), KeepsOthers (W.putObj (B + 1) (.loop { rec .ready none with state := .busy })) W3 →
        (Instr.endRound (B + 1) jump).run P W3 = .ok (.bool jump.isNone) (W3.putObj (B + 1) (.loop (rec (if jump.isNone then .ready else .done) jump))) ∧
        W3.heap[B + 1]? = some (.loop { rec .ready none with state := .busy }) ∧ LoopLies B (rec (if jump.isNone then .ready else .done) jump) (W3.putObj (B + 1) (.loop (rec (if jump.isNone then .ready else .done) jump))) := fun jump W3 hk3 => by
      have hl3 := hbusy.others hk3
      have he := run_endRound (P := P) jump hl3.rec_
      exact ⟨by rw [hrec] at he ⊢; exact he, hl3.rec_, hl3.put _⟩
    rintro e a3 W3 hp
    cases e with
    | normal =>
      obtain ⟨hk3, hkp3, hi3⟩ := hp
      obtain ⟨hr, hl3, hl4⟩ := fin none W3 hk3
      exact ⟨_, _, hr, .inl ⟨rfl, ⟨hI.putObj _ hi3 (by omega) hl3 rfl, hl4⟩, hKt (hKt hkw hkp3) (hKb _ _ _ _ (by omega) hl3 rfl rfl)⟩⟩
    | ret =>
      obtain ⟨hr, hl3, hl4⟩ := fin (some .ret) W3 hp.1
      exact ⟨_, _, hr, .inr ⟨rfl, .ret, (hIx _).putObj _ hp.2 (by omega) hl3 rfl, hl4⟩⟩
    | exit id =>
      obtain ⟨hr, hl3, hl4⟩ := fin (some (.exit id)) W3 hp.1
      exact ⟨_, _, hr, .inr ⟨rfl, .exit id, (hIx _).putObj _ hp.2 (by omega) hl3 rfl, hl4⟩⟩
    | goto t =>
      obtain ⟨hr, hl3, hl4⟩ := fin (some (.goto t)) W3 hp.1
      exact ⟨_, _, hr, .inr ⟨rfl, .goto t, (hIx _).putObj _ hp.2 (by omega) hl3 rfl, hl4⟩⟩
    | panic ch => exact hp.elim
    | outgrown => exact hp.elim
  · rintro e W2 ⟨⟨v, rfl⟩, (⟨xs, hS, hi, hl⟩ | ⟨pre, hSp, c, hi, hl⟩)⟩
    · have he := run_endLoop (P := P) hl.rec_ (by rw [hrec]; simp)
      rw [hrec] at he
      exact ⟨none, _, he, hdone B xs _ (Nat.le_refl _) hS (hI.putObj _ hi (by omega) hl.rec_ rfl) ((World.putObj_heap_other (by omega)).trans hl.def_)⟩
    · have he := run_endLoop (P := P) hl.rec_ (by rw [hrec]; simp)
      rw [hrec] at he
      exact ⟨some c, _, he, hstop B c pre _ (Nat.le_refl _) hSp ((hIx c).putObj _ hi (by omega) hl.rec_ rfl) ((World.putObj_heap_other (by omega)).trans hl.def_)⟩
/-- The same, where a loop's variable is boxed: each round's assignment makes memory; what its frame is then, is told by Ax. -/
theorem wp_range_tellsH {α : Type} {g : Operand} {ps : Array Tmp} {assign body : Code} {Q : Exit → Act → World → Prop} {a : Act} {w : World}
    (hro : F.round = none) (h1 : 1 ≤ n) {gf : Nat} {lb : Array Value} (hg : a.eval g = .func (.func gf) #[] lb) (hFg : F.fn gf) (eg : ∀ args w, (callFunc gf args).run P w = .ok (.enter gf args) w)
    {encs : α → Array Value} {Px : List α → α → World → Prop} {Kp : World → World → Prop} {S Sp : List α → Prop} {N : Nat} {w0 : World} (hseq : SeqTells F (n - 1) P gf lb encs Px Kp S Sp N w0)
    (hKt : ∀ {A B C : World}, Kp A B → Kp B C → Kp A C) (hKb : ∀ (W : World) (l : Nat) (o o' : Obj), w.heap.size ≤ l → W.heap[l]? = some o → o.isCells = false → o.isWalk = false → Kp W (W.putObj l o'))
    (hPx : ∀ (pre : List α) (x : α) (W : World) (l : Nat) (o o' : Obj), w.heap.size ≤ l → W.heap[l]? = some o → o.isCells = false → Px pre x W → Px pre x (W.putObj l o'))
    (hb0 : Below w0.heap.size w0 w) (hps : ∀ x, (encs x).size = ps.size)
    (I : List α → World → Prop) (Ix : Code → List α → World → Prop) (hI : OwnFrom w.heap.size I) (hIx : ∀ c, OwnFrom w.heap.size (Ix c)) (h0 : I [] w)
    (Ax : α → Act → World → Prop) (hAx : ∀ (x : α) (a' : Act) (W : World) (l : Nat) (o o' : Obj), w.heap.size ≤ l → W.heap[l]? = some o → o.isCells = false → Ax x a' W → Ax x a' (W.putObj l o'))
    (hassign : ∀ (l : Nat) (pre : List α) (x : α) (W : World) (K : Act → World → Prop), I pre W → Px pre x W → (∀ (a' : Act) (W' : World), KeepsOthers W W' → Kp W W' → I pre W' → Px pre x W' → Ax x a' W' → K a' W') →
      assign.wpIn (F.inRound l) (n - 1 - 1) P (Exit.then K (fun _ _ _ => False)) { tmps := (ps.zip (encs x)).foldl (fun t (p, v) => t.setIfInBounds p v) a.tmps, defers := [] } W)
    (hbody : ∀ (l : Nat) (pre : List α) (x : α) (W : World), I pre W → pre.length < N → Px pre x W → ∀ a', Ax x a' W → body.wpIn (F.inRound l) (n - 1 - 1) P (ownPostK Kp I Ix (pre ++ [x]) W) a' W)
    (hdone : ∀ (D : Nat) (xs : List α) (W : World), w.heap.size ≤ D → S xs → I xs W → W.heap[D]? = some (.deferred (some [])) → Q .normal { a with defers := { target := .collected D, args := #[] } :: a.defers } W)
    (hstop : ∀ (D : Nat) (c : Code) (pre : List α) (W : World), w.heap.size ≤ D → Sp pre → Ix c pre W → W.heap[D]? = some (.deferred (some [])) → c.wpIn F n P Q { a with defers := { target := .collected D, args := #[] } :: a.defers } W) :
    (Code.rangeFunc g ps assign body).wpIn F n P Q a w := by
  refine wpIn_rangeFunc fun fn hfn => ?_
  rw [hro]
  obtain ⟨B, hB⟩ : ∃ B, w.heap.size = B := ⟨_, rfl⟩
  obtain ⟨rec, hrec⟩ : ∃ rec : LoopState → Option Code → Loop, rec = fun st pe => { state := st, pending := pe, fn, tmps := a.tmps, params := ps, assign, body, defers := w.heap.size } := ⟨_, rfl⟩
  obtain ⟨W1, hW1⟩ : ∃ W1, (w.alloc (.deferred (some []))).alloc (.loop (rec .ready none)) = W1 := ⟨_, rfl⟩
  have hs1 : B ≤ W1.heap.size := by rw [← hW1, ← hB]; simp; omega
  have hlies : LoopLies B (rec .ready none) W1 := by
    subst hB
    refine ⟨?_, ?_⟩
    · rw [← hW1]; have h := World.alloc_heap_new (w.alloc (.deferred (some []))) (.loop (rec .ready none)); rwa [World.size_alloc] at h
    · rw [← hW1]; exact (Below.heap_alloc _ _ _ (by simp)).trans (World.alloc_heap_new w _)
  have hI1 : I [] W1 := by rw [← hW1]; exact hI.alloc _ (hI.alloc _ h0)
  have hb1 : Below w0.heap.size w0 W1 := by
    rw [← hW1]; exact hb0.trans ((((Below.refl _ w).alloc (Nat.le_refl _) _).alloc (by simp) _).mono hb0.size)
  have cells : ∀ {A C : World} {row : Option Nat}, (∀ r, row = some r → W1.heap.size ≤ r ∧ ∃ o : Obj, A.heap[r]? = some o ∧ o.isWalk = true) → ∀ r, row = some r → w.heap.size ≤ r ∧ ∃ o : Obj, A.heap[r]? = some o ∧ o.isCells = false := fun hr r e => by
    obtain ⟨h2, o, ho, hw⟩ := hr r e
    exact ⟨by omega, o, ho, Obj.not_cells_of_walk hw⟩
  rw [hB] at hI hIx hKb hPx hAx hdone hstop
  refine ⟨w.heap.size + 1, [{ target := .collected w.heap.size, args := #[] }], W1, { target := .fn (.func gf) lb, args := #[.func (.yield (w.heap.size + 1)) #[] #[]] }, W1, gf,
    #[.func (.yield (w.heap.size + 1)) #[] #[]] ++ lb, W1, ?_, ?_, ?_, ?_, fun _ => h1, ?_⟩
  · rw [← hW1, hrec]; exact run_enterLoop_outer _ _ _ _ _
  · simp only [resolve, hg]
    simp [go_sem]
  · intro f' hf'; simp [Target.leads] at hf'; subst hf'; exact hFg
  · simp [invoke, go_sem, eg]
  rw [hB]
  refine (hseq (B + 1) (fun pre W => I pre W ∧ LoopLies B (rec .ready none) W) (fun pre W => ∃ c, Ix c pre W ∧ LoopLies B (rec .done (some c)) W) W1 hb1
    (fun s A C row hs hg' hr => ⟨hI s A C row hs.1 hg' (by have := cells (C := C) hr; rwa [hB] at this), hs.2.grown hg' (fun r e => (hr r e).2)⟩)
    (fun s A C row hs hg' hr => by
      obtain ⟨c, hc, hl⟩ := hs
      exact ⟨c, hIx c s A C row hc hg' (by have := cells (C := C) hr; rwa [hB] at this), hl.grown hg' (fun r e => (hr r e).2)⟩)
    ?_ ⟨hI1, hlies⟩).mono ?_
  · rintro pre x W ⟨hi, hl⟩ hlen hpx
    have hy := run_yield (P := P) (args := encs x) hl.rec_ (by rw [hrec]; exact hps x)
    rw [hrec] at hy
    refine ⟨fn, _, assign, body, hy, roundIn_of_wpIn hfn (hassign _ pre x W _ hi hpx fun a' W2 hko hkpa hi2' hpx2' hax => ?_)⟩
    have hl' := hl.others hko
    have hbusy := hl'.put { rec .ready none with state := .busy }
    have hkw := hKb W2 (B + 1) _ (.loop { rec .ready none with state := .busy }) (by omega) hl'.rec_ rfl rfl
    have hpx2 := hPx pre x W2 (B + 1) _ (.loop { rec .ready none with state := .busy }) (by omega) hl'.rec_ rfl hpx2'
    have hax2 := hAx x a' W2 (B + 1) _ (.loop { rec .ready none with state := .busy }) (by omega) hl'.rec_ rfl hax
    have hi2 := hI.putObj (.loop { rec .ready none with state := .busy }) hi2' (by omega) hl'.rec_ rfl
    have hbg := run_beginRound (P := P) hl'.rec_ (by rw [hrec])
    refine ⟨_, hbg, wpIn_mono (hbody _ pre x _ hi2 hlen hpx2 a' hax2) ?_⟩
    have fin : ∀ (jump : Option Code) (W3 : World), KeepsOthers (W2.putObj (B + 1) (.loop { rec .ready none with state := .busy })) W3 →
        (Instr.endRound (B + 1) jump).run P W3 = .ok (.bool jump.isNone) (W3.putObj (B + 1) (.loop (rec (if jump.isNone then .ready else .done) jump))) ∧
        W3.heap[B + 1]? = some (.loop { rec .ready none with state := .busy }) ∧ LoopLies B (rec (if jump.isNone then .ready else .done) jump) (W3.putObj (B + 1) (.loop (rec (if jump.isNone then .ready else .done) jump))) := fun jump W3 hk3 => by
      have hl3 := hbusy.others hk3
      have he := run_endRound (P := P) jump hl3.rec_
      exact ⟨by rw [hrec] at he ⊢; exact he, hl3.rec_, hl3.put _⟩
    rintro e a3 W3 hp
    cases e with
    | normal =>
      obtain ⟨hk3, hkp3, hi3⟩ := hp
      obtain ⟨hr, hl3, hl4⟩ := fin none W3 hk3
      exact ⟨_, _, hr, .inl ⟨rfl, ⟨hI.putObj _ hi3 (by omega) hl3 rfl, hl4⟩, hKt (hKt (hKt hkpa hkw) hkp3) (hKb _ _ _ _ (by omega) hl3 rfl rfl)⟩⟩
    | ret =>
      obtain ⟨hr, hl3, hl4⟩ := fin (some .ret) W3 hp.1
      exact ⟨_, _, hr, .inr ⟨rfl, .ret, (hIx _).putObj _ hp.2 (by omega) hl3 rfl, hl4⟩⟩
    | exit id =>
      obtain ⟨hr, hl3, hl4⟩ := fin (some (.exit id)) W3 hp.1
      exact ⟨_, _, hr, .inr ⟨rfl, .exit id, (hIx _).putObj _ hp.2 (by omega) hl3 rfl, hl4⟩⟩
    | goto t =>
      obtain ⟨hr, hl3, hl4⟩ := fin (some (.goto t)) W3 hp.1
      exact ⟨_, _, hr, .inr ⟨rfl, .goto t, (hIx _).putObj _ hp.2 (by omega) hl3 rfl, hl4⟩⟩
    | panic ch => exact hp.elim
    | outgrown => exact hp.elim
  · rintro e W2 ⟨⟨v, rfl⟩, (⟨xs, hS, hi, hl⟩ | ⟨pre, hSp, c, hi, hl⟩)⟩
    · have he := run_endLoop (P := P) hl.rec_ (by rw [hrec]; simp)
      rw [hrec] at he
      exact ⟨none, _, he, hdone B xs _ (Nat.le_refl _) hS (hI.putObj _ hi (by omega) hl.rec_ rfl) ((World.putObj_heap_other (by omega)).trans hl.def_)⟩
    · have he := run_endLoop (P := P) hl.rec_ (by rw [hrec]; simp)
      rw [hrec] at he
      exact ⟨some c, _, he, hstop B c pre _ (Nat.le_refl _) hSp ((hIx c).putObj _ hi (by omega) hl.rec_ rfl) ((World.putObj_heap_other (by omega)).trans hl.def_)⟩
end

end Go.Proofs.Ytjpfbkhjhainpaa

/-
  What a round is told by Px abides the loop's own doing: readings of memory.
-/
set_option linter.unusedVariables false
namespace Go.Proofs.Ytjpfbkhjhainpaa
open Go.RowKit

theorem Reads.put_other {W : World} {B size n l : Nat} {A : Option Addr} {xs : List Value} {o o' : Obj} (h : Reads W B size A n xs) (hl : W.heap[l]? = some o) (ho : o.isCells = false) : Reads (W.putObj l o') B size A n xs := by
  refine ⟨h.1, fun hn => ?_⟩
  obtain ⟨ad, e, hb, hc⟩ := h.2 hn
  exact ⟨ad, e, hb, fun j u hu => cell_kept (hc j u hu) (grownBy_putObj' W l o') (fun r e => by cases e; exact ⟨_, hl, ho⟩)⟩
theorem ObR.put_other {W : World} {L l : Nat} {A : Option Addr} {n c : Nat} {ws : List Int} {B : Option Addr} {m d : Nat} {rs : List Int} {C : Option Addr} {p q : Nat} {is : List Int} {o o' : Obj} (h : ObR W L A n c ws B m d rs C p q is) (hl : W.heap[l]? = some o) (ho : o.isCells = false) : ObR (W.putObj l o') L A n c ws B m d rs C p q is :=
  ⟨h.wr.put_other hl ho, h.rr.put_other hl ho, h.ir.put_other hl ho, h.wc, h.rc, h.ic⟩
/-- A call that has made memory alone keeps what is no cells. -/
theorem others_below {W W' : World} (h : Below W.heap.size W W') : KeepsOthers W W' := by
  refine KeepsOthers.of_grownBy (row := none) ?_ (fun j o e => by cases e)
  exact ⟨h.os, h.tape, h.output, h.size, fun k hk _ => h.block k hk⟩

end Go.Proofs.Ytjpfbkhjhainpaa

/-
  PLAIN ARITHMETIC FOR LAYER 13 AND THOSE ABOVE: bytes that stand at a place of an image; what a word that is set, and what is put behind, do to them.
-/
set_option linter.unusedVariables false
set_option maxRecDepth 100000
set_option linter.unusedSimpArgs false
namespace Go.Proofs.Ytjpfbkhjhainpaa
open Go.RowKit

/-- These bytes stand there. -/
structure HoldsB (b : List Int) (j : Nat) (x : List Int) : Prop where
  fit : j + x.length ≤ b.length
  eq : (b.drop j).take x.length = x

theorem HoldsB.add {b x : List Int} {j : Nat} (h : HoldsB b j x) (y : List Int) : HoldsB (b ++ y) j x := by
  have h1 := h.fit
  refine ⟨by rw [List.length_append]; omega, ?_⟩
  rw [List.drop_append_of_le_length (by omega), List.take_append_of_le_length (by rw [List.length_drop]; omega)]
  exact h.eq
theorem HoldsB.new (b x : List Int) : HoldsB (b ++ x) b.length x := by
  refine ⟨by rw [List.length_append]; omega, ?_⟩
  rw [List.drop_append_of_le_length (Nat.le_refl _), List.drop_length, List.nil_append, List.take_length]
theorem HoldsB.byte {b x : List Int} {j i : Nat} (h : HoldsB b j x) (hi : i < x.length) : nz b (j + i) = nz x i := by
  have e := h.eq
  have h2 : nz ((b.drop j).take x.length) i = nz x i := by rw [e]
  rw [nz_take, if_pos hi, nz_drop] at h2
  exact h2
theorem HoldsB.of_nz {b x : List Int} {j : Nat} (hf : j + x.length ≤ b.length) (h : ∀ i, i < x.length → nz b (j + i) = nz x i) : HoldsB b j x := by
  refine ⟨hf, ext_nz (by rw [List.length_take, List.length_drop]; omega) fun i hi => ?_⟩
  rw [List.length_take, List.length_drop] at hi
  rw [nz_take, if_pos (by omega), nz_drop]
  exact h i (by omega)

/-- A word elsewhere. -/
theorem HoldsB.far {b x y : List Int} {j k : Nat} (h : HoldsB b j x) (hk : k + y.length ≤ b.length) (ho : k + y.length ≤ j ∨ j + x.length ≤ k) : HoldsB (splice b k y) j x := by
  have h1 := h.fit
  refine .of_nz (by rw [splice_len _ _ _ hk]; exact h1) fun i hi => ?_
  rw [nz_splice _ _ _ _ (by omega), if_neg (by omega)]
  exact h.byte hi
/-- A word within. -/
theorem HoldsB.within {b x y : List Int} {j o : Nat} (h : HoldsB b j x) (ho : o + y.length ≤ x.length) : HoldsB (splice b (j + o) y) j (splice x o y) := by
  have h1 := h.fit
  have hl : (splice x o y).length = x.length := splice_len _ _ _ ho
  refine .of_nz (by rw [hl, splice_len _ _ _ (by omega)]; exact h1) fun i hi => ?_
  rw [hl] at hi
  rw [nz_splice _ _ _ _ (by omega), nz_splice _ _ _ _ (by omega)]
  by_cases hc : o ≤ i ∧ i < o + y.length
  · rw [if_pos (by omega), if_pos hc]; congr 1; omega
  · rw [if_neg (by omega), if_neg hc]; exact h.byte hi

theorem splice_left (a x y : List Int) (k : Nat) : splice (a ++ x) (a.length + k) y = a ++ splice x k y := by
  unfold splice
  rw [List.take_append, List.take_of_length_le (by omega), List.drop_append, List.drop_eq_nil_of_le (by omega), Nat.add_sub_cancel_left, List.nil_append, Nat.add_assoc, Nat.add_sub_cancel_left]
  simp only [List.append_assoc]
theorem wordsB_cons (z : Int) (l : List Int) : wordsB (z :: l) = bts z 8 ++ wordsB l := by simp [wordsB]
theorem wordsB_at : ∀ (l r : List Int) (i : Nat), i < l.length → ((wordsB l ++ r).drop (8 * i)).take 8 = bts (l.getD i 0) 8
  | [], _, i, h => by simp at h
  | z :: l, r, 0, _ => by
    rw [wordsB_cons, List.append_assoc, Nat.mul_zero, List.drop_zero, List.take_left' (bts8_length z)]; rfl
  | z :: l, r, i + 1, h => by
    have e : 8 * (i + 1) = 8 + 8 * i := by omega
    rw [wordsB_cons, List.append_assoc, e, ← List.drop_drop, List.drop_left' (bts8_length z), wordsB_at l r i (by simpa using h)]; rfl
theorem wordsB_set : ∀ (l r : List Int) (i : Nat) (n : Int), i < l.length → splice (wordsB l ++ r) (8 * i) (bts n 8) = wordsB (l.set i n) ++ r
  | [], _, i, _, h => by simp at h
  | z :: l, r, 0, n, _ => by
    have l8 := bts8_length z
    rw [List.set_cons_zero, wordsB_cons, wordsB_cons]
    unfold splice
    rw [Nat.mul_zero, List.take_zero, List.nil_append, bts8_length n, Nat.zero_add, List.append_assoc, List.drop_left' l8, List.append_assoc]
  | z :: l, r, i + 1, n, h => by
    have l8 := bts8_length z
    have e : 8 * (i + 1) = (bts z 8).length + 8 * i := by rw [l8]; omega
    rw [List.set_cons_succ, wordsB_cons, wordsB_cons, e, List.append_assoc, splice_left, wordsB_set l r i n (by simpa using h), List.append_assoc]

/-- An object's bytes, its words ahead. -/
theorem encO_words {k : Int} {ws rs is : List Int} : ∃ r, ∀ us : List Int, us.length = ws.length → encO k us rs is = wordsB (k :: ((bareN k rs.length is.length : Nat) : Int) :: us) ++ r := by
  refine ⟨rs ++ wordsB is ++ List.replicate (padn (headO k ws rs is).length 8) 0, fun us hu => ?_⟩
  have hl : (headO k us rs is).length = (headO k ws rs is).length := by rw [headO_length, headO_length, hu]
  have e : headO k us rs is = wordsB (k :: ((bareN k rs.length is.length : Nat) : Int) :: us) ++ (rs ++ wordsB is) := by
    unfold headO
    rw [wordsB_two, wordsB_cons k, wordsB_cons _ us]
    simp only [List.append_assoc]
  unfold encO
  rw [hl, e]
  simp only [List.append_assoc]
/-- The i-th word of an object that stands there. -/
theorem HoldsB.word {b : List Int} {j i : Nat} {k : Int} {ws rs is : List Int} (h : HoldsB b j (encO k ws rs is)) (hi : i < ws.length) (hw : ∀ z ∈ ws, 0 ≤ z ∧ z < 18446744073709551616) : gnum b (j + (16 + 8 * i) : Nat) 8 = ws.getD i 0 := by
  obtain ⟨r, hr⟩ := encO_words (k := k) (ws := ws) (rs := rs) (is := is)
  have e := hr ws rfl
  have hlen : 16 + 8 * ws.length ≤ (encO k ws rs is).length := by rw [e, List.length_append, wordsB_length]; simp; omega
  have hf := h.fit
  have hd : ((b.drop (j + (16 + 8 * i))).take 8) = bts (ws.getD i 0) 8 := by
    have h1 := wordsB_at (k :: ((bareN k rs.length is.length : Nat) : Int) :: ws) r (i + 2) (by simp; omega)
    rw [← e, show 8 * (i + 2) = 16 + 8 * i by omega] at h1
    have h2 : (((b.drop j).take (encO k ws rs is).length).drop (16 + 8 * i)).take 8 = bts (ws.getD i 0) 8 := by
      rw [h.eq, h1]; simp
    rw [List.drop_take, List.take_take, Nat.min_eq_left (by omega), List.drop_drop] at h2
    exact h2
  have hb : 0 ≤ ws.getD i 0 ∧ ws.getD i 0 < 18446744073709551616 := by
    rw [List.getD_eq_getElem?_getD, List.getElem?_eq_getElem hi]; exact hw _ (List.getElem_mem hi)
  have hok : gok b.length ((j + (16 + 8 * i) : Nat) : Int) 8 = true := by simp [gok]; omega
  unfold gnum
  rw [hok]
  show lev ((b.drop ((j + (16 + 8 * i) : Nat) : Int).toNat).take 8) = _
  obtain ⟨z, hz⟩ : ∃ z : Nat, ws.getD i 0 = z := ⟨(ws.getD i 0).toNat, by omega⟩
  rw [Int.toNat_natCast, hd, hz, lev_bts (by omega)]
/-- Its i-th word is set. -/
theorem HoldsB.set {b : List Int} {j i : Nat} {k n : Int} {ws rs is : List Int} (h : HoldsB b j (encO k ws rs is)) (hi : i < ws.length) : HoldsB (splice b (j + (16 + 8 * i)) (bts n 8)) j (encO k (ws.set i n) rs is) := by
  obtain ⟨r, hr⟩ := encO_words (k := k) (ws := ws) (rs := rs) (is := is)
  have e := hr ws rfl
  have e2 := hr (ws.set i n) (by simp)
  have hlen : 16 + 8 * ws.length ≤ (encO k ws rs is).length := by rw [e, List.length_append, wordsB_length]; simp; omega
  have h1 := h.within (y := bts n 8) (o := 16 + 8 * i) (by rw [bts8_length]; omega)
  have h2 := wordsB_set (k :: ((bareN k rs.length is.length : Nat) : Int) :: ws) r (i + 2) n (by simp; omega)
  rw [← e, show 8 * (i + 2) = 16 + 8 * i by omega, List.set_cons_succ, List.set_cons_succ, ← e2] at h2
  rw [h2] at h1
  exact h1

/-- What stands at a place and behind it is all that decoding looks at. -/
theorem dec_same {zs ys : List Int} {j k s : Nat} (hl : zs.length = ys.length) (hd : zs.drop j = ys.drop j) (h : DecAt zs j k s) : DecAt ys j k s ∧ decB ys j k s = decB zs j k s ∧ objB ys j s = objB zs j s := by
  have e : ∀ i, ys.drop (j + i) = zs.drop (j + i) := fun i => by rw [← List.drop_drop, ← List.drop_drop, hd]
  refine ⟨⟨h.al, by rw [← hl]; exact h.room, by rw [← hd]; exact h.kd, by rw [e 8]; exact h.sd, h.kk, by rw [← hl]; exact h.fit⟩, ?_, ?_⟩
  · unfold decB; rw [e s, hl]
  · unfold objB; rw [hd]
/-- An object whose bytes stand there is decoded as it was. -/
theorem HoldsB.dec {b : List Int} {j k : Nat} {ws rs is : List Int} (h : HoldsB b j (encO k ws rs is)) (hj : j % 8 = 0) (hr : rightN k ws.length rs.length is.length = true) (hw : ∀ z ∈ ws, 0 ≤ z ∧ z < 18446744073709551616) (hi : ∀ z ∈ is, 0 ≤ z ∧ z < 18446744073709551616) :
    ∃ s, DecAt b j k s ∧ decB b j k s = true ∧ s + padn s 8 = (encO k ws rs is).length ∧ dW (objB b j s) k = ws ∧ dR (objB b j s) k = rs ∧ dI (objB b j s) k = is := by
  have hf := h.fit
  have hd : b.drop j = encO k ws rs is ++ b.drop (j + (encO k ws rs is).length) := by
    have h1 := List.take_append_drop (encO k ws rs is).length (b.drop j)
    rw [h.eq, List.drop_drop] at h1
    exact h1.symm
  obtain ⟨s, h1, h2, h3, h4, h5, h6⟩ := dec_back hj hr hw hi _ (rfl : List.replicate j 0 ++ encO k ws rs is ++ b.drop (j + (encO k ws rs is).length) = _)
  have hl : (List.replicate j 0 ++ encO k ws rs is ++ b.drop (j + (encO k ws rs is).length)).length = b.length := by
    rw [List.length_append, List.length_append, List.length_replicate, List.length_drop]; omega
  obtain ⟨g1, g2, g3⟩ := dec_same hl (by rw [List.append_assoc, List.drop_left' (List.length_replicate ..), ← hd]) h1
  exact ⟨s, g1, by rw [g2]; exact h2, h3, by rw [g3]; exact h4, by rw [g3]; exact h5, by rw [g3]; exact h6⟩

end Go.Proofs.Ytjpfbkhjhainpaa

/-
  PLAIN ARITHMETIC FOR LAYER 13: what the two tables of a file are (rows that were added, each an object that stands at its place, linked bucket by bucket), and that adding a row keeps it.
-/
set_option linter.unusedVariables false
set_option maxRecDepth 100000
set_option linter.unusedSimpArgs false
namespace Go.Proofs.Ytjpfbkhjhainpaa
open Go.RowKit

structure TRow where
  k : Nat
  raw : List Int
  at_ : Nat

/-- How many bytes an object of a kind with so many bytes takes. -/
def tlen (k n : Nat) : Nat := (frontN k + n + 7) / 8 * 8
/-- A row's words, the next one's place among them; its bytes. -/
def tW (key : Int) (r : TRow) (z : Int) : List Int := hsh key r.raw :: z :: List.replicate (kwN r.k - 2) 0
def tO (key : Int) (r : TRow) (z : Int) : List Int := encO r.k (tW key r z) r.raw []
/-- How many buckets, and where they begin. -/
def nb (D F : Int) (k : Nat) : Int := if k = 1 then D else F
def tb (D : Int) (k : Nat) : Nat := if k = 1 then 256 else 256 + 8 * D.toNat
def bkt (key D F : Int) (r : TRow) : Int := bucket (hsh key r.raw) (nb D F r.k)
def inB (key D F : Int) (k : Nat) (i : Int) (r : TRow) : Bool := r.k == k && bkt key D F r == i
def chainL (key D F : Int) (k : Nat) (i : Int) (l : List TRow) : List TRow := l.filter (inB key D F k i)

/-- A row that may be. -/
structure TRow.Fine (r : TRow) : Prop where
  kind : r.k = 1 ∨ r.k = 2
  right : rightN r.k (kwN r.k) r.raw.length 0 = true
  bytes : AreB r.raw
  al : r.at_ % 8 = 0

theorem TRow.Fine.kw {r : TRow} (h : r.Fine) : 2 ≤ kwN r.k ∧ kwN r.k ≤ 5 := by
  rcases h.kind with e | e <;> rw [e] <;> decide
theorem tW_length {key z : Int} {r : TRow} (h : r.Fine) : (tW key r z).length = kwN r.k := by
  have := h.kw
  unfold tW; simp; omega
theorem TRow.Fine.rt {r : TRow} (h : r.Fine) (key z : Int) : rightN r.k (tW key r z).length r.raw.length ([] : List Int).length = true := by rw [tW_length h]; exact h.right
theorem hsh_isU (key : Int) (zs : List Int) : IsU (hsh key zs) := by unfold hsh; exact stir_isU _ _
theorem tW_bd {key z : Int} {r : TRow} (hz : IsU z) : ∀ x ∈ tW key r z, 0 ≤ x ∧ x < 18446744073709551616 := by
  intro x hx
  unfold tW at hx
  rcases List.mem_cons.1 hx with e | hx
  · rw [e]; exact hsh_isU _ _
  · rcases List.mem_cons.1 hx with e | hx
    · rw [e]; exact hz
    · rw [(List.mem_replicate.1 hx).2]; omega
theorem tO_length {key z : Int} {r : TRow} (h : r.Fine) : (tO key r z).length = tlen r.k r.raw.length := by
  unfold tO
  rw [encO_length (h.rt key z)]
  unfold bareN tlen padn
  simp only [List.length_nil]
  rw [if_neg (by omega)]
  split <;> omega
theorem tlen_front {r : TRow} (h : r.Fine) : 40 ≤ tlen r.k r.raw.length := by
  have h2 := h.kw
  unfold tlen frontN
  rcases h.kind with e | e <;> rw [e] at h2 ⊢
  · have : kwN ((1 : Nat) : Int) = 5 := rfl
    rw [this]; omega
  · have : kwN ((2 : Nat) : Int) = 3 := rfl
    rw [this]; omega
theorem tlen_al (k n : Nat) : tlen k n % 8 = 0 := by unfold tlen; omega

/-- The word that leads on is set. -/
theorem tO_next {key z n : Int} {r : TRow} {b : List Int} (h : r.Fine) (hh : HoldsB b r.at_ (tO key r z)) : HoldsB (splice b (r.at_ + 24) (bts n 8)) r.at_ (tO key r n) := by
  have h2 := h.kw
  have hs := HoldsB.set (i := 1) (n := n) hh (by rw [tW_length h]; omega)
  have e : (tW key r z).set 1 n = tW key r n := by simp [tW]
  rw [e] at hs
  exact hs
theorem tO_word {key z : Int} {r : TRow} {b : List Int} (h : r.Fine) (hz : IsU z) (hh : HoldsB b r.at_ (tO key r z)) : gnum b (r.at_ + 24 : Nat) 8 = z := by
  have h2 := h.kw
  have hs := HoldsB.word (i := 1) hh (by rw [tW_length h]; omega) (tW_bd hz)
  rw [show r.at_ + (16 + 8 * 1) = r.at_ + 24 by omega] at hs
  rw [hs]; simp [tW]

/-- From this place on just these rows stand, each led on to the next. -/
def linked (key : Int) (b : List Int) : Int → List TRow → Prop
  | p, [] => p = 0
  | p, r :: L => p = r.at_ ∧ ∃ z, IsU z ∧ HoldsB b r.at_ (tO key r z) ∧ linked key b z L

theorem linked_isU {key : Int} {b : List Int} {p : Int} : ∀ {L : List TRow}, linked key b p L → (∀ r ∈ L, r.at_ < 18446744073709551616) → IsU p
  | [], h, _ => by rw [show p = 0 from h]; exact ⟨by omega, by omega⟩
  | r :: L, h, hb => by rw [h.1]; exact ⟨by omega, by have := hb r (by simp); omega⟩

theorem linked_keep {key : Int} {b b' : List Int} : ∀ {L : List TRow} {p : Int}, linked key b p L → (∀ r ∈ L, ∀ z, HoldsB b r.at_ (tO key r z) → HoldsB b' r.at_ (tO key r z)) → linked key b' p L
  | [], p, h, _ => h
  | r :: L, p, ⟨e, z, hu, hh, hl⟩, hk => ⟨e, z, hu, hk r (by simp) z hh, linked_keep hl (fun r' hr' => hk r' (by simp [hr']))⟩
theorem linked_snoc {key : Int} {b b' : List Int} {q n : TRow} (hn : (n.at_ : Int) < 18446744073709551616) : ∀ {L : List TRow} {p : Int}, linked key b p (L ++ [q]) → (∀ r ∈ L, ∀ z, HoldsB b r.at_ (tO key r z) → HoldsB b' r.at_ (tO key r z)) →
    (∀ z, HoldsB b q.at_ (tO key q z) → HoldsB b' q.at_ (tO key q n.at_)) → HoldsB b' n.at_ (tO key n 0) → linked key b' p (L ++ [q] ++ [n])
  | [], p, ⟨e, z, hu, hh, hl⟩, _, hq, hn' => ⟨e, n.at_, ⟨by omega, hn⟩, hq z hh, rfl, 0, ⟨by omega, by omega⟩, hn', rfl⟩
  | r :: L, p, ⟨e, z, hu, hh, hl⟩, hk, hq, hn' => ⟨e, z, hu, hk r (by simp) z hh, linked_snoc hn hl (fun r' hr' => hk r' (by simp [hr'])) hq hn'⟩
/-- The last one leads nowhere. -/
theorem linked_last {key : Int} {b : List Int} {q : TRow} : ∀ {L : List TRow} {p : Int}, linked key b p (L ++ [q]) → HoldsB b q.at_ (tO key q 0)
  | [], p, ⟨e, z, hu, hh, hl⟩ => by rw [show z = 0 from hl] at hh; exact hh
  | r :: L, p, ⟨e, z, hu, hh, hl⟩ => linked_last hl

theorem gnum_far {b y : List Int} {j k : Nat} (hk : k + y.length ≤ b.length) (hj : j + 8 ≤ b.length) (ho : k + y.length ≤ j ∨ j + 8 ≤ k) : gnum (splice b k y) (j : Nat) 8 = gnum b (j : Nat) 8 := by
  unfold gnum
  rw [splice_len _ _ _ hk]
  have e : ((splice b k y).drop ((j : Nat) : Int).toNat).take (8 : Int).toNat = (b.drop ((j : Nat) : Int).toNat).take (8 : Int).toNat := by
    rw [Int.toNat_natCast]
    refine ext_nz (by simp [splice_len _ _ _ hk]) fun i hi => ?_
    rw [nz_take, nz_take, nz_drop, nz_drop, nz_splice _ _ _ _ (by omega)]
    have h8 : (8 : Int).toNat = 8 := rfl
    rw [h8]
    by_cases h : i < 8
    · rw [if_pos h, if_pos h, if_neg (by omega)]
    · rw [if_neg h, if_neg h]
  rw [e]
theorem gnum_add {b y : List Int} {j : Nat} (hj : j + 8 ≤ b.length) : gnum (b ++ y) (j : Nat) 8 = gnum b (j : Nat) 8 := by
  unfold gnum
  have g1 : gok (b ++ y).length (j : Nat) 8 = true := by simp [gok]; omega
  have g2 : gok b.length (j : Nat) 8 = true := by simp [gok]; omega
  rw [g1, g2, if_pos rfl, if_pos rfl, Int.toNat_natCast, List.drop_append_of_le_length (by omega), List.take_append_of_le_length (by rw [List.length_drop]; have h8 : (8 : Int).toNat = 8 := rfl; rw [h8]; omega)]
theorem gnum_here {b : List Int} {j n : Nat} (hj : j + 8 ≤ b.length) (hn : n < 18446744073709551616) : gnum (splice b j (bts n 8)) (j : Nat) 8 = n := by
  have hl : (bts (n : Int) 8).length = 8 := bts8_length _
  unfold gnum
  have g1 : gok (splice b j (bts (n : Int) 8)).length (j : Nat) 8 = true := by rw [splice_len _ _ _ (by omega)]; simp [gok]; omega
  have h8 : (8 : Int).toNat = 8 := rfl
  rw [g1, if_pos rfl, Int.toNat_natCast, h8]
  have e : ((splice b j (bts (n : Int) 8)).drop j).take 8 = bts (n : Int) 8 := by
    refine ext_nz (by rw [List.length_take, List.length_drop, splice_len _ _ _ (by omega), hl]; omega) fun i hi => ?_
    rw [List.length_take] at hi
    rw [nz_take, nz_drop, if_pos (by omega), nz_splice _ _ _ _ (by omega), if_pos (by omega)]
    congr 1; omega
  rw [e, lev_bts hn]

theorem apart_of {R : TRow → TRow → Prop} : ∀ {l : List TRow}, l.Pairwise R → ∀ {r q : TRow}, r ∈ l → q ∈ l → r = q ∨ R r q ∨ R q r
  | [], _, r, q, h, _ => by cases h
  | a :: l, h, r, q, hr, hq => by
    rw [List.pairwise_cons] at h
    rcases List.mem_cons.1 hr with e | h1
    · rcases List.mem_cons.1 hq with e2 | h2
      · exact .inl (e.trans e2.symm)
      · rw [e]; exact .inr (.inl (h.1 _ h2))
    · rcases List.mem_cons.1 hq with e2 | h2
      · rw [e2]; exact .inr (.inr (h.1 _ h1))
      · exact apart_of h.2 h1 h2

/-- THE TWO TABLES OF A FILE: these rows were added. -/
structure TB (key D F : Int) (b : List Int) (l : List TRow) : Prop where
  hD : 1 ≤ D ∧ D ≤ 256
  hF : 1 ≤ F ∧ F ≤ 256
  al : b.length % 8 = 0
  low : newK D F ≤ b.length
  most : b.length ≤ 1099511627776
  fine : ∀ r ∈ l, r.Fine ∧ newK D F ≤ r.at_ ∧ r.at_ + tlen r.k r.raw.length ≤ b.length
  rise : l.Pairwise (fun r r' => r.at_ + tlen r.k r.raw.length ≤ r'.at_)
  chains : ∀ k, (k = 1 ∨ k = 2) → ∀ i : Nat, (i : Int) < nb D F k → linked key b (gnum b (tb D k + 8 * i : Nat) 8) (chainL key D F k i l)

theorem newK_val {D F : Int} (hD : 1 ≤ D ∧ D ≤ 256) (hF : 1 ≤ F ∧ F ≤ 256) : ((newK D F : Nat) : Int) = 256 + 8 * (D + F) := by unfold newK; omega
theorem nb_bd {D F : Int} (hD : 1 ≤ D ∧ D ≤ 256) (hF : 1 ≤ F ∧ F ≤ 256) (k : Nat) : 1 ≤ nb D F k ∧ nb D F k ≤ 256 := by unfold nb; split <;> assumption
/-- Where a bucket's word stands. -/
theorem tb_low {D F : Int} (hD : 1 ≤ D ∧ D ≤ 256) (hF : 1 ≤ F ∧ F ≤ 256) {k i : Nat} (hi : (i : Int) < nb D F k) : tb D k + 8 * i + 8 ≤ newK D F ∧ 256 ≤ tb D k ∧ tb D k % 8 = 0 := by
  have := newK_val hD hF
  unfold nb at hi
  unfold tb
  split at hi
  · rename_i h; rw [if_pos h]; omega
  · rename_i h; rw [if_neg h]; omega
theorem tb_apart {D F : Int} (hD : 1 ≤ D ∧ D ≤ 256) {k i k' i' : Nat} (hk : k = 1 ∨ k = 2) (hk' : k' = 1 ∨ k' = 2) (hi : (i : Int) < nb D F k) (hi' : (i' : Int) < nb D F k') (hne : k ≠ k' ∨ i ≠ i') :
    tb D k + 8 * i + 8 ≤ tb D k' + 8 * i' ∨ tb D k' + 8 * i' + 8 ≤ tb D k + 8 * i := by
  unfold nb at hi hi'
  unfold tb
  rcases hk with rfl | rfl <;> rcases hk' with rfl | rfl <;> simp at hi hi' hne ⊢ <;> omega
theorem bkt_bd {key D F : Int} (hD : 1 ≤ D ∧ D ≤ 256) (hF : 1 ≤ F ∧ F ≤ 256) (r : TRow) : ∃ i : Nat, bkt key D F r = i ∧ (i : Int) < nb D F r.k := by
  have h := nb_bd hD hF r.k
  have hu := hsh_isU key r.raw
  unfold bkt bucket
  rw [if_neg (by omega)]
  have h1 := Int.emod_nonneg (hsh key r.raw) (b := nb D F r.k) (by omega)
  have h2 := Int.emod_lt_of_pos (hsh key r.raw) (b := nb D F r.k) (by omega)
  exact ⟨(hsh key r.raw % nb D F r.k).toNat, by omega, by omega⟩

theorem mem_chain {key D F : Int} {k : Nat} {i : Int} {l : List TRow} {r : TRow} (h : r ∈ chainL key D F k i l) : r ∈ l ∧ r.k = k ∧ bkt key D F r = i := by
  unfold chainL at h
  obtain ⟨h1, h2⟩ := List.mem_filter.1 h
  unfold inB at h2
  simp at h2
  exact ⟨h1, h2.1, h2.2⟩
theorem chain_snoc {key D F : Int} {k : Nat} {i : Int} {l : List TRow} {r : TRow} : chainL key D F k i (l ++ [r]) = if r.k = k ∧ bkt key D F r = i then chainL key D F k i l ++ [r] else chainL key D F k i l := by
  unfold chainL inB
  rw [List.filter_append]
  by_cases h : r.k = k ∧ bkt key D F r = i
  · rw [if_pos h]; simp [h.1, h.2]
  · rw [if_neg h]
    have : (r.k == k && bkt key D F r == i) = false := by
      rw [Bool.and_eq_false_iff]
      by_cases h1 : r.k = k
      · right; have : ¬ bkt key D F r = i := fun e => h ⟨h1, e⟩; simpa using this
      · left; simpa using h1
    simp [List.filter_cons, this]

/-- The word that will lead on to a new row. -/
def linkP (D : Int) (k i : Nat) (L : List TRow) : Nat := match L.getLast? with
  | none => tb D k + 8 * i
  | some q => q.at_ + 24

theorem TB.link {key D F : Int} {b : List Int} {l : List TRow} (H : TB key D F b l) {k i : Nat} (hk : k = 1 ∨ k = 2) (hi : (i : Int) < nb D F k) :
    linkP D k i (chainL key D F k i l) + 8 ≤ b.length ∧ linkP D k i (chainL key D F k i l) % 8 = 0 ∧ 256 ≤ linkP D k i (chainL key D F k i l) ∧ gnum b (linkP D k i (chainL key D F k i l) : Nat) 8 = 0 := by
  have hc := H.chains k hk i hi
  have hl := tb_low H.hD H.hF hi
  have h1 := H.low
  have hv := newK_val H.hD H.hF
  obtain ⟨L, hL⟩ : ∃ L, chainL key D F k i l = L := ⟨_, rfl⟩
  have hm : ∀ r ∈ L, r ∈ l := fun r hr => (mem_chain (hL ▸ hr)).1
  rw [hL] at hc ⊢
  rcases List.eq_nil_or_concat L with rfl | ⟨L', q, rfl⟩
  · have e : linkP D k i [] = tb D k + 8 * i := rfl
    rw [e]
    exact ⟨by omega, by omega, by omega, hc⟩
  · have hq := H.fine q (hm q (by simp))
    have hw := linked_last (L := L') (q := q) (by rw [List.concat_eq_append] at hc; exact hc)
    have e : linkP D k i (L'.concat q) = q.at_ + 24 := by simp [linkP]
    rw [e]
    have h2 := tlen_front hq.1
    have h3 := hq.1.al
    refine ⟨by omega, by omega, by omega, ?_⟩
    exact tO_word hq.1 ⟨by omega, by omega⟩ hw

theorem TB.nothing {key D F : Int} {b : List Int} (hD : 1 ≤ D ∧ D ≤ 256) (hF : 1 ≤ F ∧ F ≤ 256) (hl : b.length = newK D F) (hz : ∀ j, 256 ≤ j → nz b j = 0) : TB key D F b [] where
  hD := hD
  hF := hF
  al := by have := newK_val hD hF; omega
  low := by omega
  most := by have := newK_val hD hF; omega
  fine := by intro r hr; cases hr
  rise := List.Pairwise.nil
  chains := by
    intro k hk i hi
    have h1 := tb_low hD hF hi
    show gnum b (tb D k + 8 * i : Nat) 8 = 0
    unfold gnum
    have g1 : gok b.length (tb D k + 8 * i : Nat) 8 = true := by simp [gok]; omega
    have h8 : (8 : Int).toNat = 8 := rfl
    rw [g1, if_pos rfl, Int.toNat_natCast, h8]
    have e : (b.drop (tb D k + 8 * i)).take 8 = List.replicate 8 0 := by
      refine ext_nz (by rw [List.length_take, List.length_drop, List.length_replicate]; omega) fun j hj => ?_
      rw [List.length_take] at hj
      rw [nz_take, if_pos (by omega), nz_drop, hz _ (by omega)]
      exact (nz_of_all (fun z hz => (List.mem_replicate.1 hz).2) j).symm
    rw [e]; decide

/-- A ROW IS ADDED: put behind all, and linked. -/
theorem TB.add {key D F : Int} {b : List Int} {l : List TRow} (H : TB key D F b l) {r : TRow} (hr : r.Fine) (ha : r.at_ = b.length) (hm : b.length + tlen r.k r.raw.length ≤ 1099511627776) {i : Nat} (hi : bkt key D F r = i) :
    TB key D F (splice (b ++ tO key r 0) (linkP D r.k i (chainL key D F r.k i l)) (bts (r.at_ : Nat) 8)) (l ++ [r]) := by
  have hib : (i : Int) < nb D F r.k := by obtain ⟨j, h1, h2⟩ := bkt_bd (key := key) H.hD H.hF r; rw [hi] at h1; omega
  obtain ⟨k1, k2, k3, k4⟩ := H.link hr.kind hib
  obtain ⟨L, hL⟩ : ∃ L, chainL key D F r.k i l = L := ⟨_, rfl⟩
  rw [hL] at k1 k2 k3 k4 ⊢
  obtain ⟨p, hp⟩ : ∃ p, linkP D r.k i L = p := ⟨_, rfl⟩
  rw [hp] at k1 k2 k3 k4 ⊢
  have hmem : ∀ q ∈ L, q ∈ l ∧ q.k = r.k ∧ bkt key D F q = i := fun q hq => mem_chain (hL ▸ hq)
  have b8 : (bts ((r.at_ : Nat) : Int) 8).length = 8 := bts8_length _
  have hx : (tO key r 0).length = tlen r.k r.raw.length := tO_length hr
  have hl1 : (b ++ tO key r 0).length = b.length + tlen r.k r.raw.length := by rw [List.length_append, hx]
  have hl2 : (splice (b ++ tO key r 0) p (bts (r.at_ : Nat) 8)).length = b.length + tlen r.k r.raw.length := by rw [splice_len _ _ _ (by omega), hl1]
  have hlow := H.low
  have hv := newK_val H.hD H.hF
  have htl := tlen_al r.k r.raw.length
  have hal := H.al
  -- where the word stands: in the table, or in the last row of the bucket
  have hcase : (L = [] ∧ p = tb D r.k + 8 * i) ∨ ∃ L' q, L = L' ++ [q] ∧ p = q.at_ + 24 := by
    rcases List.eq_nil_or_concat L with h | ⟨L', q, h⟩
    · left; refine ⟨h, ?_⟩; rw [← hp, h]; rfl
    · right; refine ⟨L', q, by rw [h, List.concat_eq_append], ?_⟩; rw [← hp, h]; simp [linkP]
  -- a row that is not the bucket's last one stays
  have hstay : ∀ q ∈ l, (∀ L' q', L = L' ++ [q'] → q.at_ + tlen q.k q.raw.length ≤ q'.at_ ∨ q'.at_ + tlen q'.k q'.raw.length ≤ q.at_) → ∀ z, HoldsB b q.at_ (tO key q z) → HoldsB (splice (b ++ tO key r 0) p (bts (r.at_ : Nat) 8)) q.at_ (tO key q z) := by
    intro q hq hne z hh
    have hf := H.fine q hq
    refine (hh.add _).far (by omega) ?_
    rw [tO_length hf.1]
    rcases hcase with ⟨_, e⟩ | ⟨L', q', e, e2⟩
    · have := tb_low H.hD H.hF hib
      left; omega
    · have hq' := H.fine q' (hmem q' (by rw [e]; simp)).1
      have h4 := tlen_front hq'.1
      rcases hne L' q' e with h | h
      · right; omega
      · left; omega
  have hnew : HoldsB (splice (b ++ tO key r 0) p (bts (r.at_ : Nat) 8)) r.at_ (tO key r 0) := by
    rw [ha]
    exact (HoldsB.new b _).far (by rw [hl1, bts8_length]; omega) (by left; rw [bts8_length]; omega)
  refine ⟨H.hD, H.hF, by rw [hl2]; omega, by rw [hl2]; omega, by rw [hl2]; exact hm, ?_, ?_, ?_⟩
  · intro q hq
    rw [hl2]
    rcases List.mem_append.1 hq with hq | hq
    · have := H.fine q hq
      exact ⟨this.1, this.2.1, by omega⟩
    · have e : q = r := by simpa using hq
      rw [e]
      exact ⟨hr, by omega, by omega⟩
  · rw [List.pairwise_append]
    refine ⟨H.rise, List.pairwise_singleton _ _, fun q hq x hx' => ?_⟩
    have e : x = r := by simpa using hx'
    have := H.fine q hq
    rw [e]; omega
  · intro k hk j hj
    rw [chain_snoc]
    have hjl := tb_low H.hD H.hF hj
    by_cases h : r.k = k ∧ bkt key D F r = j
    · rw [if_pos h]
      obtain ⟨rfl, h2⟩ := h
      have e : j = i := by omega
      subst e
      rw [hL]
      have hc := H.chains r.k hk j hj
      rw [hL] at hc
      rcases hcase with ⟨e, e2⟩ | ⟨L', q, e, e2⟩
      · subst e
        rw [← e2]
        refine ⟨gnum_here (by omega) (by omega), 0, ⟨by omega, by omega⟩, hnew, rfl⟩
      · have hq := hmem q (by rw [e]; simp)
        have hqf := H.fine q hq.1
        have hfr := tlen_front hqf.1
        rw [gnum_far (by omega) (by omega) (by right; omega), gnum_add (by omega)]
        subst e
        refine linked_snoc (by omega) hc ?_ ?_ hnew
        · intro r' hr' z
          refine hstay r' (hmem r' (by simp [hr'])).1 (fun L2 q2 e3 => ?_) z
          have e4 := List.append_inj' e3 rfl
          have e5 : q2 = q := by simpa using e4.2.symm
          rw [e5]
          left
          have hpw : (L' ++ [q]).Pairwise (fun r r' => r.at_ + tlen r.k r.raw.length ≤ r'.at_) := by rw [← hL]; exact H.rise.filter _
          rw [List.pairwise_append] at hpw
          exact hpw.2.2 r' hr' q (by simp)
        · intro z hh
          rw [e2]
          exact tO_next hqf.1 (hh.add _)
    · rw [if_neg h]
      have hc := H.chains k hk j hj
      have hg : gnum (splice (b ++ tO key r 0) p (bts (r.at_ : Nat) 8)) (tb D k + 8 * j : Nat) 8 = gnum b (tb D k + 8 * j : Nat) 8 := by
        rw [gnum_far (by omega) (by omega) ?_, gnum_add (by omega)]
        rcases hcase with ⟨e, e2⟩ | ⟨L', q, e, e2⟩
        · have hne : r.k ≠ k ∨ i ≠ j := by
            by_cases h1 : r.k = k
            · right; intro e3; exact h ⟨h1, by rw [hi, e3]⟩
            · left; exact h1
          rcases tb_apart (F := F) H.hD hr.kind hk hib hj hne with h3 | h3
          · left; omega
          · right; omega
        · have hq := H.fine q (hmem q (by rw [e]; simp)).1
          right; omega
      rw [hg]
      refine linked_keep hc fun q hq z => hstay q (mem_chain hq).1 (fun L' q' e => ?_) z
      have h1 := mem_chain hq
      have h2 := hmem q' (by rw [e]; simp)
      rcases apart_of H.rise h1.1 h2.1 with e3 | h3 | h3
      · exfalso
        subst e3
        exact h ⟨by rw [← h2.2.1, h1.2.1], by rw [hi, ← h2.2.2, h1.2.2]⟩
      · exact .inl h3
      · exact .inr h3

/-- What is found in the bucket is what is found in all. -/
theorem find_chain {key D F : Int} {k : Nat} {raw : List Int} {i : Nat} (hi : bucket (hsh key raw) (nb D F k) = i) : ∀ l : List TRow, (chainL key D F k i l).find? (fun r => decide (r.raw = raw)) = l.find? (fun r => decide (r.k = k) && decide (r.raw = raw))
  | [] => rfl
  | r :: l => by
    have ih := find_chain hi l
    unfold chainL at ih ⊢
    by_cases h : r.k = k ∧ r.raw = raw
    · have hb : inB key D F k i r = true := by unfold inB bkt; rw [h.1, h.2, hi]; simp
      rw [List.filter_cons, if_pos hb, List.find?_cons, List.find?_cons]
      simp [h.1, h.2]
    · have e : (decide (r.k = k) && decide (r.raw = raw)) = false := by
        rw [Bool.and_eq_false_iff]
        by_cases h1 : r.k = k
        · right; exact decide_eq_false (fun e => h ⟨h1, e⟩)
        · left; exact decide_eq_false h1
      have hR : (r :: l).find? (fun r => decide (r.k = k) && decide (r.raw = raw)) = l.find? (fun r => decide (r.k = k) && decide (r.raw = raw)) := by rw [List.find?_cons, e]
      rw [List.filter_cons, hR]
      by_cases hb : inB key D F k i r = true
      · rw [if_pos hb, List.find?_cons]
        have h1 : r.k = k := by unfold inB at hb; simp at hb; exact hb.1
        have h2 : ¬ r.raw = raw := fun e2 => h ⟨h1, e2⟩
        rw [decide_eq_false h2]
        exact ih
      · rw [if_neg hb]; exact ih

end Go.Proofs.Ytjpfbkhjhainpaa

/-
  LAYER 13: WHAT Follow's ITERATOR TELLS: objects of a kind from a place on, each led on to the next by one of its words, in their order; its contract for whatever the rounds do.
-/
set_option linter.unusedVariables false
set_option maxRecDepth 100000
set_option linter.unusedSimpArgs false
namespace Go.Proofs.Ytjpfbkhjhainpaa
open Go.RowKit Go.Shelf
attribute [local go_sem] Oper.semAt_some

/-- What is told of an object: its place, its words, its bytes, its numbers. -/
structure It where
  j : Nat
  ws : List Int
  rs : List Int
  is : List Int

/-- It stands there. -/
def IM.obAt (m : IM) (D F : Int) (kd : Nat) (t : It) : Prop := ∃ s, m.there D F t.j kd s ∧ dW (objB m.b t.j s) kd = t.ws ∧ dR (objB m.b t.j s) kd = t.rs ∧ dI (objB m.b t.j s) kd = t.is
/-- None of that kind stands there. -/
def IM.noAt (m : IM) (D F : Int) (kd : Nat) (pl : Int) : Prop := m.bare D F pl ∨ ∃ j kk s : Nat, pl = (j : Nat) ∧ m.there D F j kk s ∧ (kk : Int) ≠ kd
/-- The objects that are followed from a place on. -/
def chainAt (m : IM) (D F : Int) (kd wd : Nat) : Int → Int → List It → Prop
  | last, pl, [] => ¬ last < pl ∨ m.noAt D F kd pl
  | last, pl, t :: l => last < pl ∧ pl = t.j ∧ m.obAt D F kd t ∧ chainAt m D F kd wd t.j (t.ws.getD wd 0) l

/-- What a round is handed. -/
structure Ob where
  t : It
  A : Option Addr
  n : Nat
  c : Nat
  B : Option Addr
  m : Nat
  d : Nat
  C : Option Addr
  p : Nat
  q : Nat
def Ob.v (kd : Nat) (x : Ob) : Value := obV kd x.A x.n x.c x.B x.m x.d x.C x.p x.q
def Ob.encs (kd : Nat) (x : Ob) : Array Value := #[.int .i64 x.t.j, x.v kd]
def Ob.lies (x : Ob) (W : World) : Prop := ObR W W.heap.size x.A x.n x.c x.t.ws x.B x.m x.d x.t.rs x.C x.p x.q x.t.is
def TellsOb (its : List It) (pre : List Ob) (x : Ob) (W : World) : Prop := (∃ rest, pre.map (·.t) ++ x.t :: rest = its) ∧ x.lies W

/-- What the rounds keep: whatever lies below n₀ but for T. -/
abbrev KeepC (n₀ : Nat) (T : Nat → Prop) (W W' : World) : Prop := Chg (fun k => n₀ ≤ k ∨ T k) W W'
theorem keepC_t {n₀ : Nat} {T : Nat → Prop} {A B C : World} (h : KeepC n₀ T A B) (k : KeepC n₀ T B C) : KeepC n₀ T A C := h.trans k (fun _ _ h => h)
theorem keepC_b {n₀ : Nat} {T : Nat → Prop} {w : World} (hn : n₀ ≤ w.heap.size) (W : World) (l : Nat) (o o' : Obj) (hl : w.heap.size ≤ l) (h : W.heap[l]? = some o) (_ : o.isCells = false) (_ : o.isWalk = false) : KeepC n₀ T W (W.putObj l o') :=
  ⟨rfl, rfl, rfl, by simp, fun k _ hk => World.putObj_heap_other (fun e => hk (.inl (by omega)))⟩
theorem keepC_below {n₀ : Nat} {T : Nat → Prop} {A B : World} (h : Below A.heap.size A B) : KeepC n₀ T A B := Chg.of_below h (Nat.le_refl _) _

theorem abides_below {β : Type} {N : Nat} {J : β → World → Prop} (hJ : AbidesFrom N J) {s : β} {W W' : World} (h : J s W) (hb : Below W.heap.size W W') : J s W' :=
  hJ s W W' none h ⟨hb.os, hb.tape, hb.output, hb.size, fun k hk _ => hb.block k hk⟩ (fun r e => by cases e)

theorem Reads.upto {W : World} {B B' size n : Nat} {A : Option Addr} {xs : List Value} (h : Reads W B size A n xs) (hB : B ≤ B') : Reads W B' size A n xs :=
  ⟨h.1, fun hn => by obtain ⟨ad, e, hb, hc⟩ := h.2 hn; exact ⟨ad, e, by omega, hc⟩⟩
theorem ObR.upto {W : World} {L L' : Nat} {A : Option Addr} {n c : Nat} {ws : List Int} {B : Option Addr} {m d : Nat} {rs : List Int} {C : Option Addr} {p q : Nat} {is : List Int} (h : ObR W L A n c ws B m d rs C p q is) (hL : L ≤ L') : ObR W L' A n c ws B m d rs C p q is :=
  ⟨h.wr.upto hL, h.rr.upto hL, h.ir.upto hL, h.wc, h.rc, h.ic⟩

section
variable {base p : Nat} {S : Nat → Prop} {i k d f h : Int} {m : IM} {bv sv : Value}

end

end Go.Proofs.Ytjpfbkhjhainpaa

/-
  LAYER 13: WHAT Sum, bucket, Follow AND All OF PACKAGE table DO: contracts.
-/
set_option linter.unusedVariables false
set_option maxRecDepth 100000
set_option linter.unusedSimpArgs false
namespace Go.Proofs.Ytjpfbkhjhainpaa
open Go.RowKit

/-- An iterator's four boxes. -/
structure FlAt (w : World) (g p : Nat) (pl : Int) (kd wd : Nat) : Prop where
  lo : g + 4 ≤ w.heap.size
  cm : w.cell? ⟨g, 0, none⟩ = some (.pointer (some ⟨p, 0, none⟩))
  cp : w.cell? ⟨g + 1, 0, none⟩ = some (.int .u64 pl)
  ck : w.cell? ⟨g + 2, 0, none⟩ = some (.int .i64 kd)
  cw : w.cell? ⟨g + 3, 0, none⟩ = some (.int .i64 wd)
theorem FlAt.below {w w' : World} {g p : Nat} {pl : Int} {kd wd : Nat} (h : FlAt w g p pl kd wd) (hb : Below w.heap.size w w') : FlAt w' g p pl kd wd :=
  ⟨Nat.le_trans h.lo hb.size, (hb.cell (p := ⟨g, 0, none⟩) (by have := h.lo; show g < _; omega)).trans h.cm, (hb.cell (p := ⟨g + 1, 0, none⟩) (by have := h.lo; show g + 1 < _; omega)).trans h.cp,
   (hb.cell (p := ⟨g + 2, 0, none⟩) (by have := h.lo; show g + 2 < _; omega)).trans h.ck, (hb.cell (p := ⟨g + 3, 0, none⟩) (by have := h.lo; show g + 3 < _; omega)).trans h.cw⟩

theorem cell_kept1 {w : World} {o : Obj} {a : Addr} {v : Value} (h : w.cell? a = some v) : (w.alloc o).cell? a = some v := (World.cell?_alloc_lt w o a (by obtain ⟨o', h', -⟩ := cells_of_cell h; exact (Array.getElem?_eq_some_iff.1 h').1)).trans h
theorem ret_ib {x y : Int} {b : Bool} (h : x = y) : Ending.returned (.tuple #[.int .i64 x, .bool b]) = .returned (.tuple #[.int .i64 y, .bool b]) := by rw [h]

section
variable {base p : Nat} {S : Nat → Prop} {i k d f h : Int} {m : IM} {bv sv : Value}

/-- The bucket of a sum. -/
def bktN (D F : Int) (kd : Nat) (sum : Int) : Nat := (bucket sum (nb D F kd)).toNat
theorem bktN_eq {D F : Int} (hD : 1 ≤ D ∧ D ≤ 256) (hF : 1 ≤ F ∧ F ≤ 256) {kd : Nat} {sum : Int} (hs : IsU sum) : bucket sum (nb D F kd) = (bktN D F kd sum : Int) ∧ (bktN D F kd sum : Int) < nb D F kd := by
  have h := nb_bd hD hF kd
  unfold bktN bucket
  rw [if_neg (by omega)]
  have h1 := Int.emod_nonneg sum (b := nb D F kd) (by omega)
  have h2 := Int.emod_lt_of_pos sum (b := nb D F kd) (by omega)
  omega

end

end Go.Proofs.Ytjpfbkhjhainpaa

/-
  LAYER 13: what is followed in a bucket of a table is the rows of the bucket.
-/
set_option linter.unusedVariables false
set_option maxRecDepth 100000
set_option linter.unusedSimpArgs false
namespace Go.Proofs.Ytjpfbkhjhainpaa
open Go.RowKit

theorem chain_of_linked {key D F : Int} {m : IM} {kd : Nat} (hv : 256 + 8 * (D + F) = (newK D F : Nat)) : ∀ {L : List TRow} {last p : Int}, 0 ≤ last → (∀ r ∈ L, r.Fine ∧ r.k = kd ∧ newK D F ≤ r.at_ ∧ last < r.at_) →
    L.Pairwise (fun r r' => r.at_ + tlen r.k r.raw.length ≤ r'.at_) → linked key m.b p L →
    ∃ its : List It, chainAt m D F kd 1 last p its ∧ its.map (fun t => (t.j, t.rs)) = L.map (fun r => (r.at_, r.raw))
  | [], last, p, h0, _, _, hl => ⟨[], .inl (by rw [show p = 0 from hl]; omega), rfl⟩
  | r :: L, last, p, h0, hf, hp, ⟨e, z, hu, hh, hl⟩ => by
    have hr := hf r (by simp)
    rw [List.pairwise_cons] at hp
    have hfr := tlen_front hr.1
    obtain ⟨its, h1, h2⟩ := chain_of_linked hv (last := r.at_) (p := z) (by omega) (fun q hq => ⟨(hf q (by simp [hq])).1, (hf q (by simp [hq])).2.1, (hf q (by simp [hq])).2.2.1, by have := hp.1 q hq; omega⟩) hp.2 hl
    obtain ⟨s, d1, d2, d3, d4, d5, d6⟩ := HoldsB.dec hh hr.1.al (hr.1.rt key z) (tW_bd hu) (by simp)
    rw [hr.2.1] at d1 d2 d4 d5 d6
    refine ⟨⟨r.at_, tW key r z, r.raw, []⟩ :: its, ⟨by rw [e]; exact hr.2.2.2, e, ⟨s, ⟨by have := hr.2.2.1; show _ ≤ ((r.at_ : Nat) : Int); omega, d1, d2⟩, d4, d5, d6⟩, ?_⟩, ?_⟩
    · have : (tW key r z).getD 1 0 = z := rfl
      show chainAt m D F kd 1 r.at_ ((tW key r z).getD 1 0) its
      rw [this]; exact h1
    · simp [h2]

/-- The objects of a bucket. -/
theorem TB.chain {key D F : Int} {m : IM} {l : List TRow} (H : TB key D F m.b l) {kd i : Nat} (hk : kd = 1 ∨ kd = 2) (hi : (i : Int) < nb D F kd) :
    ∃ its : List It, chainAt m D F kd 1 0 (m.word (tb D kd + 8 * i : Nat)) its ∧ its.map (fun t => (t.j, t.rs)) = (chainL key D F kd i l).map (fun r => (r.at_, r.raw)) := by
  refine chain_of_linked (newK_val H.hD H.hF).symm (by omega) (fun r hr => ?_) (H.rise.filter _) (H.chains kd hk i hi)
  have hm := mem_chain hr
  have hf := H.fine r hm.1
  have := newK_val H.hD H.hF
  exact ⟨hf.1, hm.2.1, hf.2.1, by have := H.hD; have := H.hF; omega⟩

/-- What is found. -/
def findR (l : List TRow) (k : Nat) (raw : List Int) : Option Nat := (l.find? (fun r => decide (r.k = k) && decide (r.raw = raw))).map (·.at_)
def findI (its : List It) (raw : List Int) : Option Nat := (its.find? (fun t => decide (t.rs = raw))).map (·.j)

theorem find_pairs (raw : List Int) : ∀ (its : List It) (L : List TRow), its.map (fun t => (t.j, t.rs)) = L.map (fun r => (r.at_, r.raw)) → findI its raw = (L.find? (fun r => decide (r.raw = raw))).map (·.at_)
  | [], [], _ => rfl
  | [], r :: L, h => by simp at h
  | t :: its, [], h => by simp at h
  | t :: its, r :: L, h => by
    simp only [List.map_cons, List.cons.injEq, Prod.mk.injEq] at h
    obtain ⟨⟨h1, h2⟩, h3⟩ := h
    have ih := find_pairs raw its L h3
    unfold findI at ih ⊢
    rw [List.find?_cons, List.find?_cons, h2]
    by_cases h : r.raw = raw
    · rw [decide_eq_true h]; simp [h1]
    · rw [decide_eq_false h]; exact ih
theorem find_bucket {key D F : Int} {kd i : Nat} {raw : List Int} {l : List TRow} {its : List It} (hi : bucket (hsh key raw) (nb D F kd) = i) (h : its.map (fun t => (t.j, t.rs)) = (chainL key D F kd i l).map (fun r => (r.at_, r.raw))) : findI its raw = findR l kd raw := by
  rw [find_pairs raw its _ h, find_chain hi]; rfl

theorem findI_none {its : List It} {raw : List Int} (h : ∀ t ∈ its, t.rs ≠ raw) : findI its raw = none := by
  unfold findI
  rw [List.find?_eq_none.2 (fun t ht => by simpa using h t ht)]; rfl
theorem findI_some {pre rest : List It} {t : It} {raw : List Int} (h : ∀ u ∈ pre, u.rs ≠ raw) (ht : t.rs = raw) : findI (pre ++ t :: rest) raw = some t.j := by
  unfold findI
  rw [List.find?_append, List.find?_eq_none.2 (fun u hu => by simpa using h u hu), List.find?_cons, decide_eq_true ht]; rfl

end Go.Proofs.Ytjpfbkhjhainpaa

/-
  LAYER 13: what a range over a table's objects is handed and keeps: lemmas for those who range.
-/
set_option linter.unusedVariables false
set_option maxRecDepth 100000
set_option linter.unusedSimpArgs false
namespace Go.Proofs.Ytjpfbkhjhainpaa
open Go.RowKit Go.Shelf

theorem keepC_blk {n₀ : Nat} {T : Nat → Prop} {w W : World} {g : Nat} {t : TypeId} {cs : Array Value} (h : Blk w g t cs) (hk : KeepC n₀ T w W) (hg : g < n₀) (hT : ¬ T g) : Blk W g t cs :=
  (hk.block g h.lt (fun e => e.elim (fun e => by omega) hT)).trans h
theorem keepC_grown {n₀ B : Nat} {T : Nat → Prop} {w W W' : World} {row : Option Nat} (h : KeepC n₀ T w W) (hn : n₀ ≤ B) (hg : W.grownBy W' row) (hr : ∀ r, row = some r → B ≤ r) : KeepC n₀ T w W' :=
  ⟨hg.os.trans h.os, hg.tape.trans h.tape, hg.output.trans h.output, Nat.le_trans h.size hg.size, fun k hk hn' => (hg.block k (Nat.lt_of_lt_of_le hk h.size) (fun e => hn' (.inl (by have := hr k e.symm; omega)))).trans (h.block k hk hn')⟩
theorem keepC_mono {n₀ : Nat} {T T' : Nat → Prop} {w W : World} (h : KeepC n₀ T w W) (hT : ∀ k, T k → T' k) : KeepC n₀ T' w W := h.mono (fun k _ e => e.imp id (hT k))
theorem keepC_set {n₀ : Nat} {T : Nat → Prop} {w W : World} {p : Addr} (h : KeepC n₀ T w W) (hp : n₀ ≤ p.block ∨ T p.block) (u : Value) : KeepC n₀ T w (W.setCell p u) :=
  ⟨h.os, h.tape, h.output, by simp [World.setCell]; exact h.size, fun k hk hn => (Below.heap_setCell W p u k (fun e => hn (by rw [e]; exact hp))).trans (h.block k hk hn)⟩
theorem keepC_put {n₀ : Nat} {T : Nat → Prop} {w W : World} {l : Nat} (h : KeepC n₀ T w W) (hl : n₀ ≤ l) (o' : Obj) : KeepC n₀ T w (W.putObj l o') :=
  ⟨h.os, h.tape, h.output, by simp; exact h.size, fun k hk hn => (World.putObj_heap_other (fun e => hn (.inl (by omega)))).trans (h.block k hk hn)⟩

/-- What a round holds: something pure, and all but T as it was. -/
theorem own_keepC {β : Type} {n₀ B : Nat} {T : Nat → Prop} {w : World} (hn : n₀ ≤ B) (Q : β → Prop) : OwnFrom B (fun s W => Q s ∧ KeepC n₀ T w W) :=
  fun s W W' row hs hg hr => ⟨hs.1, keepC_grown hs.2 hn hg (fun r e => (hr r e).1)⟩
theorem own_blkOf {β : Type} {B g : Nat} {t : TypeId} (hg0 : g < B) (cs : β → Array Value) : OwnFrom B (fun s W => Blk W g t (cs s)) :=
  fun s W W' row hs hg hr => hs.grown hg (fun e => by have := (hr g e.symm).1; omega)
theorem own_pure {β : Type} {B : Nat} (Q : β → Prop) : OwnFrom B (fun s _ => Q s) := fun s W W' row hs _ _ => hs

theorem Blk.put_other {W : World} {g l : Nat} {t : TypeId} {cs : Array Value} {o o' : Obj} (h : Blk W g t cs) (hl : W.heap[l]? = some o) (ho : o.isCells = false) : Blk (W.putObj l o') g t cs := by
  refine (World.putObj_heap_other (fun e => ?_)).trans h
  subst e
  rw [show W.heap[g]? = some (.cells cs t (0, 0)) from h] at hl
  cases hl; cases ho

theorem TellsOb.put {its : List It} {pre : List Ob} {x : Ob} {W : World} {l : Nat} {o o' : Obj} (h : TellsOb its pre x W) (hl : W.heap[l]? = some o) (ho : o.isCells = false) : TellsOb its pre x (W.putObj l o') :=
  ⟨h.1, (ObR.put_other h.2 hl ho).upto (by simp)⟩
theorem TellsOb.alloc {its : List It} {pre : List Ob} {x : Ob} {W : World} (h : TellsOb its pre x W) (o : Obj) : TellsOb its pre x (W.alloc o) :=
  ⟨h.1, (ObR.below h.2 (boxed W o) (Nat.le_refl _)).upto (by simp)⟩

/-- Of all that is followed. -/
theorem chain_fine {m : IM} {D F : Int} {kd wd : Nat} (hb : AreB m.b) : ∀ {its : List It} {last pl : Int}, chainAt m D F kd wd last pl its → ∀ t ∈ its, AreB t.rs ∧ t.j + 16 ≤ m.b.length ∧ m.obAt D F kd t ∧ last < t.j
  | [], _, _, _, t, ht => by cases ht
  | u :: its, last, pl, ⟨h0, h1, h2, h3⟩, t, ht => by
    rcases List.mem_cons.1 ht with rfl | ht
    · have h2' := h2
      obtain ⟨s, hth, e1, e2, e3⟩ := h2
      exact ⟨by rw [← e2]; exact dR_bytes (objB_bytes hb _ _), hth.2.1.room, h2', by omega⟩
    · have := chain_fine hb h3 t ht
      exact ⟨this.1, this.2.1, this.2.2.1, by have := this.2.2.2; omega⟩
theorem TellsOb.mem {its : List It} {pre : List Ob} {x : Ob} {W : World} (h : TellsOb its pre x W) : x.t ∈ its := by
  obtain ⟨⟨rest, e⟩, -⟩ := h
  rw [← e]; simp

theorem keepC_to {n₀ N : Nat} {T : Nat → Prop} {w W : World} (h : KeepC n₀ T w W) (hN : N ≤ n₀) (hw : N ≤ w.heap.size) (hT : ∀ j, j < N → ¬ T j) : Below N w W :=
  ⟨h.os, h.tape, h.output, h.size, fun k hk => h.block k (by omega) (fun e => e.elim (fun e => by omega) (hT k hk))⟩
theorem findI_snoc {pre : List Ob} {x : Ob} {raw : List Int} {rest : List It} (h : ∀ y ∈ pre, y.t.rs ≠ raw) (hx : x.t.rs = raw) : findI ((pre ++ [x]).map (·.t) ++ rest) raw = some x.t.j := by
  rw [List.map_append, List.append_assoc]
  exact findI_some (t := x.t) (rest := rest) (fun u hu => by obtain ⟨y, hy, rfl⟩ := List.mem_map.1 hu; exact h y hy) hx
theorem findI_all {xs : List Ob} {raw : List Int} (h : ∀ y ∈ xs, y.t.rs ≠ raw) : findI (xs.map (·.t)) raw = none :=
  findI_none fun u hu => by obtain ⟨y, hy, rfl⟩ := List.mem_map.1 hu; exact h y hy

/-- Results that lie in variables of one cell each. -/
theorem results_cc {P : Program} {fn : Func} {p u : Tmp} {tp tu : TypeId} (h : fn.results = #[.cell p tp, .cell u tu]) (tmps : Array Value) (w : World) (g1 g2 : Nat) (v1 v2 : Value)
    (hp : tmps.getD p undef = .pointer (some ⟨g1, 0, none⟩)) (hu : tmps.getD u undef = .pointer (some ⟨g2, 0, none⟩))
    (h1 : (loadVar tp ⟨g1, 0, none⟩).run P w = .ok v1 w) (h2 : (loadVar tu ⟨g2, 0, none⟩).run P w = .ok v2 w) :
    (results fn tmps).run P w = .ok (.tuple #[v1, v2]) w := by
  have hp' : tmps[p]?.getD undef = .pointer (some ⟨g1, 0, none⟩) := by simpa using hp
  have hu' : tmps[u]?.getD undef = .pointer (some ⟨g2, 0, none⟩) := by simpa using hu
  simp [results, h, hp', hu', asAddr, h1, h2]
theorem results_ccc {P : Program} {fn : Func} {p u q : Tmp} {tp tu tq : TypeId} (h : fn.results = #[.cell p tp, .cell u tu, .cell q tq]) (tmps : Array Value) (w : World) (g1 g2 g3 : Nat) (v1 v2 v3 : Value)
    (hp : tmps.getD p undef = .pointer (some ⟨g1, 0, none⟩)) (hu : tmps.getD u undef = .pointer (some ⟨g2, 0, none⟩)) (hq : tmps.getD q undef = .pointer (some ⟨g3, 0, none⟩))
    (h1 : (loadVar tp ⟨g1, 0, none⟩).run P w = .ok v1 w) (h2 : (loadVar tu ⟨g2, 0, none⟩).run P w = .ok v2 w) (h3 : (loadVar tq ⟨g3, 0, none⟩).run P w = .ok v3 w) :
    (results fn tmps).run P w = .ok (.tuple #[v1, v2, v3]) w := by
  have hp' : tmps[p]?.getD undef = .pointer (some ⟨g1, 0, none⟩) := by simpa using hp
  have hu' : tmps[u]?.getD undef = .pointer (some ⟨g2, 0, none⟩) := by simpa using hu
  have hq' : tmps[q]?.getD undef = .pointer (some ⟨g3, 0, none⟩) := by simpa using hq
  simp [results, h, hp', hu', hq', asAddr, h1, h2, h3]

theorem load_int {w : World} {g : Nat} {x : Int} (h : w.cell? ⟨g, 0, none⟩ = some (.int .i64 x)) : (loadVar 3 ⟨g, 0, none⟩).run Try.prog w = .ok (.int .i64 x) w := by simp [go_sem, h]
theorem load_bool {w : World} {g : Nat} {x : Bool} (h : w.cell? ⟨g, 0, none⟩ = some (.bool x)) : (loadVar 4 ⟨g, 0, none⟩).run Try.prog w = .ok (.bool x) w := by simp [go_sem, h]
theorem tabWordInfo : (Try.prog.info? 47).map (fun i => (i.zero, i.size, i.bytes)) = some (some (.int .u64 0), 1, 8) := by kernel_rfl
theorem make_words (K : Nat) (hK : K ≤ 1000000) : ∃ Zc : Array Value, Zc.toList = cellsOf .u64 (List.replicate K 0) ∧ Zc.size = K ∧
    ∀ W : World, (Instr.makeSlice 29 (.int .i64 (K : Int)) (.int .i64 (K : Int))).run Try.prog W = .ok (.slice (some ⟨W.heap.size, 0, none⟩) K K) (W.alloc (.cells Zc 47)) := by
  obtain ⟨i0, hi, hz0, hz1, hz2⟩ := info_parts tabWordInfo
  have hZl : (madeCells (Value.int IntKind.u64 0).cells (K * 1)).toList = cellsOf .u64 (List.replicate K 0) := by
    rw [Nat.mul_one]
    show (madeCells #[Value.int IntKind.u64 0] K).toList = _
    rw [toList_madeCells_one]; simp [cellsOf]
  refine ⟨madeCells (Value.int IntKind.u64 0).cells (K * 1), hZl, ?_, fun W => ?_⟩
  · have h := congrArg List.length hZl
    rw [cellsOf_length, List.length_replicate, Array.length_toList] at h
    exact h
  · have h := run_make (P := Try.prog) W 29 47 i0 (.int .u64 0) Try.underlying29 hi hz0 .i64 .i64 (K : Int) (K : Int) (by omega) (Int.le_refl _) (by rw [hz2]; omega) (by omega)
    rw [Int.toNat_natCast, hz1] at h
    exact h
/-- A block of numbers that is known whole, as a slice of it reads. -/
theorem Blk.words {w : World} {g K : Nat} {Zc : Array Value} {zs : List Int} (h : Blk w g 47 Zc) (hl : Zc.toList = cellsOf .u64 zs) (hs : Zc.size = K) : Reads w w.heap.size 1 (some ⟨g, 0, none⟩) K (cellsOf .u64 zs) := by
  refine ⟨by rw [← hl, Array.length_toList, hs]; omega, fun _ => ⟨_, rfl, h.lt, fun j u hj => ?_⟩⟩
  have e : (⟨g, 0, none⟩ : Addr).add j = ⟨g, j, none⟩ := by unfold Addr.add; split <;> simp_all
  rw [e, h.cell]
  rw [← hl] at hj
  simpa using hj
theorem row_set (K : Nat) (hK : 2 ≤ K) (x : Int) : (cellsOf .u64 (List.replicate K 0)).set 0 (.int .u64 x) = cellsOf .u64 (x :: 0 :: List.replicate (K - 2) 0) := by
  obtain ⟨j, rfl⟩ : ∃ j, K = j + 2 := ⟨K - 2, by omega⟩
  simp [List.replicate_succ, cellsOf]
theorem two_blocks (W : World) (Za Zb : Array Value) (ta tb : TypeId) : Below W.heap.size W ((W.alloc (.cells Za ta)).alloc (.cells Zb tb)).drew ∧ Blk ((W.alloc (.cells Za ta)).alloc (.cells Zb tb)).drew W.heap.size ta Za ∧ Blk ((W.alloc (.cells Za ta)).alloc (.cells Zb tb)).drew (W.heap.size + 1) tb Zb := by
  have h := Blk.new (W.alloc (.cells Za ta)) tb Zb
  rw [World.size_alloc] at h
  exact ⟨(((Below.refl _ W).alloc (Nat.le_refl _) _).alloc (by simp) _).drew, ((Blk.new W ta Za).alloc _).drew, h.drew⟩

theorem add_obj {W : World} {gr K n c B : Nat} {A : Option Addr} {zs : List Int} {Zc : Array Value} {x : Int} (hz : Blk W gr 47 (Zc.setIfInBounds 0 (.int .u64 x))) (h1 : Zc.toList = cellsOf .u64 (List.replicate K 0)) (h2 : Zc.size = K) (hK : 2 ≤ K) (hK2 : K ≤ 5)
    (hr : Reads W B 1 A n (cellsOf .u8 zs)) (hB : B ≤ W.heap.size) (hl : n ≤ c) (hc : c ≤ 9223372036854775807) : ObR W W.heap.size (some ⟨gr, 0, none⟩) K K (x :: 0 :: List.replicate (K - 2) 0) A n c zs none 0 0 [] :=
  ⟨Blk.words hz (by rw [Array.toList_setIfInBounds, h1, row_set _ hK]) (by rw [Array.size_setIfInBounds, h2]), hr.upto hB, Reads.none_, ⟨Nat.le_refl _, by omega⟩, ⟨hl, hc⟩, ⟨Nat.le_refl _, by omega⟩⟩

theorem below_put1 {B l : Nat} {w W : World} (h : Below B w W) (hl : B ≤ l) (o' : Obj) : Below B w (W.putObj l o') :=
  h.trans ⟨rfl, rfl, rfl, by simp, fun k hk => World.putObj_heap_other (by omega)⟩

/-- The word that will lead on, as it is gone through. -/
def lkO (q : Nat) (pre : List Ob) : Nat := match pre.getLast? with
  | none => q
  | some x => x.t.j + 24
theorem lkO_eq {D : Int} {kd i : Nat} {xs : List Ob} {its : List It} {L : List TRow} (hx : xs.map (·.t) = its) (h : its.map (fun t => (t.j, t.rs)) = L.map (fun r => (r.at_, r.raw))) : lkO (tb D kd + 8 * i) xs = linkP D kd i L := by
  have e : (xs.map fun x => (x.t.j, x.t.rs)) = L.map (fun r => (r.at_, r.raw)) := by rw [← h, ← hx, List.map_map]; rfl
  have e2 := congrArg List.getLast? e
  rw [List.getLast?_map, List.getLast?_map] at e2
  unfold lkO linkP
  cases h1 : xs.getLast? with
  | none =>
    cases h2 : L.getLast? with
    | none => rfl
    | some r => rw [h1, h2] at e2; cases e2
  | some x =>
    cases h2 : L.getLast? with
    | none => rw [h1, h2] at e2; cases e2
    | some r =>
      rw [h1, h2] at e2
      simp only [Option.map_some, Option.some.injEq, Prod.mk.injEq] at e2
      show x.t.j + 24 = r.at_ + 24
      rw [e2.1]

theorem chg_set1 {T : Nat → Prop} {w W : World} {p : Addr} (h : Chg T w W) (hp : T p.block) (u : Value) : Chg T w (W.setCell p u) :=
  ⟨h.os, h.tape, h.output, by simp [World.setCell]; exact h.size, fun k hk hn => (Below.heap_setCell W p u k (fun e => hn (by rw [e]; exact hp))).trans (h.block k hk hn)⟩
theorem chg_put1 {T : Nat → Prop} {w W : World} {l : Nat} (h : Chg T w W) (hl : T l) (o' : Obj) : Chg T w (W.putObj l o') :=
  ⟨h.os, h.tape, h.output, by simp; exact h.size, fun k hk hn => (World.putObj_heap_other (fun e => hn (by rw [e]; exact hl))).trans (h.block k hk hn)⟩

theorem reads_keepC {n₀ : Nat} {T : Nat → Prop} {w W : World} {B size n : Nat} {A : Option Addr} {xs : List Value} (h : Reads w B size A n xs) (hk : KeepC n₀ T w W) (hB : B ≤ n₀) (hB2 : B ≤ w.heap.size) (hT : ∀ j, j < B → ¬ T j) : Reads W B size A n xs :=
  h.keep fun p hp => World.cell?_of_block (hk.block p.block (by omega) (fun e => e.elim (fun e => by omega) (hT _ hp)))

end Go.Proofs.Ytjpfbkhjhainpaa

/-
  WHAT Find OF PACKAGE table DOES, IN A FILE OF ANY OBJECTS: a contract over its bucket alone.
-/
set_option linter.unusedVariables false
set_option maxRecDepth 100000
set_option linter.unusedSimpArgs false
namespace Go.Proofs.Ytjpfbkhjhainpaa
open Go.RowKit Go.Shelf
attribute [local go_sem] Oper.semAt_some

/-- The word that will lead on. -/
def lkIG (q : Nat) (its : List It) : Nat := match its.getLast? with
  | none => q
  | some t => t.j + 24
theorem lkO_its {q : Nat} {xs : List Ob} {its : List It} (h : xs.map (·.t) = its) : lkO q xs = lkIG q its := by
  subst h
  unfold lkO lkIG
  rw [List.getLast?_map]
  cases xs.getLast? <;> rfl
/-- THE BUCKET THAT BYTES FALL INTO, IN A FILE OF ANY OBJECTS. -/
structure BkAt (kd : Nat) (k d f : Int) (m : IM) (zs : List Int) (its : List It) : Prop where
  hD : 1 ≤ d ∧ d ≤ 256
  hF : 1 ≤ f ∧ f ≤ 256
  al : m.b.length % 8 = 0
  most : m.b.length ≤ 1099511627776
  isU : IsU (m.word (tb d kd + 8 * bktN d f kd (hsh k zs) : Nat))
  ch : chainAt m d f kd 1 0 (m.word (tb d kd + 8 * bktN d f kd (hsh k zs) : Nat)) its
  link : lkIG (tb d kd + 8 * bktN d f kd (hsh k zs)) its + 8 ≤ m.b.length ∧ lkIG (tb d kd + 8 * bktN d f kd (hsh k zs)) its % 8 = 0 ∧ 192 ≤ lkIG (tb d kd + 8 * bktN d f kd (hsh k zs)) its ∧ gnum m.b (lkIG (tb d kd + 8 * bktN d f kd (hsh k zs)) its : Nat) 8 = 0

section
variable {base p : Nat} {S : Nat → Prop} {i k d f h : Int} {m : IM} {bv sv : Value}

end

end Go.Proofs.Ytjpfbkhjhainpaa

/-
  WHAT Add OF PACKAGE table DOES, IN A FILE OF ANY OBJECTS: a contract over its bucket alone.
-/
set_option linter.unusedVariables false
set_option maxRecDepth 100000
set_option linter.unusedSimpArgs false
namespace Go.Proofs.Ytjpfbkhjhainpaa
open Go.RowKit Go.Shelf
attribute [local go_sem] Oper.semAt_some

/-- The plain way on, alone. -/
def OnNormal (R : Act → World → Prop) : Exit → Act → World → Prop
  | .normal, a, w => R a w
  | .ret, _, _ => False
  | .exit _, _, _ => False
  | .goto _, _, _ => False
  | .panic _, _, _ => False
  | .outgrown, _, _ => False

section
variable {base p : Nat} {S : Nat → Prop} {i k d f h : Int} {m : IM} {bv sv : Value}

end

end Go.Proofs.Ytjpfbkhjhainpaa
