import Derived.Test.YtgcmbgniaffdlaaGreatTaBase
import Derived.RangeFuncFrom
import Derived.RangeFuncNested
import Derived.RangeFuncBound
import Derived.RangeFuncCalls
import Derived.RangeFuncLeaves
import Derived.Shelf.Abstract
import Derived.Shelf.RegionOpen
import Derived.OwnWalkIn
import Derived.TacticsInMore
import Derived.LoopNIn
import Derived.LoopIn
set_option linter.unusedVariables false
namespace Go.Proofs.YtgcmbgniaffdlaaGreat
open Go.RowKit
structure LoopLies (B : Nat) (r : Loop) (W : World) : Prop where
 rec_ : W.heap[B + 1]? = some (.loop r)
 def_ : W.heap[B]? = some (.deferred (some []))
theorem LoopLies.grown {B : Nat} {r : Loop} {W W' : World} {row : Option Nat} (h : LoopLies B r W) (hg : W.grownBy W' row) (hr : ∀ k, row = some k -> ∃ o : Obj, W.heap[k]? = some o /\ o.isWalk = true) : LoopLies B r W' :=
 ⟨(grownBy_keeps hg hr h.rec_ rfl).trans h.rec_, (grownBy_keeps hg hr h.def_ rfl).trans h.def_⟩
theorem LoopLies.put {B : Nat} {r : Loop} {W : World} (h : LoopLies B r W) (r' : Loop) : LoopLies B r' (W.putObj (B + 1) (.loop r')) :=
 ⟨World.putObj_heap_same (Array.getElem?_eq_some_iff.1 h.rec_).1, (World.putObj_heap_other (by omega)).trans h.def_⟩
theorem LoopLies.others {B : Nat} {r : Loop} {W W' : World} (h : LoopLies B r W) (hk : KeepsOthers W W') : LoopLies B r W' := ⟨hk.same _ _ h.rec_ rfl, hk.same _ _ h.def_ rfl⟩
def SeqTells {α : Type} (F : Fence) (n : Nat) (P : Program) (g : Nat) (lb : Array Value) (encs : α -> Array Value) (Px : List α -> α -> World -> Prop) (Kp : World -> World -> Prop) (S Sp : List α -> Prop) (N : Nat) (w : World) : Prop :=
 ∀ (l : Nat) (J Jx : List α -> World -> Prop) (W : World), Below w.heap.size w W -> AbidesFrom W.heap.size J -> AbidesFrom W.heap.size Jx ->
   (∀ pre x W1, J pre W1 -> pre.length < N -> Px pre x W1 -> YieldAt F (n - 1) P l (encs x) W1 fun e W' =>
     (e = .returned (.bool true) /\ J (pre ++ [x]) W' /\ Kp W1 W') ∨ (e = .returned (.bool false) /\ Jx (pre ++ [x]) W')) ->
   J [] W ->
   CallsIn F n P g (#[.func (.yield l) #[] #[]] ++ lb) W fun e W' => (∃ v, e = .returned v) /\ ((∃ xs, S xs /\ J xs W') ∨ (∃ pre, Sp pre /\ Jx pre W'))
section
variable {F : Fence} {n : Nat} {P : Program}
theorem wp_range_tells {α : Type} {g : Operand} {ps : Array Tmp} {assign body : Code} {Q : Exit -> Act -> World -> Prop} {a : Act} {w : World}
 (hro : F.round = none) (h1 : 1 <= n) {gf : Nat} {lb : Array Value} (hg : a.eval g = .func (.func gf) #[] lb) (hFg : F.fn gf) (eg : ∀ args w, (callFunc gf args).run P w = .ok (.enter gf args) w)
 {encs : α -> Array Value} {Px : List α -> α -> World -> Prop} {Kp : World -> World -> Prop} {S Sp : List α -> Prop} {N : Nat} {w0 : World} (hseq : SeqTells F (n - 1) P gf lb encs Px Kp S Sp N w0)
 (hKt : ∀ {A B C : World}, Kp A B -> Kp B C -> Kp A C) (hKb : ∀ (W : World) (l : Nat) (o o' : Obj), w.heap.size <= l -> W.heap[l]? = some o -> o.isCells = false -> o.isWalk = false -> Kp W (W.putObj l o'))
 (hPx : ∀ (pre : List α) (x : α) (W : World) (l : Nat) (o o' : Obj), w.heap.size <= l -> W.heap[l]? = some o -> o.isCells = false -> Px pre x W -> Px pre x (W.putObj l o'))
 (hb0 : Below w0.heap.size w0 w) (hps : ∀ x, (encs x).size = ps.size)
 (I : List α -> World -> Prop) (Ix : Code -> List α -> World -> Prop) (hI : OwnFrom w.heap.size I) (hIx : ∀ c, OwnFrom w.heap.size (Ix c)) (h0 : I [] w) (a₁ : α -> Act)
 (hassign : ∀ (l : Nat) (x : α) (W : World) (K : Act -> World -> Prop), K (a₁ x) W ->
 assign.wpIn (F.inRound l) (n - 1 - 1) P (Exit.then K (fun _ _ _ => False)) { tmps := (ps.zip (encs x)).foldl (fun t (p, v) => t.setIfInBounds p v) a.tmps, defers := [] } W)
   (hbody : ∀ (l : Nat) (pre : List α) (x : α) (W : World), I pre W -> pre.length < N -> Px pre x W -> body.wpIn (F.inRound l) (n - 1 - 1) P (ownPostK Kp I Ix (pre ++ [x]) W) (a₁ x) W)
   (hdone : ∀ (D : Nat) (xs : List α) (W : World), w.heap.size <= D -> S xs -> I xs W -> W.heap[D]? = some (.deferred (some [])) -> Q .normal { a with defers := { target := .collected D, args := #[] } :: a.defers } W)
   (hstop : ∀ (D : Nat) (c : Code) (pre : List α) (W : World), w.heap.size <= D -> Sp pre -> Ix c pre W -> W.heap[D]? = some (.deferred (some [])) -> c.wpIn F n P Q { a with defers := { target := .collected D, args := #[] } :: a.defers } W) :
   (Code.rangeFunc g ps assign body).wpIn F n P Q a w := by
 refine wpIn_rangeFunc fun fn hfn => ?_
 rw [hro]
 obtain ⟨B, hB⟩ : ∃ B, w.heap.size = B := ⟨_, rfl⟩
 obtain ⟨rec, hrec⟩ : ∃ rec : LoopState -> Option Code -> Loop, rec = fun st pe => { state := st, pending := pe, fn, tmps := a.tmps, params := ps, assign, body, defers := w.heap.size } := ⟨_, rfl⟩
 obtain ⟨W1, hW1⟩ : ∃ W1, (w.alloc (.deferred (some []))).alloc (.loop (rec .ready none)) = W1 := ⟨_, rfl⟩
 have hs1 : B <= W1.heap.size := by rw [<- hW1, <- hB]; simp; omega
 have hlies : LoopLies B (rec .ready none) W1 := by
   subst hB
   refine ⟨?_, ?_⟩
   · rw [<- hW1]; have h := World.alloc_heap_new (w.alloc (.deferred (some []))) (.loop (rec .ready none)); rwa [World.size_alloc] at h
   · rw [<- hW1]; exact (Below.heap_alloc _ _ _ (by simp)).trans (World.alloc_heap_new w _)
 have hI1 : I [] W1 := by rw [<- hW1]; exact hI.alloc _ (hI.alloc _ h0)
 have hb1 : Below w0.heap.size w0 W1 := by
   rw [<- hW1]; exact hb0.trans ((((Below.refl _ w).alloc (Nat.le_refl _) _).alloc (by simp) _).mono hb0.size)
 have cells : ∀ {A C : World} {row : Option Nat}, (∀ r, row = some r -> W1.heap.size <= r /\ ∃ o : Obj, A.heap[r]? = some o /\ o.isWalk = true) -> ∀ r, row = some r -> w.heap.size <= r /\ ∃ o : Obj, A.heap[r]? = some o /\ o.isCells = false := fun hr r e => by
   obtain ⟨h2, o, ho, hw⟩ := hr r e
   exact ⟨by omega, o, ho, Obj.not_cells_of_walk hw⟩
 rw [hB] at hI hIx hKb hPx hdone hstop
 refine ⟨w.heap.size + 1, [{ target := .collected w.heap.size, args := #[] }], W1, { target := .fn (.func gf) lb, args := #[.func (.yield (w.heap.size + 1)) #[] #[]] }, W1, gf,
   #[.func (.yield (w.heap.size + 1)) #[] #[]] ++ lb, W1, ?_, ?_, ?_, ?_, fun _ => h1, ?_⟩
 · rw [<- hW1, hrec]; exact run_enterLoop_outer _ _ _ _ _
 · simp only [resolve, hg]
   simp [go_sem]
 · intro f' hf'; simp [Target.leads] at hf'; subst hf'; exact hFg
 · simp [invoke, go_sem, eg]
 rw [hB]
 refine (hseq (B + 1) (fun pre W => I pre W /\ LoopLies B (rec .ready none) W) (fun pre W => ∃ c, Ix c pre W /\ LoopLies B (rec .done (some c)) W) W1 hb1
   (fun s A C row hs hg' hr => ⟨hI s A C row hs.1 hg' (by have := cells (C := C) hr; rwa [hB] at this), hs.2.grown hg' (fun r e => (hr r e).2)⟩)
   (fun s A C row hs hg' hr => by
     obtain ⟨c, hc, hl⟩ := hs
     exact ⟨c, hIx c s A C row hc hg' (by have := cells (C := C) hr; rwa [hB] at this), hl.grown hg' (fun r e => (hr r e).2)⟩)
   ?_ ⟨hI1, hlies⟩).mono ?_
 · rintro pre x W ⟨hi, hl⟩ hlen hpx
   have hy := run_yield (P := P) (args := encs x) hl.rec_ (by rw [hrec]; exact hps x)
   have hbusy := hl.put { rec .ready none with state := .busy }
   have hkw := hKb W (B + 1) _ (.loop { rec .ready none with state := .busy }) (by omega) hl.rec_ rfl rfl
   have hpx2 := hPx pre x W (B + 1) _ (.loop { rec .ready none with state := .busy }) (by omega) hl.rec_ rfl hpx
   have hi2 := hI.putObj (.loop { rec .ready none with state := .busy }) hi (by omega) hl.rec_ rfl
   have hbg := run_beginRound (P := P) hl.rec_ (by rw [hrec])
   rw [hrec] at hy
   refine ⟨fn, _, assign, body, hy, roundIn_of_wpIn hfn (hassign _ x W _ ⟨_, hbg, wpIn_mono (hbody _ pre x _ hi2 hlen hpx2) ?_⟩)⟩
   have fin : ∀ (jump : Option Code) (W3 : World), KeepsOthers (W.putObj (B + 1) (.loop { rec .ready none with state := .busy })) W3 ->
       (Instr.endRound (B + 1) jump).run P W3 = .ok (.bool jump.isNone) (W3.putObj (B + 1) (.loop (rec (if jump.isNone then .ready else .done) jump))) /\
       W3.heap[B + 1]? = some (.loop { rec .ready none with state := .busy }) /\ LoopLies B (rec (if jump.isNone then .ready else .done) jump) (W3.putObj (B + 1) (.loop (rec (if jump.isNone then .ready else .done) jump))) := fun jump W3 hk3 => by
     have hl3 := hbusy.others hk3
     have he := run_endRound (P := P) jump hl3.rec_
     exact ⟨by rw [hrec] at he ⊢; exact he, hl3.rec_, hl3.put _⟩
   rintro e a3 W3 hp
   cases e with
   | normal =>
     obtain ⟨hk3, hkp3, hi3⟩ := hp
     obtain ⟨hr, hl3, hl4⟩ := fin none W3 hk3
     exact ⟨_, _, hr, .inl ⟨rfl, ⟨hI.putObj _ hi3 (by omega) hl3 rfl, hl4⟩, hKt (hKt hkw hkp3) (hKb _ _ _ _ (by omega) hl3 rfl rfl)⟩⟩
   | ret =>
     obtain ⟨hr, hl3, hl4⟩ := fin (some .ret) W3 hp.1
     exact ⟨_, _, hr, .inr ⟨rfl, .ret, (hIx _).putObj _ hp.2 (by omega) hl3 rfl, hl4⟩⟩
   | exit id =>
     obtain ⟨hr, hl3, hl4⟩ := fin (some (.exit id)) W3 hp.1
     exact ⟨_, _, hr, .inr ⟨rfl, .exit id, (hIx _).putObj _ hp.2 (by omega) hl3 rfl, hl4⟩⟩
   | goto t =>
     obtain ⟨hr, hl3, hl4⟩ := fin (some (.goto t)) W3 hp.1
     exact ⟨_, _, hr, .inr ⟨rfl, .goto t, (hIx _).putObj _ hp.2 (by omega) hl3 rfl, hl4⟩⟩
   | panic ch => exact hp.elim
   | outgrown => exact hp.elim
 · rintro e W2 ⟨⟨v, rfl⟩, (⟨xs, hS, hi, hl⟩ | ⟨pre, hSp, c, hi, hl⟩)⟩
   · have he := run_endLoop (P := P) hl.rec_ (by rw [hrec]; simp)
     rw [hrec] at he
     exact ⟨none, _, he, hdone B xs _ (Nat.le_refl _) hS (hI.putObj _ hi (by omega) hl.rec_ rfl) ((World.putObj_heap_other (by omega)).trans hl.def_)⟩
   · have he := run_endLoop (P := P) hl.rec_ (by rw [hrec]; simp)
     rw [hrec] at he
     exact ⟨some c, _, he, hstop B c pre _ (Nat.le_refl _) hSp ((hIx c).putObj _ hi (by omega) hl.rec_ rfl) ((World.putObj_heap_other (by omega)).trans hl.def_)⟩
theorem wp_range_tellsH {α : Type} {g : Operand} {ps : Array Tmp} {assign body : Code} {Q : Exit -> Act -> World -> Prop} {a : Act} {w : World}
 (hro : F.round = none) (h1 : 1 <= n) {gf : Nat} {lb : Array Value} (hg : a.eval g = .func (.func gf) #[] lb) (hFg : F.fn gf) (eg : ∀ args w, (callFunc gf args).run P w = .ok (.enter gf args) w)
 {encs : α -> Array Value} {Px : List α -> α -> World -> Prop} {Kp : World -> World -> Prop} {S Sp : List α -> Prop} {N : Nat} {w0 : World} (hseq : SeqTells F (n - 1) P gf lb encs Px Kp S Sp N w0)
 (hKt : ∀ {A B C : World}, Kp A B -> Kp B C -> Kp A C) (hKb : ∀ (W : World) (l : Nat) (o o' : Obj), w.heap.size <= l -> W.heap[l]? = some o -> o.isCells = false -> o.isWalk = false -> Kp W (W.putObj l o'))
 (hPx : ∀ (pre : List α) (x : α) (W : World) (l : Nat) (o o' : Obj), w.heap.size <= l -> W.heap[l]? = some o -> o.isCells = false -> Px pre x W -> Px pre x (W.putObj l o'))
 (hb0 : Below w0.heap.size w0 w) (hps : ∀ x, (encs x).size = ps.size)
 (I : List α -> World -> Prop) (Ix : Code -> List α -> World -> Prop) (hI : OwnFrom w.heap.size I) (hIx : ∀ c, OwnFrom w.heap.size (Ix c)) (h0 : I [] w)
 (Ax : α -> Act -> World -> Prop) (hAx : ∀ (x : α) (a' : Act) (W : World) (l : Nat) (o o' : Obj), w.heap.size <= l -> W.heap[l]? = some o -> o.isCells = false -> Ax x a' W -> Ax x a' (W.putObj l o'))
 (hassign : ∀ (l : Nat) (pre : List α) (x : α) (W : World) (K : Act -> World -> Prop), I pre W -> Px pre x W -> (∀ (a' : Act) (W' : World), KeepsOthers W W' -> Kp W W' -> I pre W' -> Px pre x W' -> Ax x a' W' -> K a' W') ->
 assign.wpIn (F.inRound l) (n - 1 - 1) P (Exit.then K (fun _ _ _ => False)) { tmps := (ps.zip (encs x)).foldl (fun t (p, v) => t.setIfInBounds p v) a.tmps, defers := [] } W)
   (hbody : ∀ (l : Nat) (pre : List α) (x : α) (W : World), I pre W -> pre.length < N -> Px pre x W -> ∀ a', Ax x a' W -> body.wpIn (F.inRound l) (n - 1 - 1) P (ownPostK Kp I Ix (pre ++ [x]) W) a' W)
   (hdone : ∀ (D : Nat) (xs : List α) (W : World), w.heap.size <= D -> S xs -> I xs W -> W.heap[D]? = some (.deferred (some [])) -> Q .normal { a with defers := { target := .collected D, args := #[] } :: a.defers } W)
   (hstop : ∀ (D : Nat) (c : Code) (pre : List α) (W : World), w.heap.size <= D -> Sp pre -> Ix c pre W -> W.heap[D]? = some (.deferred (some [])) -> c.wpIn F n P Q { a with defers := { target := .collected D, args := #[] } :: a.defers } W) :
   (Code.rangeFunc g ps assign body).wpIn F n P Q a w := by
 refine wpIn_rangeFunc fun fn hfn => ?_
 rw [hro]
 obtain ⟨B, hB⟩ : ∃ B, w.heap.size = B := ⟨_, rfl⟩
 obtain ⟨rec, hrec⟩ : ∃ rec : LoopState -> Option Code -> Loop, rec = fun st pe => { state := st, pending := pe, fn, tmps := a.tmps, params := ps, assign, body, defers := w.heap.size } := ⟨_, rfl⟩
 obtain ⟨W1, hW1⟩ : ∃ W1, (w.alloc (.deferred (some []))).alloc (.loop (rec .ready none)) = W1 := ⟨_, rfl⟩
 have hs1 : B <= W1.heap.size := by rw [<- hW1, <- hB]; simp; omega
 have hlies : LoopLies B (rec .ready none) W1 := by
   subst hB
   refine ⟨?_, ?_⟩
   · rw [<- hW1]; have h := World.alloc_heap_new (w.alloc (.deferred (some []))) (.loop (rec .ready none)); rwa [World.size_alloc] at h
   · rw [<- hW1]; exact (Below.heap_alloc _ _ _ (by simp)).trans (World.alloc_heap_new w _)
 have hI1 : I [] W1 := by rw [<- hW1]; exact hI.alloc _ (hI.alloc _ h0)
 have hb1 : Below w0.heap.size w0 W1 := by
   rw [<- hW1]; exact hb0.trans ((((Below.refl _ w).alloc (Nat.le_refl _) _).alloc (by simp) _).mono hb0.size)
 have cells : ∀ {A C : World} {row : Option Nat}, (∀ r, row = some r -> W1.heap.size <= r /\ ∃ o : Obj, A.heap[r]? = some o /\ o.isWalk = true) -> ∀ r, row = some r -> w.heap.size <= r /\ ∃ o : Obj, A.heap[r]? = some o /\ o.isCells = false := fun hr r e => by
   obtain ⟨h2, o, ho, hw⟩ := hr r e
   exact ⟨by omega, o, ho, Obj.not_cells_of_walk hw⟩
 rw [hB] at hI hIx hKb hPx hAx hdone hstop
 refine ⟨w.heap.size + 1, [{ target := .collected w.heap.size, args := #[] }], W1, { target := .fn (.func gf) lb, args := #[.func (.yield (w.heap.size + 1)) #[] #[]] }, W1, gf,
   #[.func (.yield (w.heap.size + 1)) #[] #[]] ++ lb, W1, ?_, ?_, ?_, ?_, fun _ => h1, ?_⟩
 · rw [<- hW1, hrec]; exact run_enterLoop_outer _ _ _ _ _
 · simp only [resolve, hg]
   simp [go_sem]
 · intro f' hf'; simp [Target.leads] at hf'; subst hf'; exact hFg
 · simp [invoke, go_sem, eg]
 rw [hB]
 refine (hseq (B + 1) (fun pre W => I pre W /\ LoopLies B (rec .ready none) W) (fun pre W => ∃ c, Ix c pre W /\ LoopLies B (rec .done (some c)) W) W1 hb1
   (fun s A C row hs hg' hr => ⟨hI s A C row hs.1 hg' (by have := cells (C := C) hr; rwa [hB] at this), hs.2.grown hg' (fun r e => (hr r e).2)⟩)
   (fun s A C row hs hg' hr => by
     obtain ⟨c, hc, hl⟩ := hs
     exact ⟨c, hIx c s A C row hc hg' (by have := cells (C := C) hr; rwa [hB] at this), hl.grown hg' (fun r e => (hr r e).2)⟩)
   ?_ ⟨hI1, hlies⟩).mono ?_
 · rintro pre x W ⟨hi, hl⟩ hlen hpx
   have hy := run_yield (P := P) (args := encs x) hl.rec_ (by rw [hrec]; exact hps x)
   rw [hrec] at hy
   refine ⟨fn, _, assign, body, hy, roundIn_of_wpIn hfn (hassign _ pre x W _ hi hpx fun a' W2 hko hkpa hi2' hpx2' hax => ?_)⟩
   have hl' := hl.others hko
   have hbusy := hl'.put { rec .ready none with state := .busy }
   have hkw := hKb W2 (B + 1) _ (.loop { rec .ready none with state := .busy }) (by omega) hl'.rec_ rfl rfl
   have hpx2 := hPx pre x W2 (B + 1) _ (.loop { rec .ready none with state := .busy }) (by omega) hl'.rec_ rfl hpx2'
   have hax2 := hAx x a' W2 (B + 1) _ (.loop { rec .ready none with state := .busy }) (by omega) hl'.rec_ rfl hax
   have hi2 := hI.putObj (.loop { rec .ready none with state := .busy }) hi2' (by omega) hl'.rec_ rfl
   have hbg := run_beginRound (P := P) hl'.rec_ (by rw [hrec])
   refine ⟨_, hbg, wpIn_mono (hbody _ pre x _ hi2 hlen hpx2 a' hax2) ?_⟩
   have fin : ∀ (jump : Option Code) (W3 : World), KeepsOthers (W2.putObj (B + 1) (.loop { rec .ready none with state := .busy })) W3 ->
       (Instr.endRound (B + 1) jump).run P W3 = .ok (.bool jump.isNone) (W3.putObj (B + 1) (.loop (rec (if jump.isNone then .ready else .done) jump))) /\
       W3.heap[B + 1]? = some (.loop { rec .ready none with state := .busy }) /\ LoopLies B (rec (if jump.isNone then .ready else .done) jump) (W3.putObj (B + 1) (.loop (rec (if jump.isNone then .ready else .done) jump))) := fun jump W3 hk3 => by
     have hl3 := hbusy.others hk3
     have he := run_endRound (P := P) jump hl3.rec_
     exact ⟨by rw [hrec] at he ⊢; exact he, hl3.rec_, hl3.put _⟩
   rintro e a3 W3 hp
   cases e with
   | normal =>
     obtain ⟨hk3, hkp3, hi3⟩ := hp
     obtain ⟨hr, hl3, hl4⟩ := fin none W3 hk3
     exact ⟨_, _, hr, .inl ⟨rfl, ⟨hI.putObj _ hi3 (by omega) hl3 rfl, hl4⟩, hKt (hKt (hKt hkpa hkw) hkp3) (hKb _ _ _ _ (by omega) hl3 rfl rfl)⟩⟩
   | ret =>
     obtain ⟨hr, hl3, hl4⟩ := fin (some .ret) W3 hp.1
     exact ⟨_, _, hr, .inr ⟨rfl, .ret, (hIx _).putObj _ hp.2 (by omega) hl3 rfl, hl4⟩⟩
   | exit id =>
     obtain ⟨hr, hl3, hl4⟩ := fin (some (.exit id)) W3 hp.1
     exact ⟨_, _, hr, .inr ⟨rfl, .exit id, (hIx _).putObj _ hp.2 (by omega) hl3 rfl, hl4⟩⟩
   | goto t =>
     obtain ⟨hr, hl3, hl4⟩ := fin (some (.goto t)) W3 hp.1
     exact ⟨_, _, hr, .inr ⟨rfl, .goto t, (hIx _).putObj _ hp.2 (by omega) hl3 rfl, hl4⟩⟩
   | panic ch => exact hp.elim
   | outgrown => exact hp.elim
 · rintro e W2 ⟨⟨v, rfl⟩, (⟨xs, hS, hi, hl⟩ | ⟨pre, hSp, c, hi, hl⟩)⟩
   · have he := run_endLoop (P := P) hl.rec_ (by rw [hrec]; simp)
     rw [hrec] at he
     exact ⟨none, _, he, hdone B xs _ (Nat.le_refl _) hS (hI.putObj _ hi (by omega) hl.rec_ rfl) ((World.putObj_heap_other (by omega)).trans hl.def_)⟩
   · have he := run_endLoop (P := P) hl.rec_ (by rw [hrec]; simp)
     rw [hrec] at he
     exact ⟨some c, _, he, hstop B c pre _ (Nat.le_refl _) hSp ((hIx c).putObj _ hi (by omega) hl.rec_ rfl) ((World.putObj_heap_other (by omega)).trans hl.def_)⟩
end
theorem Reads.put_other {W : World} {B size n l : Nat} {A : Option Addr} {xs : List Value} {o o' : Obj} (h : Reads W B size A n xs) (hl : W.heap[l]? = some o) (ho : o.isCells = false) : Reads (W.putObj l o') B size A n xs := by
 refine ⟨h.1, fun hn => ?_⟩
 obtain ⟨ad, e, hb, hc⟩ := h.2 hn
 exact ⟨ad, e, hb, fun j u hu => cell_kept (hc j u hu) (grownBy_putObj' W l o') (fun r e => by cases e; exact ⟨_, hl, ho⟩)⟩
theorem ObR.put_other {W : World} {L l : Nat} {A : Option Addr} {n c : Nat} {ws : List Int} {B : Option Addr} {m d : Nat} {rs : List Int} {C : Option Addr} {p q : Nat} {is : List Int} {o o' : Obj} (h : ObR W L A n c ws B m d rs C p q is) (hl : W.heap[l]? = some o) (ho : o.isCells = false) : ObR (W.putObj l o') L A n c ws B m d rs C p q is :=
 ⟨h.wr.put_other hl ho, h.rr.put_other hl ho, h.ir.put_other hl ho, h.wc, h.rc, h.ic⟩
end Go.Proofs.YtgcmbgniaffdlaaGreat
set_option maxRecDepth 100000
set_option linter.unusedSimpArgs false
namespace Go.Proofs.YtgcmbgniaffdlaaGreat
open Go.RowKit
structure HoldsB (b : List Int) (j : Nat) (x : List Int) : Prop where
 fit : j + x.length <= b.length
 eq : (b.drop j).take x.length = x
theorem HoldsB.add {b x : List Int} {j : Nat} (h : HoldsB b j x) (y : List Int) : HoldsB (b ++ y) j x := by
 have h1 := h.fit
 refine ⟨by rw [List.length_append]; omega, ?_⟩
 rw [List.drop_append_of_le_length (by omega), List.take_append_of_le_length (by rw [List.length_drop]; omega)]
 exact h.eq
theorem HoldsB.new (b x : List Int) : HoldsB (b ++ x) b.length x := by
 refine ⟨by rw [List.length_append]; omega, ?_⟩
 rw [List.drop_append_of_le_length (Nat.le_refl _), List.drop_length, List.nil_append, List.take_length]
theorem HoldsB.byte {b x : List Int} {j i : Nat} (h : HoldsB b j x) (hi : i < x.length) : nz b (j + i) = nz x i := by
 have e := h.eq
 have h2 : nz ((b.drop j).take x.length) i = nz x i := by rw [e]
 rw [nz_take, if_pos hi, nz_drop] at h2
 exact h2
theorem HoldsB.of_nz {b x : List Int} {j : Nat} (hf : j + x.length <= b.length) (h : ∀ i, i < x.length -> nz b (j + i) = nz x i) : HoldsB b j x := by
 refine ⟨hf, ext_nz (by rw [List.length_take, List.length_drop]; omega) fun i hi => ?_⟩
 rw [List.length_take, List.length_drop] at hi
 rw [nz_take, if_pos (by omega), nz_drop]
 exact h i (by omega)
theorem HoldsB.far {b x y : List Int} {j k : Nat} (h : HoldsB b j x) (hk : k + y.length <= b.length) (ho : k + y.length <= j ∨ j + x.length <= k) : HoldsB (splice b k y) j x := by
 have h1 := h.fit
 refine .of_nz (by rw [splice_len _ _ _ hk]; exact h1) fun i hi => ?_
 rw [nz_splice _ _ _ _ (by omega), if_neg (by omega)]
 exact h.byte hi
theorem HoldsB.within {b x y : List Int} {j o : Nat} (h : HoldsB b j x) (ho : o + y.length <= x.length) : HoldsB (splice b (j + o) y) j (splice x o y) := by
 have h1 := h.fit
 have hl : (splice x o y).length = x.length := splice_len _ _ _ ho
 refine .of_nz (by rw [hl, splice_len _ _ _ (by omega)]; exact h1) fun i hi => ?_
 rw [hl] at hi
 rw [nz_splice _ _ _ _ (by omega), nz_splice _ _ _ _ (by omega)]
 by_cases hc : o <= i /\ i < o + y.length
 · rw [if_pos (by omega), if_pos hc]; congr 1; omega
 · rw [if_neg (by omega), if_neg hc]; exact h.byte hi
theorem splice_left (a x y : List Int) (k : Nat) : splice (a ++ x) (a.length + k) y = a ++ splice x k y := by
 unfold splice
 rw [List.take_append, List.take_of_length_le (by omega), List.drop_append, List.drop_eq_nil_of_le (by omega), Nat.add_sub_cancel_left, List.nil_append, Nat.add_assoc, Nat.add_sub_cancel_left]
 simp only [List.append_assoc]
theorem wordsB_cons (z : Int) (l : List Int) : wordsB (z :: l) = bts z 8 ++ wordsB l := by simp [wordsB]
theorem wordsB_at : ∀ (l r : List Int) (i : Nat), i < l.length -> ((wordsB l ++ r).drop (8 * i)).take 8 = bts (l.getD i 0) 8
 | [], _, i, h => by simp at h
 | z :: l, r, 0, _ => by
   rw [wordsB_cons, List.append_assoc, Nat.mul_zero, List.drop_zero, List.take_left' (bts8_length z)]; rfl
 | z :: l, r, i + 1, h => by
   have e : 8 * (i + 1) = 8 + 8 * i := by omega
   rw [wordsB_cons, List.append_assoc, e, <- List.drop_drop, List.drop_left' (bts8_length z), wordsB_at l r i (by simpa using h)]; rfl
theorem wordsB_set : ∀ (l r : List Int) (i : Nat) (n : Int), i < l.length -> splice (wordsB l ++ r) (8 * i) (bts n 8) = wordsB (l.set i n) ++ r
 | [], _, i, _, h => by simp at h
 | z :: l, r, 0, n, _ => by
   have l8 := bts8_length z
   rw [List.set_cons_zero, wordsB_cons, wordsB_cons]
   unfold splice
   rw [Nat.mul_zero, List.take_zero, List.nil_append, bts8_length n, Nat.zero_add, List.append_assoc, List.drop_left' l8, List.append_assoc]
 | z :: l, r, i + 1, n, h => by
   have l8 := bts8_length z
   have e : 8 * (i + 1) = (bts z 8).length + 8 * i := by rw [l8]; omega
   rw [List.set_cons_succ, wordsB_cons, wordsB_cons, e, List.append_assoc, splice_left, wordsB_set l r i n (by simpa using h), List.append_assoc]
theorem encO_words {k : Int} {ws rs is : List Int} : ∃ r, ∀ us : List Int, us.length = ws.length -> encO k us rs is = wordsB (k :: ((bareN k rs.length is.length : Nat) : Int) :: us) ++ r := by
 refine ⟨rs ++ wordsB is ++ List.replicate (padn (headO k ws rs is).length 8) 0, fun us hu => ?_⟩
 have hl : (headO k us rs is).length = (headO k ws rs is).length := by rw [headO_length, headO_length, hu]
 have e : headO k us rs is = wordsB (k :: ((bareN k rs.length is.length : Nat) : Int) :: us) ++ (rs ++ wordsB is) := by
   unfold headO
   rw [wordsB_two, wordsB_cons k, wordsB_cons _ us]
   simp only [List.append_assoc]
 unfold encO
 rw [hl, e]
 simp only [List.append_assoc]
theorem HoldsB.word {b : List Int} {j i : Nat} {k : Int} {ws rs is : List Int} (h : HoldsB b j (encO k ws rs is)) (hi : i < ws.length) (hw : ∀ z ∈ ws, 0 <= z /\ z < 18446744073709551616) : gnum b (j + (16 + 8 * i) : Nat) 8 = ws.getD i 0 := by
 obtain ⟨r, hr⟩ := encO_words (k := k) (ws := ws) (rs := rs) (is := is)
 have e := hr ws rfl
 have hlen : 16 + 8 * ws.length <= (encO k ws rs is).length := by rw [e, List.length_append, wordsB_length]; simp; omega
 have hf := h.fit
 have hd : ((b.drop (j + (16 + 8 * i))).take 8) = bts (ws.getD i 0) 8 := by
   have h1 := wordsB_at (k :: ((bareN k rs.length is.length : Nat) : Int) :: ws) r (i + 2) (by simp; omega)
   rw [<- e, show 8 * (i + 2) = 16 + 8 * i by omega] at h1
   have h2 : (((b.drop j).take (encO k ws rs is).length).drop (16 + 8 * i)).take 8 = bts (ws.getD i 0) 8 := by
     rw [h.eq, h1]; simp
   rw [List.drop_take, List.take_take, Nat.min_eq_left (by omega), List.drop_drop] at h2
   exact h2
 have hb : 0 <= ws.getD i 0 /\ ws.getD i 0 < 18446744073709551616 := by
   rw [List.getD_eq_getElem?_getD, List.getElem?_eq_getElem hi]; exact hw _ (List.getElem_mem hi)
 have hok : gok b.length ((j + (16 + 8 * i) : Nat) : Int) 8 = true := by simp [gok]; omega
 unfold gnum
 rw [hok]
 show lev ((b.drop ((j + (16 + 8 * i) : Nat) : Int).toNat).take 8) = _
 obtain ⟨z, hz⟩ : ∃ z : Nat, ws.getD i 0 = z := ⟨(ws.getD i 0).toNat, by omega⟩
 rw [Int.toNat_natCast, hd, hz, lev_bts (by omega)]
theorem HoldsB.set {b : List Int} {j i : Nat} {k n : Int} {ws rs is : List Int} (h : HoldsB b j (encO k ws rs is)) (hi : i < ws.length) : HoldsB (splice b (j + (16 + 8 * i)) (bts n 8)) j (encO k (ws.set i n) rs is) := by
 obtain ⟨r, hr⟩ := encO_words (k := k) (ws := ws) (rs := rs) (is := is)
 have e := hr ws rfl
 have e2 := hr (ws.set i n) (by simp)
 have hlen : 16 + 8 * ws.length <= (encO k ws rs is).length := by rw [e, List.length_append, wordsB_length]; simp; omega
 have h1 := h.within (y := bts n 8) (o := 16 + 8 * i) (by rw [bts8_length]; omega)
 have h2 := wordsB_set (k :: ((bareN k rs.length is.length : Nat) : Int) :: ws) r (i + 2) n (by simp; omega)
 rw [<- e, show 8 * (i + 2) = 16 + 8 * i by omega, List.set_cons_succ, List.set_cons_succ, <- e2] at h2
 rw [h2] at h1
 exact h1
theorem dec_same {zs ys : List Int} {j k s : Nat} (hl : zs.length = ys.length) (hd : zs.drop j = ys.drop j) (h : DecAt zs j k s) : DecAt ys j k s /\ decB ys j k s = decB zs j k s /\ objB ys j s = objB zs j s := by
 have e : ∀ i, ys.drop (j + i) = zs.drop (j + i) := fun i => by rw [<- List.drop_drop, <- List.drop_drop, hd]
 refine ⟨⟨h.al, by rw [<- hl]; exact h.room, by rw [<- hd]; exact h.kd, by rw [e 8]; exact h.sd, h.kk, by rw [<- hl]; exact h.fit⟩, ?_, ?_⟩
 · unfold decB; rw [e s, hl]
 · unfold objB; rw [hd]
theorem HoldsB.dec {b : List Int} {j k : Nat} {ws rs is : List Int} (h : HoldsB b j (encO k ws rs is)) (hj : j % 8 = 0) (hr : rightN k ws.length rs.length is.length = true) (hw : ∀ z ∈ ws, 0 <= z /\ z < 18446744073709551616) (hi : ∀ z ∈ is, 0 <= z /\ z < 18446744073709551616) :
 ∃ s, DecAt b j k s /\ decB b j k s = true /\ s + padn s 8 = (encO k ws rs is).length /\ dW (objB b j s) k = ws /\ dR (objB b j s) k = rs /\ dI (objB b j s) k = is := by
 have hf := h.fit
 have hd : b.drop j = encO k ws rs is ++ b.drop (j + (encO k ws rs is).length) := by
   have h1 := List.take_append_drop (encO k ws rs is).length (b.drop j)
   rw [h.eq, List.drop_drop] at h1
   exact h1.symm
 obtain ⟨s, h1, h2, h3, h4, h5, h6⟩ := dec_back hj hr hw hi _ (rfl : List.replicate j 0 ++ encO k ws rs is ++ b.drop (j + (encO k ws rs is).length) = _)
 have hl : (List.replicate j 0 ++ encO k ws rs is ++ b.drop (j + (encO k ws rs is).length)).length = b.length := by
   rw [List.length_append, List.length_append, List.length_replicate, List.length_drop]; omega
 obtain ⟨g1, g2, g3⟩ := dec_same hl (by rw [List.append_assoc, List.drop_left' (List.length_replicate ..), <- hd]) h1
 exact ⟨s, g1, by rw [g2]; exact h2, h3, by rw [g3]; exact h4, by rw [g3]; exact h5, by rw [g3]; exact h6⟩
structure TRow where
 k : Nat
 raw : List Int
 at_ : Nat
def tlen (k n : Nat) : Nat := (frontN k + n + 7) / 8 * 8
def tW (key : Int) (r : TRow) (z : Int) : List Int := hsh key r.raw :: z :: List.replicate (kwN r.k - 2) 0
def tO (key : Int) (r : TRow) (z : Int) : List Int := encO r.k (tW key r z) r.raw []
def nb (D F : Int) (k : Nat) : Int := if k = 1 then D else F
def tb (D : Int) (k : Nat) : Nat := if k = 1 then 256 else 256 + 8 * D.toNat
structure TRow.Fine (r : TRow) : Prop where
 kind : r.k = 1 ∨ r.k = 2
 right : rightN r.k (kwN r.k) r.raw.length 0 = true
 bytes : AreB r.raw
 al : r.at_ % 8 = 0
theorem TRow.Fine.kw {r : TRow} (h : r.Fine) : 2 <= kwN r.k /\ kwN r.k <= 5 := by
 rcases h.kind with e | e <;> rw [e] <;> decide
theorem tW_length {key z : Int} {r : TRow} (h : r.Fine) : (tW key r z).length = kwN r.k := by
 have := h.kw
 unfold tW; simp; omega
theorem TRow.Fine.rt {r : TRow} (h : r.Fine) (key z : Int) : rightN r.k (tW key r z).length r.raw.length ([] : List Int).length = true := by rw [tW_length h]; exact h.right
theorem hsh_isU (key : Int) (zs : List Int) : IsU (hsh key zs) := by unfold hsh; exact stir_isU _ _
theorem tW_bd {key z : Int} {r : TRow} (hz : IsU z) : ∀ x ∈ tW key r z, 0 <= x /\ x < 18446744073709551616 := by
 intro x hx
 unfold tW at hx
 rcases List.mem_cons.1 hx with e | hx
 · rw [e]; exact hsh_isU _ _
 · rcases List.mem_cons.1 hx with e | hx
   · rw [e]; exact hz
   · rw [(List.mem_replicate.1 hx).2]; omega
theorem tO_length {key z : Int} {r : TRow} (h : r.Fine) : (tO key r z).length = tlen r.k r.raw.length := by
 unfold tO
 rw [encO_length (h.rt key z)]
 unfold bareN tlen padn
 simp only [List.length_nil]
 rw [if_neg (by omega)]
 split <;> omega
def linked (key : Int) (b : List Int) : Int -> List TRow -> Prop
 | p, [] => p = 0
 | p, r :: L => p = r.at_ /\ ∃ z, IsU z /\ HoldsB b r.at_ (tO key r z) /\ linked key b z L
theorem gnum_far {b y : List Int} {j k : Nat} (hk : k + y.length <= b.length) (hj : j + 8 <= b.length) (ho : k + y.length <= j ∨ j + 8 <= k) : gnum (splice b k y) (j : Nat) 8 = gnum b (j : Nat) 8 := by
 unfold gnum
 rw [splice_len _ _ _ hk]
 have e : ((splice b k y).drop ((j : Nat) : Int).toNat).take (8 : Int).toNat = (b.drop ((j : Nat) : Int).toNat).take (8 : Int).toNat := by
   rw [Int.toNat_natCast]
   refine ext_nz (by simp [splice_len _ _ _ hk]) fun i hi => ?_
   rw [nz_take, nz_take, nz_drop, nz_drop, nz_splice _ _ _ _ (by omega)]
   have h8 : (8 : Int).toNat = 8 := rfl
   rw [h8]
   by_cases h : i < 8
   · rw [if_pos h, if_pos h, if_neg (by omega)]
   · rw [if_neg h, if_neg h]
 rw [e]
theorem gnum_add {b y : List Int} {j : Nat} (hj : j + 8 <= b.length) : gnum (b ++ y) (j : Nat) 8 = gnum b (j : Nat) 8 := by
 unfold gnum
 have g1 : gok (b ++ y).length (j : Nat) 8 = true := by simp [gok]; omega
 have g2 : gok b.length (j : Nat) 8 = true := by simp [gok]; omega
 rw [g1, g2, if_pos rfl, if_pos rfl, Int.toNat_natCast, List.drop_append_of_le_length (by omega), List.take_append_of_le_length (by rw [List.length_drop]; have h8 : (8 : Int).toNat = 8 := rfl; rw [h8]; omega)]
theorem gnum_here {b : List Int} {j n : Nat} (hj : j + 8 <= b.length) (hn : n < 18446744073709551616) : gnum (splice b j (bts n 8)) (j : Nat) 8 = n := by
 have hl : (bts (n : Int) 8).length = 8 := bts8_length _
 unfold gnum
 have g1 : gok (splice b j (bts (n : Int) 8)).length (j : Nat) 8 = true := by rw [splice_len _ _ _ (by omega)]; simp [gok]; omega
 have h8 : (8 : Int).toNat = 8 := rfl
 rw [g1, if_pos rfl, Int.toNat_natCast, h8]
 have e : ((splice b j (bts (n : Int) 8)).drop j).take 8 = bts (n : Int) 8 := by
   refine ext_nz (by rw [List.length_take, List.length_drop, splice_len _ _ _ (by omega), hl]; omega) fun i hi => ?_
   rw [List.length_take] at hi
   rw [nz_take, nz_drop, if_pos (by omega), nz_splice _ _ _ _ (by omega), if_pos (by omega)]
   congr 1; omega
 rw [e, lev_bts hn]
theorem newK_val {D F : Int} (hD : 1 <= D /\ D <= 256) (hF : 1 <= F /\ F <= 256) : ((newK D F : Nat) : Int) = 256 + 8 * (D + F) := by unfold newK; omega
theorem nb_bd {D F : Int} (hD : 1 <= D /\ D <= 256) (hF : 1 <= F /\ F <= 256) (k : Nat) : 1 <= nb D F k /\ nb D F k <= 256 := by unfold nb; split <;> assumption
theorem tb_low {D F : Int} (hD : 1 <= D /\ D <= 256) (hF : 1 <= F /\ F <= 256) {k i : Nat} (hi : (i : Int) < nb D F k) : tb D k + 8 * i + 8 <= newK D F /\ 256 <= tb D k /\ tb D k % 8 = 0 := by
 have := newK_val hD hF
 unfold nb at hi
 unfold tb
 split at hi
 · rename_i h; rw [if_pos h]; omega
 · rename_i h; rw [if_neg h]; omega
theorem tb_apart {D F : Int} (hD : 1 <= D /\ D <= 256) {k i k' i' : Nat} (hk : k = 1 ∨ k = 2) (hk' : k' = 1 ∨ k' = 2) (hi : (i : Int) < nb D F k) (hi' : (i' : Int) < nb D F k') (hne : k ≠ k' ∨ i ≠ i') :
 tb D k + 8 * i + 8 <= tb D k' + 8 * i' ∨ tb D k' + 8 * i' + 8 <= tb D k + 8 * i := by
 unfold nb at hi hi'
 unfold tb
 rcases hk with rfl | rfl <;> rcases hk' with rfl | rfl <;> simp at hi hi' hne ⊢ <;> omega
open Go.RowKit Go.Shelf
attribute [local go_sem] Oper.semAt_some
structure It where
 j : Nat
 ws : List Int
 rs : List Int
 is : List Int
def IM.obAt (m : IM) (D F : Int) (kd : Nat) (t : It) : Prop := ∃ s, m.there D F t.j kd s /\ dW (objB m.b t.j s) kd = t.ws /\ dR (objB m.b t.j s) kd = t.rs /\ dI (objB m.b t.j s) kd = t.is
def IM.noAt (m : IM) (D F : Int) (kd : Nat) (pl : Int) : Prop := m.bare D F pl ∨ ∃ j kk s : Nat, pl = (j : Nat) /\ m.there D F j kk s /\ (kk : Int) ≠ kd
def chainAt (m : IM) (D F : Int) (kd wd : Nat) : Int -> Int -> List It -> Prop
 | last, pl, [] => ¬ last < pl ∨ m.noAt D F kd pl
 | last, pl, t :: l => last < pl /\ pl = t.j /\ m.obAt D F kd t /\ chainAt m D F kd wd t.j (t.ws.getD wd 0) l
structure Ob where
 t : It
 A : Option Addr
 n : Nat
 c : Nat
 B : Option Addr
 m : Nat
 d : Nat
 C : Option Addr
 p : Nat
 q : Nat
def Ob.v (kd : Nat) (x : Ob) : Value := obV kd x.A x.n x.c x.B x.m x.d x.C x.p x.q
def Ob.encs (kd : Nat) (x : Ob) : Array Value := #[.int .i64 x.t.j, x.v kd]
def Ob.lies (x : Ob) (W : World) : Prop := ObR W W.heap.size x.A x.n x.c x.t.ws x.B x.m x.d x.t.rs x.C x.p x.q x.t.is
def TellsOb (its : List It) (pre : List Ob) (x : Ob) (W : World) : Prop := (∃ rest, pre.map (·.t) ++ x.t :: rest = its) /\ x.lies W
abbrev KeepC (n₀ : Nat) (T : Nat -> Prop) (W W' : World) : Prop := Chg (fun k => n₀ <= k ∨ T k) W W'
theorem keepC_t {n₀ : Nat} {T : Nat -> Prop} {A B C : World} (h : KeepC n₀ T A B) (k : KeepC n₀ T B C) : KeepC n₀ T A C := h.trans k (fun _ _ h => h)
theorem keepC_b {n₀ : Nat} {T : Nat -> Prop} {w : World} (hn : n₀ <= w.heap.size) (W : World) (l : Nat) (o o' : Obj) (hl : w.heap.size <= l) (h : W.heap[l]? = some o) (_ : o.isCells = false) (_ : o.isWalk = false) : KeepC n₀ T W (W.putObj l o') :=
 ⟨rfl, rfl, rfl, by simp, fun k _ hk => World.putObj_heap_other (fun e => hk (.inl (by omega)))⟩
theorem keepC_below {n₀ : Nat} {T : Nat -> Prop} {A B : World} (h : Below A.heap.size A B) : KeepC n₀ T A B := Chg.of_below h (Nat.le_refl _) _
theorem abides_below {β : Type} {N : Nat} {J : β -> World -> Prop} (hJ : AbidesFrom N J) {s : β} {W W' : World} (h : J s W) (hb : Below W.heap.size W W') : J s W' :=
 hJ s W W' none h ⟨hb.os, hb.tape, hb.output, hb.size, fun k hk _ => hb.block k hk⟩ (fun r e => by cases e)
theorem Reads.upto {W : World} {B B' size n : Nat} {A : Option Addr} {xs : List Value} (h : Reads W B size A n xs) (hB : B <= B') : Reads W B' size A n xs :=
 ⟨h.1, fun hn => by obtain ⟨ad, e, hb, hc⟩ := h.2 hn; exact ⟨ad, e, by omega, hc⟩⟩
theorem ObR.upto {W : World} {L L' : Nat} {A : Option Addr} {n c : Nat} {ws : List Int} {B : Option Addr} {m d : Nat} {rs : List Int} {C : Option Addr} {p q : Nat} {is : List Int} (h : ObR W L A n c ws B m d rs C p q is) (hL : L <= L') : ObR W L' A n c ws B m d rs C p q is :=
 ⟨h.wr.upto hL, h.rr.upto hL, h.ir.upto hL, h.wc, h.rc, h.ic⟩
section
variable {base p : Nat} {S : Nat -> Prop} {i k d f h : Int} {m : IM} {bv sv : Value}
set_option maxHeartbeats 4000000 in
theorem follow_tells (n : Nat) (hn : 1 <= n) (n₀ : Nat) (T : Nat -> Prop) (bw bk bp bm : Nat) (kd wd : Nat) (pl : Int) (its : List It) (w : World) (H : IX w base S p i k d f h m bv sv) (hbm : AreB m.b) (hl : m.b.length <= 1099511627776)
 (hd : 1 <= d /\ d <= 256) (hf : 1 <= f /\ f <= 256) (hS : ∀ j, S j -> j < n₀ /\ ¬ T j) (hbs : bw < n₀ /\ bk < n₀ /\ bp < n₀ /\ bm < n₀ /\ n₀ <= w.heap.size) (hT : ¬ T bw /\ ¬ T bk /\ ¬ T bp /\ ¬ T bm)
 (hcw : w.cell? ⟨bw, 0, none⟩ = some (.int .i64 wd)) (hck : w.cell? ⟨bk, 0, none⟩ = some (.int .i64 kd)) (hcp : w.cell? ⟨bp, 0, none⟩ = some (.int .u64 pl)) (hcm : w.cell? ⟨bm, 0, none⟩ = some (.pointer (some ⟨p, 0, none⟩)))
 (hwd : wd < kwN kd) (hp : IsU pl) (hch : chainAt m d f kd wd 0 pl its) :
 SeqTells Fence.wide n Tryz.prog 195 #[.pointer (some ⟨bw, 0, none⟩), .pointer (some ⟨bk, 0, none⟩), .pointer (some ⟨bp, 0, none⟩), .pointer (some ⟨bm, 0, none⟩)] (Ob.encs kd) (TellsOb its) (KeepC n₀ T)
 (fun xs => xs.map (·.t) = its) (fun pre => ∃ rest, pre.map (·.t) ++ rest = its) its.length w := by
 intro l J Jx W hb hJ hJx hY h0
 have hbw : Chg (fun k => n₀ <= k ∨ T k) w W := Chg.of_below hb (Nat.le_refl _) _
 have HW := H.keep hbw (fun j hj e => by have := hS j hj; exact e.elim (fun h => by omega) this.2)
 refine callsIn_of_wp Tryz.func195 rfl trivial ?_ rfl
 simp only [Tryz.ntmps195, List.size_toArray, List.length_cons, List.length_nil, Nat.reduceAdd, Nat.reduceSub, Array.replicate_succ, Array.replicate_zero, List.push_toArray, List.append_toArray, List.nil_append, List.cons_append]
 have c1 := (hb.cell (p := ⟨bw, 0, none⟩) (by simp; omega)).trans hcw
 have c2 := (hb.cell (p := ⟨bk, 0, none⟩) (by simp; omega)).trans hck
 have c3 := (hb.cell (p := ⟨bp, 0, none⟩) (by simp; omega)).trans hcp
 have hw0 : ¬ (wd : Int) < 0 := by omega
 have hw1 : ¬ (kwN kd : Int) <= (wd : Int) := by omega
 gi_wp2
 refine wpIn_wide.2 ?_
 have hw3 : decide ((wd : Int) < 0) = false := decide_eq_false (by omega)
 go_quiet ((refine (owords_any kd _).mono ?_; rintro e w1 ⟨rfl, rfl⟩; exact ⟨rfl, _, rfl⟩))
 gi_wp2
 refine wpIn_wide.2 ?_
 go_quiet (fail)
 gi_wp2
 have hw4 : decide (kwN (kd : Int) <= wd) = false := decide_eq_false (by omega)
 try simp only [hw4]
 gi_loopw [6, 7] (fun s6 s7 wr => ∃ (pre : List Ob) (rest : List It) (last next : Int), s6 = .int .u64 last /\ s7 = .int .u64 next /\ pre.map (·.t) ++ rest = its /\ (0 <= last /\ last <= m.b.length) /\ IsU next /\ chainAt m d f kd wd last next rest /\ J pre wr /\ KeepC n₀ T w wr)
   (fun s6 _ _ => m.b.length + 1 - (intOf s6).toNat)
 case atStart =>
   exact ⟨[], its, 0, pl, rfl, rfl, rfl, ⟨by omega, by omega⟩, hp, hch, abides_below hJ h0 (below_drewn (below_drewn (Below.refl _ _) _) _), hbw.trans (keepC_below (below_drewn (below_drewn (Below.refl _ _) _) _)) (fun _ _ h => h)⟩
 case round =>
   obtain ⟨pre, rest, last, next, rfl, rfl, hpre, hlast, hnext, hc, hJs, hkw⟩ := hrel
   have HR := H.keep hkw (fun j hj e => by have := hS j hj; exact e.elim (fun h => by omega) this.2)
   have hcell : ∀ b v, b < n₀ -> ¬ T b -> w.cell? ⟨b, 0, none⟩ = some v -> wr.cell? ⟨b, 0, none⟩ = some v := fun b v h1 h2 h3 => (World.cell?_of_block (a := ⟨b, 0, none⟩) (hkw.block b (by omega) (fun e => e.elim (fun h => by omega) h2))).trans h3
   have cw := hcell bw _ hbs.1 hT.1 hcw
   have ck := hcell bk _ hbs.2.1 hT.2.1 hck
   have cm := hcell bm _ hbs.2.2.2.1 hT.2.2.2 hcm
   by_cases hlt : last < next
   · cases rest with
     | nil =>
       have hno : m.noAt d f kd next := hc.resolve_left (fun h => h hlt)
       have AT : Hid (Calls Tryz.prog 109 #[.pointer (some ⟨p, 0, none⟩), .int .u64 next, .int .i64 kd] wr fun e w' => e = .returned (.tuple #[obZ, .bool false]) /\ Below wr.heap.size wr w') := by
         rcases hno with hno | ⟨j, kk, s, rfl, hth, hne⟩
         · exact Lib.hid (iat_bare next kd wr HR hbm hl hd hf hnext.1 hno)
         · exact Lib.hid (iat_other j kk s kd wr HR hbm hl hd hf hth hne)
       gi_wp2_with (refine ⟨trivial, ?_⟩; gi_at_call 109; refine (callsIn_wide.2 AT.out).mono ?_; rintro e w2 ⟨rfl, hb2⟩)
       refine bodyPost_ret (results_none rfl _ _ _) rfl ?_
       exact ⟨⟨_, rfl⟩, .inl ⟨pre, by rw [<- hpre]; simp, abides_below hJ hJs (hb2.trans ((boxed _ _).mono hb2.size))⟩⟩
     | cons t rest =>
       obtain ⟨-, rfl, hob, hc2⟩ := hc
       obtain ⟨s, hth, e1, e2, e3⟩ := hob
       have AT := Lib.hid (iat_yes t.j kd s wr HR hbm hl hd hf hth)
       gi_wp2_with (refine ⟨trivial, ?_⟩; gi_at_call 109; refine (callsIn_wide.2 AT.out).mono ?_; rintro e w2 ⟨A1, n1, c1', A2, n2, c2', A3, n3, c3', rfl, hb2, hown⟩; have hz := Blk.new w2 128 #[.int .i64 kd, .slice A1 n1 c1', .slice A2 n2 c2', .slice A3 n3 c3']; have z0 := hz.cell 0; have z1 := hz.cell 1; have z2 := hz.cell 2; have z3 := hz.cell 3)
       rw [e1, e2, e3] at hown
       have hrd := hown.reads
       have hn1 : n1 = t.ws.length := hrd.wr.len.symm
       have hn2 : t.ws.length = kwN kd := by rw [<- e1]; exact dW_length _ _
       obtain ⟨gb, off, rfl, hgb, hgc⟩ := hrd.wr.at2 (by omega) (by omega)
       have hg1 := hgc wd _ (cellsOf_get (by omega))
       have hB3 : Below w2.heap.size w2 (w2.alloc (.cells #[.int .i64 kd, .slice (some ⟨gb, off, none⟩) n1 c1', .slice A2 n2 c2', .slice A3 n3 c3'] 128)) := boxed _ _
       have hg2 := (hB3.cell (p := ⟨gb, off + wd, none⟩) hgb).trans hg1
       have cw2 := ((hb2.trans (hB3.mono hb2.size)).cell (p := ⟨bw, 0, none⟩) (by have := hkw.size; show bw < _; omega)).trans cw
       have hwn : wd < n1 := by omega
       obtain ⟨u, hu⟩ : ∃ u, t.ws.getD wd 0 = u := ⟨_, rfl⟩
       rw [hu] at hg1 hg2 hc2
       have HN := Lib.hid (And.intro hn1 hn2)
       clear hn1 hn2
       refine wpIn_wide.2 ?_
       have cwA := (hb2.cell (p := ⟨bw, 0, none⟩) (by have := hkw.size; show bw < _; omega)).trans cw
       go_quiet (fail)
       have hB4 : Below wr.heap.size wr ((w2.alloc (.cells #[.int .i64 kd, .slice (some ⟨gb, off, none⟩) n1 c1', .slice A2 n2 c2', .slice A3 n3 c3'] 128)).drewN nq) := (hb2.trans (hB3.mono hb2.size)).trans ((below_drewn (Below.refl _ _) nq).mono (hb2.trans (hB3.mono hb2.size)).size)
       have hJ4 := abides_below hJ hJs hB4
       have hkw4 := keepC_t hkw (keepC_below (n₀ := n₀) (T := T) hB4)
       have hlies : (⟨t, some ⟨gb, off, none⟩, n1, c1', A2, n2, c2', A3, n3, c3'⟩ : Ob).lies ((w2.alloc (.cells #[.int .i64 kd, .slice (some ⟨gb, off, none⟩) n1 c1', .slice A2 n2 c2', .slice A3 n3 c3'] 128)).drewN nq) := (hrd.below (hB3.trans ((below_drewn (Below.refl _ _) nq).mono hB3.size)) (Nat.le_refl _)).upto (by simp)
       obtain ⟨fn, tmps, assign, body, hy, hR⟩ := hY pre ⟨t, some ⟨gb, off, none⟩, n1, c1', A2, n2, c2', A3, n3, c3'⟩ _ hJ4 (by rw [<- hpre]; simp) ⟨⟨rest, hpre⟩, hlies⟩
       dsimp only [Ob.encs, Ob.v, obV] at hy
       have hroom := hth.2.1.room
       have ht2 := wrap_i64_of (x := t.j) (by omega) (by omega)
       have hUu : IsU u := by
         have := dW_bd (objB_bytes hbm t.j s) kd
         rw [e1] at this
         have hm : u ∈ t.ws := by rw [<- hu, List.getD_eq_getElem?_getD, List.getElem?_eq_getElem (by have := HN.out; omega)]; exact List.getElem_mem _
         exact this u hm
       gi_wp2
       refine hR.mono ?_
       rintro e W3 (⟨rfl, hJ3, hk3⟩ | ⟨rfl, hJx3⟩)
       · gi_wp2
         go_roundw
         case rel => exact ⟨pre ++ [⟨t, some ⟨gb, off, none⟩, n1, c1', A2, n2, c2', A3, n3, c3'⟩], rest, t.j, u, rfl, rfl, by rw [<- hpre]; simp, ⟨by omega, by omega⟩, hUu, hc2, hJ3, keepC_t hkw4 hk3⟩
         case measure => simp [intOf]; omega
       · gi_wp2
         refine bodyPost_ret (results_none rfl _ _ _) rfl ?_
         have hsp : ∃ r, (pre ++ [(⟨t, some ⟨gb, off, none⟩, n1, c1', A2, n2, c2', A3, n3, c3'⟩ : Ob)]).map (·.t) ++ r = its := ⟨rest, by rw [<- hpre]; simp⟩
         exact ⟨⟨_, rfl⟩, .inr ⟨_, hsp, hJx3⟩⟩
   · have hnil : rest = [] := by
       cases rest with
       | nil => rfl
       | cons t rest => exact absurd hc.1 hlt
     subst hnil
     gi_wp2
     go_end0
     exact ⟨⟨_, rfl⟩, .inl ⟨pre, by rw [<- hpre]; simp, hJs⟩⟩
end
structure FlAt (w : World) (g p : Nat) (pl : Int) (kd wd : Nat) : Prop where
 lo : g + 4 <= w.heap.size
 cm : w.cell? ⟨g, 0, none⟩ = some (.pointer (some ⟨p, 0, none⟩))
 cp : w.cell? ⟨g + 1, 0, none⟩ = some (.int .u64 pl)
 ck : w.cell? ⟨g + 2, 0, none⟩ = some (.int .i64 kd)
 cw : w.cell? ⟨g + 3, 0, none⟩ = some (.int .i64 wd)
abbrev flV (g : Nat) : Value := .func (.func 195) #[] #[.pointer (some ⟨g + 3, 0, none⟩), .pointer (some ⟨g + 2, 0, none⟩), .pointer (some ⟨g + 1, 0, none⟩), .pointer (some ⟨g, 0, none⟩)]
theorem cell_kept1 {w : World} {o : Obj} {a : Addr} {v : Value} (h : w.cell? a = some v) : (w.alloc o).cell? a = some v := (World.cell?_alloc_lt w o a (by obtain ⟨o', h', -⟩ := cells_of_cell h; exact (Array.getElem?_eq_some_iff.1 h').1)).trans h
theorem tfollow_any (p : Nat) (pl : Int) (kd wd : Nat) (w : World) :
 Calls Tryz.prog 172 #[.pointer (some ⟨p, 0, none⟩), .int .u64 pl, .int .i64 kd, .int .i64 wd] w fun e w' => e = .returned (flV w.heap.size) /\ Below w.heap.size w w' /\ FlAt w' w.heap.size p pl kd wd := by
 go_enter Tryz.func172, Tryz.ntmps172
 go_wp2
 go_ret
 have c0 := (Blk.new w 33 #[.pointer (some ⟨p, 0, none⟩)]).cell 0
 have c1 := (Blk.new (w.alloc (.cells #[.pointer (some ⟨p, 0, none⟩)] 33)) 27 #[.int .u64 pl]).cell 0
 have c2 := (Blk.new ((w.alloc (.cells #[.pointer (some ⟨p, 0, none⟩)] 33)).alloc (.cells #[.int .u64 pl] 27)) 3 #[.int .i64 kd]).cell 0
 have c3 := (Blk.new (((w.alloc (.cells #[.pointer (some ⟨p, 0, none⟩)] 33)).alloc (.cells #[.int .u64 pl] 27)).alloc (.cells #[.int .i64 kd] 3)) 3 #[.int .i64 wd]).cell 0
 have b1 := boxed w (.cells #[.pointer (some ⟨p, 0, none⟩)] 33)
 have b2 := b1.alloc b1.size (.cells #[.int .u64 pl] 27)
 have b3 := b2.alloc b2.size (.cells #[.int .i64 kd] 3)
 have b4 := b3.alloc b3.size (.cells #[.int .i64 wd] 3)
 simp only [World.size_alloc] at c1 c2 c3
 exact ⟨rfl, b4, ⟨by simp, cell_kept1 (cell_kept1 (cell_kept1 c0)), cell_kept1 (cell_kept1 c1), cell_kept1 c2, c3⟩⟩
theorem ret_ib {x y : Int} {b : Bool} (h : x = y) : Ending.returned (.tuple #[.int .i64 x, .bool b]) = .returned (.tuple #[.int .i64 y, .bool b]) := by rw [h]
section
variable {base p : Nat} {S : Nat -> Prop} {i k d f h : Int} {m : IM} {bv sv : Value}
theorem tsum_any {B : Nat} (A : Option Addr) (n c : Nat) (zs : List Int) (w : World) (H : IX w base S p i k d f h m bv sv) (hk : IsU k) (hr : Reads w B 1 A n (cellsOf .u8 zs)) (hB : B <= w.heap.size) (hz : AreB zs) (hl : n <= c) (hcap : c <= 9223372036854775807) (hn : n <= 140737488355328) :
 Calls Tryz.prog 125 #[.pointer (some ⟨p, 0, none⟩), .slice A n c] w fun e w' => e = .returned (.int .u64 (hsh k zs)) /\ Below w.heap.size w w' := by
 have HH := Lib.hid (ihead_any w H)
 have HS := Lib.hid (fun w1 (hb : Below w.heap.size w w1) => hash_any A n c k zs w1 hk (hr.below (hb.mono hB)) (Nat.le_trans hB hb.size) hz hl hcap (by omega))
 have hfd : ∀ w1 : World, (Instr.field 29 (hdV i k d f h) 1).run Tryz.prog w1 = .ok (.int .u64 k) w1 := fun _ => by kernel_rfl
 clear H hr
 go_enter Tryz.func125, Tryz.ntmps125
 go_wp2_with (first
   | (go_at_call 110; refine HH.out.mono ?_; rintro e w1 ⟨rfl, hb1⟩)
   | (go_at_call 173; refine (HS.out _ hb1).mono ?_; rintro e w2 ⟨rfl, hb2⟩))
 go_ret
 exact ⟨rfl, hb1.trans (hb2.mono hb1.size)⟩
def bktN (D F : Int) (kd : Nat) (sum : Int) : Nat := (bucket sum (nb D F kd)).toNat
theorem bktN_eq {D F : Int} (hD : 1 <= D /\ D <= 256) (hF : 1 <= F /\ F <= 256) {kd : Nat} {sum : Int} (hs : IsU sum) : bucket sum (nb D F kd) = (bktN D F kd sum : Int) /\ (bktN D F kd sum : Int) < nb D F kd := by
 have h := nb_bd hD hF kd
 unfold bktN bucket
 rw [if_neg (by omega)]
 have h1 := Int.emod_nonneg sum (b := nb D F kd) (by omega)
 have h2 := Int.emod_lt_of_pos sum (b := nb D F kd) (by omega)
 omega
set_option maxHeartbeats 1000000 in
theorem tbucket_any (kd : Nat) (hkd : kd = 1 ∨ kd = 2) (sum : Int) (w : World) (H : IX w base S p i k d f h m bv sv) (hs : IsU sum) (hd : 1 <= d /\ d <= 256) (hf : 1 <= f /\ f <= 256) :
 Calls Tryz.prog 170 #[.pointer (some ⟨p, 0, none⟩), .int .i64 kd, .int .u64 sum] w fun e w' => e = .returned (.tuple #[.int .i64 (tb d kd + 8 * bktN d f kd sum : Nat), .bool true]) /\ Below w.heap.size w w' := by
 obtain ⟨e1, e2⟩ := bktN_eq hd hf (kd := kd) hs
 have HH := Lib.hid (ihead_any w H)
 have h2 := nb_bd hd hf kd
 have hl := tb_low hd hf e2
 have hv := newK_val hd hf
 rcases hkd with rfl | rfl
 · have en : nb d f 1 = d := rfl
   have et : tb d 1 = 256 := rfl
   rw [en] at e1 e2 h2
   rw [et] at hl ⊢
   obtain ⟨q, hq⟩ : ∃ q, bktN d f 1 sum = q := ⟨_, rfl⟩
   rw [hq] at e1 e2 hl ⊢
   have BK := Lib.hid (fun w1 => bucket_any sum d w1 hs (by omega) (by omega))
   rw [e1] at BK
   have hwr : IntKind.i64.wrap (256 + IntKind.i64.wrap ((q : Int) * 8)) = ((256 + 8 * q : Nat) : Int) := by simp only [IntKind.wrap_i64]; omega
   clear H en et e1 hq
   go_enter Tryz.func170, Tryz.ntmps170
   go_wp2_with (go_at_call 110; refine HH.out.mono ?_; rintro e w1 ⟨rfl, hb1⟩; have HB := Lib.hid (hb1.trans ((boxed w1 (.cells #[.int .u64 i, .int .u64 k, .int .i64 d, .int .i64 f, .int .u64 h] 29)).mono hb1.size)); have HA := Lib.hid (fun wx (hx : Below (w1.alloc (.cells #[.int .u64 i, .int .u64 k, .int .i64 d, .int .i64 f, .int .u64 h] 29)).heap.size (w1.alloc (.cells #[.int .u64 i, .int .u64 k, .int .i64 d, .int .i64 f, .int .u64 h] 29)) wx) => (hdAt_of hx : HdAt wx w1.heap.size i k d f h)))
   have hb : Below (w1.alloc (.cells #[.int .u64 i, .int .u64 k, .int .i64 d, .int .i64 f, .int .u64 h] 29)).heap.size (w1.alloc (.cells #[.int .u64 i, .int .u64 k, .int .i64 d, .int .i64 f, .int .u64 h] 29)) (w1.alloc (.cells #[.int .u64 i, .int .u64 k, .int .i64 d, .int .i64 f, .int .u64 h] 29)).drew := below_drewn (Below.refl _ _) 1
   have HK := Lib.hid (HA.out _ hb)
   go_region_held3 (fun w' => HdAt w' w1.heap.size i k d f h)
     (first | assumption | exact HK.out | exact HA.out _ hb)
     ((first
       | (go_at_call 98; refine (hdata_any _ _ _ _ _ _).mono ?_; rintro e wx ⟨rfl, hbx⟩; have hb := hb.trans (hbx.mono hb.size); clear hbx)
       | (go_at_call 154; refine (BK.out _).mono ?_; rintro e wx ⟨rfl, rfl⟩)))
   all_goals
     go_wp2
     go_ret2
     exact ⟨ret_ib (by omega), HB.out.trans (hb.mono HB.out.size)⟩
 · have en : nb d f 2 = f := rfl
   have et : tb d 2 = 256 + 8 * d.toNat := rfl
   rw [en] at e1 e2 h2
   rw [et] at hl ⊢
   obtain ⟨q, hq⟩ : ∃ q, bktN d f 2 sum = q := ⟨_, rfl⟩
   rw [hq] at e1 e2 hl ⊢
   have BK := Lib.hid (fun w1 => bucket_any sum f w1 hs (by omega) (by omega))
   rw [e1] at BK
   have hwr : IntKind.i64.wrap (256 + 8 * d + IntKind.i64.wrap ((q : Int) * 8)) = ((256 + 8 * d.toNat + 8 * q : Nat) : Int) := by simp only [IntKind.wrap_i64]; omega
   clear H en et e1 hq
   go_enter Tryz.func170, Tryz.ntmps170
   go_wp2_with (go_at_call 110; refine HH.out.mono ?_; rintro e w1 ⟨rfl, hb1⟩; have HB := Lib.hid (hb1.trans ((boxed w1 (.cells #[.int .u64 i, .int .u64 k, .int .i64 d, .int .i64 f, .int .u64 h] 29)).mono hb1.size)); have HA := Lib.hid (fun wx (hx : Below (w1.alloc (.cells #[.int .u64 i, .int .u64 k, .int .i64 d, .int .i64 f, .int .u64 h] 29)).heap.size (w1.alloc (.cells #[.int .u64 i, .int .u64 k, .int .i64 d, .int .i64 f, .int .u64 h] 29)) wx) => (hdAt_of hx : HdAt wx w1.heap.size i k d f h)))
   have hb : Below (w1.alloc (.cells #[.int .u64 i, .int .u64 k, .int .i64 d, .int .i64 f, .int .u64 h] 29)).heap.size (w1.alloc (.cells #[.int .u64 i, .int .u64 k, .int .i64 d, .int .i64 f, .int .u64 h] 29)) (w1.alloc (.cells #[.int .u64 i, .int .u64 k, .int .i64 d, .int .i64 f, .int .u64 h] 29)).drew := below_drewn (Below.refl _ _) 1
   have HK := Lib.hid (HA.out _ hb)
   go_region_held3 (fun w' => HdAt w' w1.heap.size i k d f h)
     (first | assumption | exact HK.out | exact HA.out _ hb)
     ((first
       | (go_at_call 67; refine (hfield_any _ _ _ _ _ _ (by omega) (by omega)).mono ?_; rintro e wx ⟨rfl, hbx⟩; have hb := hb.trans (hbx.mono hb.size); clear hbx)
       | (go_at_call 154; refine (BK.out _).mono ?_; rintro e wx ⟨rfl, rfl⟩)))
   all_goals
     go_wp2
     go_ret2
     exact ⟨ret_ib (by omega), HB.out.trans (hb.mono HB.out.size)⟩
theorem tall_any (kd : Nat) (hkd : kd = 1 ∨ kd = 2) (sum : Int) (w : World) (H : IX w base S p i k d f h m bv sv) (hbm : AreB m.b) (hs : IsU sum) (hd : 1 <= d /\ d <= 256) (hf : 1 <= f /\ f <= 256) :
 Calls Tryz.prog 124 #[.pointer (some ⟨p, 0, none⟩), .int .i64 kd, .int .u64 sum] w fun e w' => ∃ g, e = .returned (flV g) /\ Below w.heap.size w w' /\ w.heap.size <= g /\ FlAt w' g p (m.word (tb d kd + 8 * bktN d f kd sum : Nat)) kd 1 := by
 have BB := Lib.hid (tbucket_any kd hkd sum w H hs hd hf)
 have hl := tb_low hd hf (bktN_eq hd hf (kd := kd) hs).2
 have hv := newK_val hd hf
 obtain ⟨q, hq⟩ : ∃ q, tb d kd + 8 * bktN d f kd sum = q := ⟨_, rfl⟩
 rw [hq] at BB hl ⊢
 have WW := Lib.hid (fun w1 (hb : Below w.heap.size w w1) => iword_any q w1 (H.below hb) hbm (by omega) (by omega))
 obtain ⟨pl, hpl⟩ : ∃ pl, m.word q = pl := ⟨_, rfl⟩
 rw [hpl] at WW ⊢
 have FF := Lib.hid (fun w1 => tfollow_any p pl kd 1 w1)
 clear H hq hpl
 go_enter Tryz.func124, Tryz.ntmps124
 go_wp2_with (first
   | (go_at_call 170; refine BB.out.mono ?_; rintro e w1 ⟨rfl, hb1⟩)
   | (go_at_call 127; refine (WW.out _ hb1).mono ?_; rintro e w2 ⟨rfl, rfl⟩)
   | (go_at_call 172; refine (FF.out _).mono ?_; rintro e w2 ⟨rfl, hb2, hfl⟩))
 go_ret
 exact ⟨_, rfl, hb1.trans (hb2.mono hb1.size), hb1.size, hfl⟩
end
def findI (its : List It) (raw : List Int) : Option Nat := (its.find? (fun t => decide (t.rs = raw))).map (·.j)
theorem findI_none {its : List It} {raw : List Int} (h : ∀ t ∈ its, t.rs ≠ raw) : findI its raw = none := by
 unfold findI
 rw [List.find?_eq_none.2 (fun t ht => by simpa using h t ht)]; rfl
theorem findI_some {pre rest : List It} {t : It} {raw : List Int} (h : ∀ u ∈ pre, u.rs ≠ raw) (ht : t.rs = raw) : findI (pre ++ t :: rest) raw = some t.j := by
 unfold findI
 rw [List.find?_append, List.find?_eq_none.2 (fun u hu => by simpa using h u hu), List.find?_cons, decide_eq_true ht]; rfl
theorem keepC_blk {n₀ : Nat} {T : Nat -> Prop} {w W : World} {g : Nat} {t : TypeId} {cs : Array Value} (h : Blk w g t cs) (hk : KeepC n₀ T w W) (hg : g < n₀) (hT : ¬ T g) : Blk W g t cs :=
 (hk.block g h.lt (fun e => e.elim (fun e => by omega) hT)).trans h
theorem keepC_grown {n₀ B : Nat} {T : Nat -> Prop} {w W W' : World} {row : Option Nat} (h : KeepC n₀ T w W) (hn : n₀ <= B) (hg : W.grownBy W' row) (hr : ∀ r, row = some r -> B <= r) : KeepC n₀ T w W' :=
 ⟨hg.os.trans h.os, hg.tape.trans h.tape, hg.output.trans h.output, Nat.le_trans h.size hg.size, fun k hk hn' => (hg.block k (Nat.lt_of_lt_of_le hk h.size) (fun e => hn' (.inl (by have := hr k e.symm; omega)))).trans (h.block k hk hn')⟩
theorem keepC_mono {n₀ : Nat} {T T' : Nat -> Prop} {w W : World} (h : KeepC n₀ T w W) (hT : ∀ k, T k -> T' k) : KeepC n₀ T' w W := h.mono (fun k _ e => e.imp id (hT k))
theorem keepC_set {n₀ : Nat} {T : Nat -> Prop} {w W : World} {p : Addr} (h : KeepC n₀ T w W) (hp : n₀ <= p.block ∨ T p.block) (u : Value) : KeepC n₀ T w (W.setCell p u) :=
 ⟨h.os, h.tape, h.output, by simp [World.setCell]; exact h.size, fun k hk hn => (Below.heap_setCell W p u k (fun e => hn (by rw [e]; exact hp))).trans (h.block k hk hn)⟩
theorem keepC_put {n₀ : Nat} {T : Nat -> Prop} {w W : World} {l : Nat} (h : KeepC n₀ T w W) (hl : n₀ <= l) (o' : Obj) : KeepC n₀ T w (W.putObj l o') :=
 ⟨h.os, h.tape, h.output, by simp; exact h.size, fun k hk hn => (World.putObj_heap_other (fun e => hn (.inl (by omega)))).trans (h.block k hk hn)⟩
theorem own_keepC {β : Type} {n₀ B : Nat} {T : Nat -> Prop} {w : World} (hn : n₀ <= B) (Q : β -> Prop) : OwnFrom B (fun s W => Q s /\ KeepC n₀ T w W) :=
 fun s W W' row hs hg hr => ⟨hs.1, keepC_grown hs.2 hn hg (fun r e => (hr r e).1)⟩
theorem own_blkOf {β : Type} {B g : Nat} {t : TypeId} (hg0 : g < B) (cs : β -> Array Value) : OwnFrom B (fun s W => Blk W g t (cs s)) :=
 fun s W W' row hs hg hr => hs.grown hg (fun e => by have := (hr g e.symm).1; omega)
theorem Blk.put_other {W : World} {g l : Nat} {t : TypeId} {cs : Array Value} {o o' : Obj} (h : Blk W g t cs) (hl : W.heap[l]? = some o) (ho : o.isCells = false) : Blk (W.putObj l o') g t cs := by
 refine (World.putObj_heap_other (fun e => ?_)).trans h
 subst e
 rw [show W.heap[g]? = some (.cells cs t (0, 0)) from h] at hl
 cases hl; cases ho
theorem TellsOb.put {its : List It} {pre : List Ob} {x : Ob} {W : World} {l : Nat} {o o' : Obj} (h : TellsOb its pre x W) (hl : W.heap[l]? = some o) (ho : o.isCells = false) : TellsOb its pre x (W.putObj l o') :=
 ⟨h.1, (ObR.put_other h.2 hl ho).upto (by simp)⟩
theorem TellsOb.alloc {its : List It} {pre : List Ob} {x : Ob} {W : World} (h : TellsOb its pre x W) (o : Obj) : TellsOb its pre x (W.alloc o) :=
 ⟨h.1, (ObR.below h.2 (boxed W o) (Nat.le_refl _)).upto (by simp)⟩
theorem chain_fine {m : IM} {D F : Int} {kd wd : Nat} (hb : AreB m.b) : ∀ {its : List It} {last pl : Int}, chainAt m D F kd wd last pl its -> ∀ t ∈ its, AreB t.rs /\ t.j + 16 <= m.b.length /\ m.obAt D F kd t /\ last < t.j
 | [], _, _, _, t, ht => by cases ht
 | u :: its, last, pl, ⟨h0, h1, h2, h3⟩, t, ht => by
   rcases List.mem_cons.1 ht with rfl | ht
   · have h2' := h2
     obtain ⟨s, hth, e1, e2, e3⟩ := h2
     exact ⟨by rw [<- e2]; exact dR_bytes (objB_bytes hb _ _), hth.2.1.room, h2', by omega⟩
   · have := chain_fine hb h3 t ht
     exact ⟨this.1, this.2.1, this.2.2.1, by have := this.2.2.2; omega⟩
theorem TellsOb.mem {its : List It} {pre : List Ob} {x : Ob} {W : World} (h : TellsOb its pre x W) : x.t ∈ its := by
 obtain ⟨⟨rest, e⟩, -⟩ := h
 rw [<- e]; simp
theorem keepC_to {n₀ N : Nat} {T : Nat -> Prop} {w W : World} (h : KeepC n₀ T w W) (hN : N <= n₀) (hw : N <= w.heap.size) (hT : ∀ j, j < N -> ¬ T j) : Below N w W :=
 ⟨h.os, h.tape, h.output, h.size, fun k hk => h.block k (by omega) (fun e => e.elim (fun e => by omega) (hT k hk))⟩
theorem findI_snoc {pre : List Ob} {x : Ob} {raw : List Int} {rest : List It} (h : ∀ y ∈ pre, y.t.rs ≠ raw) (hx : x.t.rs = raw) : findI ((pre ++ [x]).map (·.t) ++ rest) raw = some x.t.j := by
 rw [List.map_append, List.append_assoc]
 exact findI_some (t := x.t) (rest := rest) (fun u hu => by obtain ⟨y, hy, rfl⟩ := List.mem_map.1 hu; exact h y hy) hx
theorem findI_all {xs : List Ob} {raw : List Int} (h : ∀ y ∈ xs, y.t.rs ≠ raw) : findI (xs.map (·.t)) raw = none :=
 findI_none fun u hu => by obtain ⟨y, hy, rfl⟩ := List.mem_map.1 hu; exact h y hy
theorem results_ccc {P : Program} {fn : Func} {p u q : Tmp} {tp tu tq : TypeId} (h : fn.results = #[.cell p tp, .cell u tu, .cell q tq]) (tmps : Array Value) (w : World) (g1 g2 g3 : Nat) (v1 v2 v3 : Value)
 (hp : tmps.getD p undef = .pointer (some ⟨g1, 0, none⟩)) (hu : tmps.getD u undef = .pointer (some ⟨g2, 0, none⟩)) (hq : tmps.getD q undef = .pointer (some ⟨g3, 0, none⟩))
 (h1 : (loadVar tp ⟨g1, 0, none⟩).run P w = .ok v1 w) (h2 : (loadVar tu ⟨g2, 0, none⟩).run P w = .ok v2 w) (h3 : (loadVar tq ⟨g3, 0, none⟩).run P w = .ok v3 w) :
 (results fn tmps).run P w = .ok (.tuple #[v1, v2, v3]) w := by
 have hp' : tmps[p]?.getD undef = .pointer (some ⟨g1, 0, none⟩) := by simpa using hp
 have hu' : tmps[u]?.getD undef = .pointer (some ⟨g2, 0, none⟩) := by simpa using hu
 have hq' : tmps[q]?.getD undef = .pointer (some ⟨g3, 0, none⟩) := by simpa using hq
 simp [results, h, hp', hu', hq', asAddr, h1, h2, h3]
theorem load_int {w : World} {g : Nat} {x : Int} (h : w.cell? ⟨g, 0, none⟩ = some (.int .i64 x)) : (loadVar 3 ⟨g, 0, none⟩).run Tryz.prog w = .ok (.int .i64 x) w := by simp [go_sem, h]
theorem load_bool {w : World} {g : Nat} {x : Bool} (h : w.cell? ⟨g, 0, none⟩ = some (.bool x)) : (loadVar 4 ⟨g, 0, none⟩).run Tryz.prog w = .ok (.bool x) w := by simp [go_sem, h]
theorem load_errno {w : World} {g : Nat} {x : Int} (h : w.cell? ⟨g, 0, none⟩ = some (.int .i64 x)) : (loadVar 42 ⟨g, 0, none⟩).run Tryz.prog w = .ok (.int .i64 x) w := by simp [go_sem, h]
theorem tabWordInfo : (Tryz.prog.info? 27).map (fun i => (i.zero, i.size, i.bytes)) = some (some (.int .u64 0), 1, 8) := by kernel_rfl
theorem make_words (K : Nat) (hK : K <= 1000000) : ∃ Zc : Array Value, Zc.toList = cellsOf .u64 (List.replicate K 0) /\ Zc.size = K /\
 ∀ W : World, (Instr.makeSlice 114 (.int .i64 (K : Int)) (.int .i64 (K : Int))).run Tryz.prog W = .ok (.slice (some ⟨W.heap.size, 0, none⟩) K K) (W.alloc (.cells Zc 27)) := by
 obtain ⟨i0, hi, hz0, hz1, hz2⟩ := info_parts tabWordInfo
 have hZl : (madeCells (Value.int IntKind.u64 0).cells (K * 1)).toList = cellsOf .u64 (List.replicate K 0) := by
   rw [Nat.mul_one]
   show (madeCells #[Value.int IntKind.u64 0] K).toList = _
   rw [toList_madeCells_one]; simp [cellsOf]
 refine ⟨madeCells (Value.int IntKind.u64 0).cells (K * 1), hZl, ?_, fun W => ?_⟩
 · have h := congrArg List.length hZl
   rw [cellsOf_length, List.length_replicate, Array.length_toList] at h
   exact h
 · have h := run_make (P := Tryz.prog) W 114 27 i0 (.int .u64 0) Tryz.underlying114 hi hz0 .i64 .i64 (K : Int) (K : Int) (by omega) (Int.le_refl _) (by rw [hz2]; omega) (by omega)
   rw [Int.toNat_natCast, hz1] at h
   exact h
theorem Blk.words {w : World} {g K : Nat} {Zc : Array Value} {zs : List Int} (h : Blk w g 27 Zc) (hl : Zc.toList = cellsOf .u64 zs) (hs : Zc.size = K) : Reads w w.heap.size 1 (some ⟨g, 0, none⟩) K (cellsOf .u64 zs) := by
 refine ⟨by rw [<- hl, Array.length_toList, hs]; omega, fun _ => ⟨_, rfl, h.lt, fun j u hj => ?_⟩⟩
 have e : (⟨g, 0, none⟩ : Addr).add j = ⟨g, j, none⟩ := by unfold Addr.add; split <;> simp_all
 rw [e, h.cell]
 rw [<- hl] at hj
 simpa using hj
theorem row_set (K : Nat) (hK : 2 <= K) (x : Int) : (cellsOf .u64 (List.replicate K 0)).set 0 (.int .u64 x) = cellsOf .u64 (x :: 0 :: List.replicate (K - 2) 0) := by
 obtain ⟨j, rfl⟩ : ∃ j, K = j + 2 := ⟨K - 2, by omega⟩
 simp [List.replicate_succ, cellsOf]
theorem two_blocks (W : World) (Za Zb : Array Value) (ta tb : TypeId) : Below W.heap.size W ((W.alloc (.cells Za ta)).alloc (.cells Zb tb)).drew /\ Blk ((W.alloc (.cells Za ta)).alloc (.cells Zb tb)).drew W.heap.size ta Za /\ Blk ((W.alloc (.cells Za ta)).alloc (.cells Zb tb)).drew (W.heap.size + 1) tb Zb := by
 have h := Blk.new (W.alloc (.cells Za ta)) tb Zb
 rw [World.size_alloc] at h
 exact ⟨(((Below.refl _ W).alloc (Nat.le_refl _) _).alloc (by simp) _).drew, ((Blk.new W ta Za).alloc _).drew, h.drew⟩
theorem add_obj {W : World} {gr K n c B : Nat} {A : Option Addr} {zs : List Int} {Zc : Array Value} {x : Int} (hz : Blk W gr 27 (Zc.setIfInBounds 0 (.int .u64 x))) (h1 : Zc.toList = cellsOf .u64 (List.replicate K 0)) (h2 : Zc.size = K) (hK : 2 <= K) (hK2 : K <= 5)
 (hr : Reads W B 1 A n (cellsOf .u8 zs)) (hB : B <= W.heap.size) (hl : n <= c) (hc : c <= 9223372036854775807) : ObR W W.heap.size (some ⟨gr, 0, none⟩) K K (x :: 0 :: List.replicate (K - 2) 0) A n c zs none 0 0 [] :=
 ⟨Blk.words hz (by rw [Array.toList_setIfInBounds, h1, row_set _ hK]) (by rw [Array.size_setIfInBounds, h2]), hr.upto hB, Reads.none_, ⟨Nat.le_refl _, by omega⟩, ⟨hl, hc⟩, ⟨Nat.le_refl _, by omega⟩⟩
theorem below_put1 {B l : Nat} {w W : World} (h : Below B w W) (hl : B <= l) (o' : Obj) : Below B w (W.putObj l o') :=
 h.trans ⟨rfl, rfl, rfl, by simp, fun k hk => World.putObj_heap_other (by omega)⟩
def lkO (q : Nat) (pre : List Ob) : Nat := match pre.getLast? with
  | none => q
  | some x => x.t.j + 24
theorem add_end {base p : Nat} {S : Nat -> Prop} {i k d f h : Int} {m1 m2 : IM} {w W6 W7 W8 W9 : World} (hf : ∀ j, S j -> base <= j /\ j < w.heap.size) (hb : base <= w.heap.size) (h6 : Chg S w W6) (h7 : IXT base S p i k d f h m1 W6 W7)
 (h8 : IXT base (grow S W6 W7) p i k d f h m2 W7 W8) (h9 : Chg (fun j => w.heap.size <= j /\ j < W6.heap.size) W8 W9) : IXT base S p i k d f h m2 w W9 := by
 obtain ⟨c7, -⟩ := h7
 obtain ⟨c8, bv8, sv8, H8⟩ := h8
 have s6 := h6.size
 have s7 := c7.size
 have H9 := H8.keep h9 (fun j hj e => by
   rcases hj with hj | hj
   · rcases hj with hj | hj
     · have := (hf j hj).2; omega
     · omega
   · omega)
 refine IXT.of (w0 := w) ?_ H9 (fun j hj => ?_) hf hb
 · refine (((h6.trans c7 (fun _ _ e => e)).trans c8 (fun j hj e => ?_))).trans h9 (fun j hj e => ?_)
   · rcases e with e | e
     · exact e
     · omega
   · omega
 · rcases hj with hj | hj
   · rcases hj with hj | hj
     · exact .inl hj
     · right; omega
   · right; omega
theorem chg_set1 {T : Nat -> Prop} {w W : World} {p : Addr} (h : Chg T w W) (hp : T p.block) (u : Value) : Chg T w (W.setCell p u) :=
 ⟨h.os, h.tape, h.output, by simp [World.setCell]; exact h.size, fun k hk hn => (Below.heap_setCell W p u k (fun e => hn (by rw [e]; exact hp))).trans (h.block k hk hn)⟩
theorem chg_put1 {T : Nat -> Prop} {w W : World} {l : Nat} (h : Chg T w W) (hl : T l) (o' : Obj) : Chg T w (W.putObj l o') :=
 ⟨h.os, h.tape, h.output, by simp; exact h.size, fun k hk hn => (World.putObj_heap_other (fun e => hn (by rw [e]; exact hl))).trans (h.block k hk hn)⟩
theorem reads_keepC {n₀ : Nat} {T : Nat -> Prop} {w W : World} {B size n : Nat} {A : Option Addr} {xs : List Value} (h : Reads w B size A n xs) (hk : KeepC n₀ T w W) (hB : B <= n₀) (hB2 : B <= w.heap.size) (hT : ∀ j, j < B -> ¬ T j) : Reads W B size A n xs :=
 h.keep fun p hp => World.cell?_of_block (hk.block p.block (by omega) (fun e => e.elim (fun e => by omega) (hT _ hp)))
attribute [local go_sem] Oper.semAt_some
def lkIG (q : Nat) (its : List It) : Nat := match its.getLast? with
  | none => q
  | some t => t.j + 24
theorem lkO_its {q : Nat} {xs : List Ob} {its : List It} (h : xs.map (·.t) = its) : lkO q xs = lkIG q its := by
 subst h
 unfold lkO lkIG
 rw [List.getLast?_map]
 cases xs.getLast? <;> rfl
structure BkAt (kd : Nat) (k d f : Int) (m : IM) (zs : List Int) (its : List It) : Prop where
 hD : 1 <= d /\ d <= 256
 hF : 1 <= f /\ f <= 256
 al : m.b.length % 8 = 0
 most : m.b.length <= 1099511627776
 isU : IsU (m.word (tb d kd + 8 * bktN d f kd (hsh k zs) : Nat))
 ch : chainAt m d f kd 1 0 (m.word (tb d kd + 8 * bktN d f kd (hsh k zs) : Nat)) its
 link : lkIG (tb d kd + 8 * bktN d f kd (hsh k zs)) its + 8 <= m.b.length /\ lkIG (tb d kd + 8 * bktN d f kd (hsh k zs)) its % 8 = 0 /\ 192 <= lkIG (tb d kd + 8 * bktN d f kd (hsh k zs)) its /\ gnum m.b (lkIG (tb d kd + 8 * bktN d f kd (hsh k zs)) its : Nat) 8 = 0
section
variable {base p : Nat} {S : Nat -> Prop} {i k d f h : Int} {m : IM} {bv sv : Value}
end
attribute [local go_sem] Oper.semAt_some
def OnNormal (R : Act -> World -> Prop) : Exit -> Act -> World -> Prop
 | .normal, a, w => R a w
 | .ret, _, _ => False
 | .exit _, _, _ => False
 | .goto _, _, _ => False
 | .panic _, _, _ => False
 | .outgrown, _, _ => False
section
variable {base p : Nat} {S : Nat -> Prop} {i k d f h : Int} {m : IM} {bv sv : Value}
set_option maxHeartbeats 8000000 in
theorem taddG_any {B : Nat} {its : List It} (kd : Nat) (hkd : kd = 1 ∨ kd = 2) (A : Option Addr) (n c : Nat) (zs : List Int) (w : World) (H : IX w base S p i k d f h m bv sv) (hbm : AreB m.b) (hk : IsU k) (T : BkAt kd k d f m zs its) (hlim : m.lim <= 1048576) (hN : m.words.length <= 1000000000) (hwl : m.was.length <= 1099511627776) (hr : Reads w B 1 A n (cellsOf .u8 zs)) (hB : B <= w.heap.size) (hz : AreB zs) (hl : n <= c) (hcap : c <= 9223372036854775807) (hn : n <= 140737488355328) (hrt : rightN kd (kwN kd) zs.length 0 = true) :
 Calls Tryz.prog 183 #[.pointer (some ⟨p, 0, none⟩), .int .i64 kd, .slice A n c] w fun e w' =>
 (∃ a, findI its zs = some a /\ e = .returned (.tuple #[.int .i64 (a : Nat), .bool false, .int .i64 0]) /\ Below w.heap.size w w') ∨
 (findI its zs = none /\ m.lim < m.b.length + tlen kd zs.length /\ e = .returned (.tuple #[.int .i64 0, .bool false, .int .i64 21]) /\ Below w.heap.size w w') ∨
 (findI its zs = none /\ m.b.length + tlen kd zs.length <= m.lim /\ e = .returned (.tuple #[.int .i64 (m.b.length : Nat), .bool true, .int .i64 0]) /\
 IXT base S p i k d f h ((m.add (tO k ⟨kd, zs, m.b.length⟩ 0)).put8 (lkIG (tb d kd + 8 * bktN d f kd (hsh k zs)) its) (m.b.length : Nat)) w w') := by
 obtain ⟨w0, hw0⟩ : ∃ w0, (((w.alloc (.cells #[.slice A n c] 24)).alloc (.cells #[.int .i64 0] 3)).alloc (.cells #[.bool false] 4)).alloc (.cells #[.int .i64 0] 42) = w0 := ⟨_, rfl⟩
 have hb0 : Below w.heap.size w w0 := by rw [<- hw0]; exact ((((Below.refl _ w).alloc (Nat.le_refl _) _).alloc (by simp) _).alloc (by simp; omega) _).alloc (by simp; omega) _
 have hsz : w0.heap.size = w.heap.size + 1 + 1 + 1 + 1 := by rw [<- hw0]; simp
 have x0 : Blk w0 w.heap.size 24 #[.slice A n c] := by rw [<- hw0]; exact (((Blk.new w _ _).alloc _).alloc _).alloc _
 have x1 : Blk w0 (w.heap.size + 1) 3 #[.int .i64 0] := by rw [<- hw0]; have := (Blk.new (w.alloc (.cells #[.slice A n c] 24)) 3 #[.int .i64 0]); rw [World.size_alloc] at this; exact (this.alloc _).alloc _
 have x2 : Blk w0 (w.heap.size + 1 + 1) 4 #[.bool false] := by rw [<- hw0]; have := (Blk.new ((w.alloc (.cells #[.slice A n c] 24)).alloc (.cells #[.int .i64 0] 3)) 4 #[.bool false]); rw [World.size_alloc, World.size_alloc] at this; exact this.alloc _
 have x3 : Blk w0 (w.heap.size + 1 + 1 + 1) 42 #[.int .i64 0] := by rw [<- hw0]; have := (Blk.new (((w.alloc (.cells #[.slice A n c] 24)).alloc (.cells #[.int .i64 0] 3)).alloc (.cells #[.bool false] 4)) 42 #[.int .i64 0]); rw [World.size_alloc, World.size_alloc, World.size_alloc] at this; exact this
 have c0 := x0.cell 0
 have hsU := hsh_isU k zs
 have SU := Lib.hid (tsum_any A n c zs w0 (H.below hb0) hk (hr.below (hb0.mono hB)) (Nat.le_trans hB hb0.size) hz hl hcap hn)
 have BU := Lib.hid (fun w1 (hb : Below w0.heap.size w0 w1) => tbucket_any kd hkd (hsh k zs) w1 (H.below (hb0.trans (hb.mono hb0.size))) hsU T.hD T.hF)
 have AL := Lib.hid (fun w1 (hb : Below w0.heap.size w0 w1) => tall_any kd hkd (hsh k zs) w1 (H.below (hb0.trans (hb.mono hb0.size))) hbm hsU T.hD T.hF)
 have X := Lib.hid (And.intro x0 (And.intro x1 (And.intro x2 x3)))
 have HX := Lib.hid hr
 obtain ⟨hq1, hq2⟩ := bktN_eq T.hD T.hF (kd := kd) hsU
 obtain ⟨q, hq⟩ : ∃ q, tb d kd + 8 * bktN d f kd (hsh k zs) = q := ⟨_, rfl⟩
 rw [hq] at BU AL
 clear x0 x1 x2 x3 hr
 refine (callsIn_wide (n := 9)).1 ?_
 refine callsIn_of_wp_marks Tryz.func183 rfl trivial ?_ rfl
 simp only [Tryz.ntmps183, List.size_toArray, List.length_cons, List.length_nil, Nat.reduceAdd, Nat.reduceSub, Array.replicate_succ, Array.replicate_zero, List.push_toArray, List.append_toArray, List.nil_append, List.cons_append]
 gi_wp2_with (first
   | (refine ⟨trivial, ?_⟩; gi_at_call 125; refine (callsIn_wide.2 SU.out).mono ?_; rintro e w1 ⟨rfl, hb1⟩)
   | (refine ⟨trivial, ?_⟩; gi_at_call 170; refine (callsIn_wide.2 (BU.out _ hb1)).mono ?_; rintro e w2 ⟨rfl, hb2⟩; have hb3 := (hb1.trans (hb2.mono hb1.size)).trans ((boxed w2 (.cells #[.int .i64 q] 3)).mono (hb1.trans (hb2.mono hb1.size)).size); have xl := Blk.new w2 3 #[.int .i64 q])
   | (refine ⟨trivial, ?_⟩; gi_at_call 124; refine (callsIn_wide.2 (AL.out _ hb3)).mono ?_; rintro e w4 ⟨g, rfl, hb4, hg, hfl⟩))
 have hs1 := hb1.size
 have hs2 := hb2.size
 have hs4 := hb4.size
 have hgl := hfl.lo
 rw [World.size_alloc] at hs4 hg
 have hb04 : Below w0.heap.size w0 w4 := hb3.trans (hb4.mono hb3.size)
 have hbw4 : Below w.heap.size w w4 := hb0.trans (hb04.mono hb0.size)
 have H4 := H.below hbw4
 obtain ⟨X0, X1, X2, X3⟩ := X.out
 have y0 := X0.below hb04 (by omega)
 have y1 := X1.below hb04 (by omega)
 have y2 := X2.below hb04 (by omega)
 have y3 := X3.below hb04 (by omega)
 have yl : Blk w4 w2.heap.size 3 #[.int .i64 q] := xl.below hb4 (by simp)
 have hr4 : Reads w4 B 1 A n (cellsOf .u8 zs) := HX.out.below (hbw4.mono hB)
 have hch := T.ch
 rw [hq] at hch
 have hfin := chain_fine hbm hch
 have hword := T.isU
 rw [hq] at hword
 have hwB : w.heap.size <= w4.heap.size := hbw4.size
 clear X X0 X1 X2 X3 HX SU AL BU c0 xl
 refine wp_range_tellsH (F := Fence.wide) (n := 9) rfl (by omega) (gf := 195) (lb := #[.pointer (some ⟨g + 3, 0, none⟩), .pointer (some ⟨g + 2, 0, none⟩), .pointer (some ⟨g + 1, 0, none⟩), .pointer (some ⟨g, 0, none⟩)]) rfl trivial (enters_of Tryz.func195 (by kernel_rfl) rfl)
   (follow_tells 8 (by omega) w4.heap.size (fun k => k = w2.heap.size) (g + 3) (g + 2) (g + 1) g kd 1 _ its w4 H4 hbm T.most T.hD T.hF (fun j hj => ⟨(H4.foot j hj).2, fun e => by have := (H.foot j hj).2; omega⟩) ⟨by omega, by omega, by omega, by omega, Nat.le_refl _⟩ ⟨by omega, by omega, by omega, by omega⟩ hfl.cw hfl.ck hfl.cp hfl.cm
     (by rcases hkd with rfl | rfl <;> decide) hword hch)
   keepC_t (keepC_b (Nat.le_refl _)) (fun pre x W l o o' _ hl ho hx => hx.put hl ho) (Below.refl _ _) (fun _ => rfl)
   (fun pre W => ((∀ y ∈ pre, y.t.rs ≠ zs) /\ KeepC w4.heap.size (fun k => k = w2.heap.size) w4 W) /\ Blk W w2.heap.size 3 #[.int .i64 (lkO q pre : Nat)])
   (fun c pre W => ((c = .ret /\ ∃ pre0 x, pre = pre0 ++ [x] /\ (∀ y ∈ pre0, y.t.rs ≠ zs) /\ x.t.rs = zs) /\ KeepC w4.heap.size (fun k => k = w2.heap.size ∨ k = w.heap.size + 1 ∨ k = w.heap.size + 1 + 1 ∨ k = w.heap.size + 1 + 1 + 1) w4 W) /\ Blk W (w.heap.size + 1) 3 #[.int .i64 ((findI (pre.map (·.t)) zs).getD 0 : Nat)] /\ Blk W (w.heap.size + 1 + 1) 4 #[.bool false] /\ Blk W (w.heap.size + 1 + 1 + 1) 42 #[.int .i64 0])
   (OwnFrom.and (own_keepC (Nat.le_refl _) _) (own_blkOf (by omega) _))
   (fun c => OwnFrom.and (own_keepC (Nat.le_refl _) _) (OwnFrom.and (own_blkOf (by omega) _) (OwnFrom.and (own_blkOf (by omega) _) (own_blkOf (by omega) _))))
   ⟨⟨by simp, Chg.refl _ _⟩, yl⟩
   (fun x a' W => ∃ b, Blk W b 128 #[.int .i64 kd, .slice x.A x.n x.c, .slice x.B x.m x.d, .slice x.C x.p x.q] /\ w4.heap.size <= b /\ a' = { tmps := #[.pointer (some ⟨p, 0, none⟩), .int .i64 kd, .slice A n c, undef, undef, .pointer (some ⟨w.heap.size, 0, none⟩), .pointer (some ⟨w.heap.size + 1, 0, none⟩), .pointer (some ⟨w.heap.size + 1 + 1, 0, none⟩), .pointer (some ⟨w.heap.size + 1 + 1 + 1, 0, none⟩), .int .u64 (hsh k zs), .pointer (some ⟨w2.heap.size, 0, none⟩), .bool true, .int .i64 x.t.j, .pointer (some ⟨b, 0, none⟩), undef, undef, undef, .pointer (some ⟨p, 0, none⟩), .slice A n c, .int .u64 (hsh k zs), .tuple #[.int .i64 q, .bool true], .pointer (some ⟨p, 0, none⟩), .int .i64 kd, .int .u64 (hsh k zs), .tuple #[.int .i64 q, .bool true], .int .i64 q, .bool true, .bool true, .bool false, .pointer (some ⟨p, 0, none⟩), .int .i64 kd, .int .u64 (hsh k zs), flV g, .int .i64 x.t.j, x.v kd, undef, undef, undef, undef, undef, undef, undef, undef, undef, undef, undef, undef, undef, undef, undef, undef, undef, undef, undef, undef, undef, undef, undef, undef, undef, undef, undef, undef, undef, undef, undef, undef, undef], defers := [] })
   (fun x a' W l o o' _ hl ho ⟨b, h1, h2, h3⟩ => ⟨b, h1.put_other hl ho, h2, h3⟩)
   ?assign ?body ?done ?stop
 case assign =>
   intro l pre x W K hi hpx hK
   dsimp only [Ob.encs, Ob.v, obV]
   gi_wp2
   exact hK _ _ (KeepsOthers.alloc _ _) (keepC_below (boxed _ _)) ⟨⟨hi.1.1, keepC_t hi.1.2 (keepC_below (boxed _ _))⟩, hi.2.alloc _⟩ (hpx.alloc _) ⟨W.heap.size, Blk.new _ _ _, hi.1.2.size, rfl⟩
 case body =>
   rintro l pre x W ⟨⟨hne, hkw⟩, zl⟩ _ hpx a' ⟨b, hbx, hbn, rfl⟩
   have b2 := hbx.cell 2
   have r0 := (keepC_blk y0 hkw (by omega) (by omega)).cell 0
   have z1 := keepC_blk y1 hkw (by omega) (by omega)
   have z2 := keepC_blk y2 hkw (by omega) (by omega)
   have z3 := keepC_blk y3 hkw (by omega) (by omega)
   have k1 := z1.cell 0
   have k2 := z2.cell 0
   have k3 := z3.cell 0
   have kl := zl.cell 0
   have f1 := z1.frozen 0
   have f2 := z2.frozen 0
   have f3 := z3.frozen 0
   have fl := zl.frozen 0
   have hxm := hfin x.t hpx.mem
   have hmost := T.most
   have hw1 : IntKind.i64.wrap ((x.t.j : Int) + 24) = (x.t.j : Int) + 24 := wrap_i64_of (by omega) (by omega)
   have BQ := Lib.hid (beq_any x.B A x.m n x.d c x.t.rs zs W hpx.2.rr (reads_keepC hr4 hkw (by omega) (by omega) (fun j hj e => by omega)) hxm.1 hz)
   have AT := Lib.hid (fun wx => oat_any 1 wx (by omega) (by omega))
   have Z := Lib.hid (And.intro z1 (And.intro z2 (And.intro z3 zl)))
   clear z1 z2 z3 zl
   gi_wp2_with (first
     | (refine ⟨trivial, ?_⟩; gi_at_call 63; refine (CallsIn.inRound l (callsIn_wide.2 BQ.out)).mono ?_; rintro e w9 ⟨rfl, rfl⟩)
     | (refine ⟨trivial, ?_⟩; gi_at_call 128; refine (CallsIn.inRound l (callsIn_wide.2 (AT.out _))).mono ?_; rintro e w9 ⟨rfl, rfl⟩))
   · rename_i hx
     have hx' : x.t.rs = zs := by simpa using hx
     have e1 : findI ((pre ++ [x]).map (·.t)) zs = some x.t.j := by have := findI_snoc (rest := []) hne hx'; rwa [List.append_nil] at this
     obtain ⟨z1, z2, z3, -⟩ := Z.out
     refine ⟨((KeepsOthers.setCell _ _ _).trans (KeepsOthers.setCell _ _ _)).trans (KeepsOthers.setCell _ _ _), ⟨⟨rfl, pre, x, rfl, hne, hx'⟩, keepC_set (keepC_set (keepC_set (keepC_mono hkw (fun _ e => .inl e)) (.inr (.inr (.inl rfl))) _) (.inr (.inr (.inr (.inl rfl)))) _) (.inr (.inr (.inr (.inr rfl)))) _⟩, ?_, ?_, ?_⟩
     · rw [e1]; exact ((z1.set_ 0 _).far (by show w.heap.size + 1 ≠ w.heap.size + 1 + 1; omega) _).far (by show w.heap.size + 1 ≠ w.heap.size + 1 + 1 + 1; omega) _
     · exact ((z2.far (by show w.heap.size + 1 + 1 ≠ w.heap.size + 1; omega) _).set_ 0 _).far (by show w.heap.size + 1 + 1 ≠ w.heap.size + 1 + 1 + 1; omega) _
     · exact ((z3.far (by show w.heap.size + 1 + 1 + 1 ≠ w.heap.size + 1; omega) _).far (by show w.heap.size + 1 + 1 + 1 ≠ w.heap.size + 1 + 1; omega) _).set_ 0 _
   · rename_i hx
     have hx' : ¬ x.t.rs = zs := by simpa using hx
     refine ⟨KeepsOthers.setCell _ _ _, keepC_set (p := ⟨w2.heap.size, 0, none⟩) (n₀ := w4.heap.size) (T := fun k => k = w2.heap.size) (Chg.refl _ _) (.inr rfl) _, ⟨fun y hy => (List.mem_append.1 hy).elim (hne y) (fun e => by rw [List.mem_singleton.1 e]; exact hx'), keepC_set hkw (.inr rfl) _⟩, ?_⟩
     have e3 : lkO q (pre ++ [x]) = x.t.j + 24 := by simp [lkO]
     rw [e3]
     exact Z.out.2.2.2.set_ 0 _
 case done =>
   rintro D xs W hD hxs ⟨⟨hne, hkw⟩, zl⟩ hK
   obtain ⟨Zc, hZ1, hZ2, hmk⟩ := make_words (kwN kd) (by have := kwN_le kd; omega)
   have r0 := (keepC_blk y0 hkw (by omega) (by omega)).cell 0
   have hB4W : Below B w4 W := keepC_to hkw (by omega) (by omega) (fun j hj e => by omega)
   have Z := Lib.hid (And.intro (keepC_blk y1 hkw (by omega) (by omega)) (And.intro (keepC_blk y2 hkw (by omega) (by omega)) (And.intro (keepC_blk y3 hkw (by omega) (by omega)) zl)))
   gi_wp2
   refine wpIn_wide.2 ?_
   refine Code.wp_mono (Q := OnNormal fun a' W' => ∃ gr gb, Below W.heap.size W W' /\ W.heap.size <= gr /\ W.heap.size <= gb /\ gr ≠ gb /\ Blk W' gr 27 Zc /\ Blk W' gb 128 #[.int .i64 kd, .slice (some ⟨gr, 0, none⟩) (kwN kd) (kwN kd), .slice A n c, .slice none 0 0] /\ a' = { tmps := #[.pointer (some ⟨p, 0, none⟩), .int .i64 kd, .slice A n c, undef, undef, .pointer (some ⟨w.heap.size, 0, none⟩), .pointer (some ⟨w.heap.size + 1, 0, none⟩), .pointer (some ⟨w.heap.size + 1 + 1, 0, none⟩), .pointer (some ⟨w.heap.size + 1 + 1 + 1, 0, none⟩), .int .u64 (hsh k zs), .pointer (some ⟨w2.heap.size, 0, none⟩), .bool true, undef, undef, .pointer (some ⟨gb, 0, none⟩), undef, undef, .pointer (some ⟨p, 0, none⟩), .slice A n c, .int .u64 (hsh k zs), .tuple #[.int .i64 q, .bool true], .pointer (some ⟨p, 0, none⟩), .int .i64 kd, .int .u64 (hsh k zs), .tuple #[.int .i64 q, .bool true], .int .i64 q, .bool true, .bool true, .bool false, .pointer (some ⟨p, 0, none⟩), .int .i64 kd, .int .u64 (hsh k zs), flV g, undef, undef, undef, undef, undef, undef, undef, undef, undef, undef, .int .i64 kd, .int .i64 kd, .int .i64 (kwN kd), .slice (some ⟨gr, 0, none⟩) (kwN kd) (kwN kd), .slice A n c, .agg #[.int .i64 kd, .slice (some ⟨gr, 0, none⟩) (kwN kd) (kwN kd), .slice A n c, .slice none 0 0], undef, undef, undef, undef, undef, undef, undef, undef, undef, undef, undef, undef, undef, undef, undef, undef, undef, undef, undef], defers := [{ target := .collected D, args := #[] }] }) ?_ ?_
   rotate_left
   · clear Z y0 y1 y2 y3 zl yl hch hfin
     have HW := Lib.hid (fun wx => owords_any kd wx)
     have HC := Lib.hid (fun (wx : World) (o : Obj) (hx : wx.cell? ⟨w.heap.size, 0, none⟩ = some (.slice A n c)) => (cell_kept1 hx : (wx.alloc o).cell? ⟨w.heap.size, 0, none⟩ = some (.slice A n c)))
     go_region_held3 (fun w' => w'.cell? ⟨w.heap.size, 0, none⟩ = some (.slice A n c))
       (first | assumption | exact HC.out _ _ (by assumption) | exact HC.out _ _ (HC.out _ _ (by assumption)))
       ((go_at_call 90; refine (HW.out _).mono ?_; rintro e w9 ⟨rfl, rfl⟩))
     all_goals
       first
       | (obtain ⟨q1, q2, q3⟩ := two_blocks W Zc #[.int .i64 kd, .slice (some ⟨W.heap.size, 0, none⟩) (kwN kd) (kwN kd), .slice A n c, .slice none 0 0] 27 128
          exact ⟨W.heap.size, W.heap.size + 1, q1, Nat.le_refl _, by omega, by omega, q2, q3, rfl⟩)
       | (obtain ⟨q1, q2, q3⟩ := two_blocks W #[.int .i64 kd, .slice (some ⟨W.heap.size + 1, 0, none⟩) (kwN kd) (kwN kd), .slice A n c, .slice none 0 0] Zc 128 27
          exact ⟨W.heap.size + 1, W.heap.size, q1, by omega, Nat.le_refl _, by omega, q3, q2, rfl⟩)
   · intro e a' W5 hq5
     cases e <;> try exact hq5.elim
     obtain ⟨gr, gb, hb5, hgr, hgb, hne5, zr, zb, rfl⟩ := hq5
     have hpos : 0 < kwN kd := by rcases hkd with rfl | rfl <;> decide
     have u1 := zb.cell 0
     have u2 := zb.cell 1
     have u3 := zb.cell 2
     have u4 := zb.cell 3
     have v0 : W5.cell? ⟨gr, 0, none⟩ = some (.int .u64 0) := by
       rw [zr.cell 0, <- Array.getElem?_toList, hZ1]
       exact (cellsOf_get (by rw [List.length_replicate]; exact hpos)).trans (by rw [List.getD_eq_getElem?_getD, List.getElem?_replicate, if_pos hpos]; rfl)
     have f0 := zr.frozen 0
     clear r0 hmk
     obtain ⟨W6, hW6⟩ : ∃ W6, W5.setCell ⟨gr, 0, none⟩ (.int .u64 (hsh k zs)) = W6 := ⟨_, rfl⟩
     have hbW6 : Below W.heap.size W W6 := by rw [<- hW6]; exact hb5.setCell (p := ⟨gr, 0, none⟩) hgr _
     have hsW := hkw.size
     have hB6 : Below w.heap.size w W6 := hbw4.trans ((keepC_to hkw (by omega) hbw4.size (fun j hj e => by omega)).trans (hbW6.mono (by omega)))
     have H6 := H.below hB6
     have hlen : zs.length = n := hr4.len
     have hfine : (⟨kd, zs, m.b.length⟩ : TRow).Fine := ⟨hkd, hrt, hz, T.al⟩
     have hkw2 := hfine.kw
     have zr6 : Blk W6 gr 27 (Zc.setIfInBounds 0 (.int .u64 (hsh k zs))) := by rw [<- hW6]; exact zr.set_ 0 _
     have zb6 : Blk W6 gb 128 #[.int .i64 kd, .slice (some ⟨gr, 0, none⟩) (kwN kd) (kwN kd), .slice A n c, .slice none 0 0] := by rw [<- hW6]; exact zb.far (by show gb ≠ gr; omega) _
     have w1' := zb6.cell 0
     have w2' := zb6.cell 1
     have w3' := zb6.cell 2
     have w4' := zb6.cell 3
     have hT : tW k ⟨kd, zs, m.b.length⟩ 0 = hsh k zs :: 0 :: List.replicate (kwN kd - 2) 0 := rfl
     have hO : ObR W6 W6.heap.size (some ⟨gr, 0, none⟩) (kwN kd) (kwN kd) (tW k ⟨kd, zs, m.b.length⟩ 0) A n c zs none 0 0 [] := by
       rw [hT]
       exact add_obj zr6 hZ1 hZ2 hkw2.1 hkw2.2 (hr4.below (hB4W.trans (hbW6.mono (by omega)))) (by have := hbW6.size; omega) hl hcap
     have hrn : rightN kd (kwN kd) n 0 = true := by rw [<- hlen]; exact hrt
     have hxl : (encO kd (tW k ⟨kd, zs, m.b.length⟩ 0) zs []).length = tlen kd zs.length := by have h := tO_length (key := k) (z := 0) hfine; unfold tO at h; exact h
     have e2 : findI its zs = none := by rw [<- hxs]; exact findI_all hne
     have hD6 : W6.heap[D]? = some (.deferred (some [])) := (hbW6.block D (Array.getElem?_eq_some_iff.1 hK).1).trans hK
     have hDW := (Array.getElem?_eq_some_iff.1 hK).1
     have Z6 := Lib.hid (And.intro (Z.out.1.below hbW6 (by omega)) (And.intro (Z.out.2.1.below hbW6 (by omega)) (And.intro (Z.out.2.2.1.below hbW6 (by omega)) (Z.out.2.2.2.below hbW6 (by omega)))))
     have hsz6 := hbW6.size
     have hgl6 : w2.heap.size < W.heap.size := by omega
     have HZ := Lib.hid (And.intro zr6 zb6)
     clear zr6 zb6 zr zb zl Z y0 y1 y2 y3 yl hch hfin hword hkw2 hlen hZ1 hZ2
     by_cases hfull : m.lim < m.b.length + tlen kd zs.length
     · have PF := Lib.hid (iput_full kd _ _ _ _ _ _ _ _ _ _ _ _ W6 hO hrn H6 T.most hlim (by rw [hxl]; exact hfull))
       clear hT hO hrn hxl hfine HZ hB4W hr4 hxs hne hfl hB hz hcap hn hrt hq1 hq2 hq hb0 hb1 hb2 hb3 hb4 hkd
       gi_wp2_with (refine ⟨trivial, ?_⟩; gi_at_call 92; refine (callsIn_wide.2 PF.out).mono ?_; rintro e W7 ⟨rfl, hb7⟩; have a1 := Z6.out.1.below hb7 (by omega); have a2 := Z6.out.2.1.below hb7 (by omega); have a3 := Z6.out.2.2.1.below hb7 (by omega); have k1 := a1.cell 0; have k2 := a2.cell 0; have k3 := a3.cell 0; have g1 := a1.frozen 0; have g2 := a2.frozen 0; have g3 := a3.frozen 0; have AA := Lib.hid (And.intro a1 (And.intro a2 a3)); clear a1 a2 a3)
       have hD7 := (hb7.block D (by omega)).trans hD6
       have hK' := (((KeepsOthers.setCell W7 ⟨w.heap.size + 1, 0, none⟩ (.int .i64 0)).trans (KeepsOthers.setCell _ ⟨w.heap.size + 1 + 1, 0, none⟩ (.bool false))).trans (KeepsOthers.setCell _ ⟨w.heap.size + 1 + 1 + 1, 0, none⟩ (.int .i64 21))).same D _ hD7 rfl
       refine ⟨by simp, .inl ⟨_, _, rfl, run_takeDeferred hK', ?_⟩⟩
       obtain ⟨a1, a2, a3⟩ := AA.out
       have q1 := ((a1.set_ 0 (.int .i64 0)).far (p := ⟨w.heap.size + 1 + 1, 0, none⟩) (by show w.heap.size + 1 ≠ w.heap.size + 1 + 1; omega) (.bool false)).far (p := ⟨w.heap.size + 1 + 1 + 1, 0, none⟩) (by show w.heap.size + 1 ≠ w.heap.size + 1 + 1 + 1; omega) (.int .i64 21)
       have q2 := ((a2.far (p := ⟨w.heap.size + 1, 0, none⟩) (by show w.heap.size + 1 + 1 ≠ w.heap.size + 1; omega) (.int .i64 0)).set_ 0 (.bool false)).far (p := ⟨w.heap.size + 1 + 1 + 1, 0, none⟩) (by show w.heap.size + 1 + 1 ≠ w.heap.size + 1 + 1 + 1; omega) (.int .i64 21)
       have q3 := ((a3.far (p := ⟨w.heap.size + 1, 0, none⟩) (by show w.heap.size + 1 + 1 + 1 ≠ w.heap.size + 1; omega) (.int .i64 0)).far (p := ⟨w.heap.size + 1 + 1, 0, none⟩) (by show w.heap.size + 1 + 1 + 1 ≠ w.heap.size + 1 + 1; omega) (.bool false)).set_ 0 (.int .i64 21)
       refine ⟨_, results_ccc rfl _ _ (w.heap.size + 1) (w.heap.size + 1 + 1) (w.heap.size + 1 + 1 + 1) (.int .i64 0) (.bool false) (.int .i64 21) rfl rfl rfl (load_int ((q1.put_other hK' rfl).cell 0)) (load_bool ((q2.put_other hK' rfl).cell 0)) (load_errno ((q3.put_other hK' rfl).cell 0)), ?_⟩
       have hB7 := hB6.trans (hb7.mono hB6.size)
       have hB8 := ((hB7.setCell (p := ⟨w.heap.size + 1, 0, none⟩) (by show w.heap.size <= w.heap.size + 1; omega) (.int .i64 0)).setCell (p := ⟨w.heap.size + 1 + 1, 0, none⟩) (by show w.heap.size <= w.heap.size + 1 + 1; omega) (.bool false)).setCell (p := ⟨w.heap.size + 1 + 1 + 1, 0, none⟩) (by show w.heap.size <= w.heap.size + 1 + 1 + 1; omega) (.int .i64 21)
       exact .inr (.inl ⟨e2, hfull, rfl, below_put1 hB8 (by omega) _⟩)
     · have PY := Lib.hid (iput_yes kd _ _ _ _ _ _ _ _ _ _ _ _ W6 hO (Nat.le_refl _) hrn H6 T.most hlim (by rw [hxl]; omega))
       obtain ⟨x, hx⟩ : ∃ x, encO kd (tW k ⟨kd, zs, m.b.length⟩ 0) zs [] = x := ⟨_, rfl⟩
       have hxB : AreB x := by rw [<- hx]; exact encO_bytes hz
       rw [hx] at PY hxl
       obtain ⟨k1', k2', k3', k4'⟩ := T.link
       have hmost := T.most
       have SETC := Lib.hid (fun (W7 : World) (bv7 sv7 : Value) (h7 : IX W7 base (grow S W6 W7) p i k d f h (m.add x) bv7 sv7) => iset_yes (lkIG (tb d kd + 8 * bktN d f kd (hsh k zs)) its) (m.b.length : Nat) W7 h7 (hbm.append hxB) (by show _ + 8 <= (m.b ++ x).length; rw [List.length_append]; omega) k2' (by omega) (by show (m.b ++ x).length <= _; rw [List.length_append, hxl]; omega) hN hwl (by show gnum (m.b ++ x) _ 8 = 0; rw [gnum_add k1']; exact k4'))
       have hlk : lkO q xs = lkIG (tb d kd + 8 * bktN d f kd (hsh k zs)) its := by rw [<- hq]; exact lkO_its hxs
       rw [hlk] at Z6
       obtain ⟨lk, hlk2⟩ : ∃ lk, lkIG (tb d kd + 8 * bktN d f kd (hsh k zs)) its = lk := ⟨_, rfl⟩
       have hres : (m.add (tO k ⟨kd, zs, m.b.length⟩ 0)).put8 lk (m.b.length : Nat) = (m.add x).put8 lk (m.b.length : Nat) := by rw [<- hx]; rfl
       have HE := Lib.hid (And.intro hlk2 hres)
       rw [hlk2] at SETC Z6 k1' k2' k3' k4'
       have t1 := wrap_u64_of (x := m.b.length) (by omega) (by omega)
       obtain ⟨bl, hbl⟩ : ∃ bl, m.b.length = bl := ⟨_, rfl⟩
       have HL := Lib.hid hbl
       rw [hbl] at PY SETC t1
       have HF := Lib.hid (And.intro hfull e2)
       have hH := Lib.hid (And.intro H.foot H.bas)
       have hc6 := Lib.hid (Chg.of_below hB6 (Nat.le_refl _) S)
       clear hT hO hrn hx hxl hfine HZ hB4W hr4 hxs hne hfl hB hz hcap hn hrt hq1 hq2 hq hb0 hb1 hb2 hb3 hb4 hkd hxB k1' k2' k3' k4' hlk hlk2 hres hfull e2 hbl H H4 H6 T hbm hlim hmost
       have HBK := Lib.hid (show ∀ (W7 W8 : World) (g : Nat) (t : TypeId) (cs : Array Value), Chg S W6 W7 -> Chg (grow S W6 W7) W7 W8 -> w.heap.size <= g -> Blk W6 g t cs -> Blk W8 g t cs from fun W7 W8 g t cs c7 c8 hg hb => by
         have hlt := hb.lt
         have s7 := c7.size
         have hns : ¬ S g := fun e => by have := (hH.out.1 _ e).2; omega
         exact (c8.block g (by omega) (fun e => e.elim hns (fun e => by omega))).trans ((c7.block g hlt hns).trans hb))
       gi_wp2_with (first
         | (refine ⟨trivial, ?_⟩; gi_at_call 92; refine (callsIn_wide.2 PY.out).mono ?_; rintro e W7 ⟨rfl, h7⟩; have c7 := h7.1; have hs7 := c7.size; have al := (c7.block w2.heap.size (by omega) (fun hj => by have := (hH.out.1 _ hj).2; omega)).trans Z6.out.2.2.2; have kl := Blk.cell al 0; clear al)
         | (refine ⟨trivial, ?_⟩; gi_at_call 141; obtain ⟨-, bv7, sv7, i7⟩ := id h7; refine (callsIn_wide.2 (SETC.out _ _ _ i7)).mono ?_; clear i7; rintro e W8 ⟨rfl, h8⟩; have a1 := HBK.out W7 W8 _ _ _ c7 h8.1 (by omega) Z6.out.1; have a2 := HBK.out W7 W8 _ _ _ c7 h8.1 (by omega) Z6.out.2.1; have a3 := HBK.out W7 W8 _ _ _ c7 h8.1 (by omega) Z6.out.2.2.1; have k1 := a1.cell 0; have k2 := a2.cell 0; have k3 := a3.cell 0; have g1 := a1.frozen 0; have g2 := a2.frozen 0; have g3 := a3.frozen 0; have AA := Lib.hid (And.intro a1 (And.intro a2 a3)); clear a1 a2 a3))
       have hD8 : W8.heap[D]? = some (.deferred (some [])) := by
         have hns : ¬ S D := fun e => by have := (hH.out.1 _ e).2; omega
         exact (h8.1.block D (by omega) (fun e => e.elim hns (fun e => by omega))).trans ((c7.block D (by omega) hns).trans hD6)
       have hK' := (((KeepsOthers.setCell W8 ⟨w.heap.size + 1, 0, none⟩ (.int .i64 bl)).trans (KeepsOthers.setCell _ ⟨w.heap.size + 1 + 1, 0, none⟩ (.bool true))).trans (KeepsOthers.setCell _ ⟨w.heap.size + 1 + 1 + 1, 0, none⟩ (.int .i64 0))).same D _ hD8 rfl
       refine ⟨by simp, .inl ⟨_, _, rfl, run_takeDeferred hK', ?_⟩⟩
       obtain ⟨a1, a2, a3⟩ := AA.out
       have q1 := ((a1.set_ 0 (.int .i64 bl)).far (p := ⟨w.heap.size + 1 + 1, 0, none⟩) (by show w.heap.size + 1 ≠ w.heap.size + 1 + 1; omega) (.bool true)).far (p := ⟨w.heap.size + 1 + 1 + 1, 0, none⟩) (by show w.heap.size + 1 ≠ w.heap.size + 1 + 1 + 1; omega) (.int .i64 0)
       have q2 := ((a2.far (p := ⟨w.heap.size + 1, 0, none⟩) (by show w.heap.size + 1 + 1 ≠ w.heap.size + 1; omega) (.int .i64 bl)).set_ 0 (.bool true)).far (p := ⟨w.heap.size + 1 + 1 + 1, 0, none⟩) (by show w.heap.size + 1 + 1 ≠ w.heap.size + 1 + 1 + 1; omega) (.int .i64 0)
       have q3 := ((a3.far (p := ⟨w.heap.size + 1, 0, none⟩) (by show w.heap.size + 1 + 1 + 1 ≠ w.heap.size + 1; omega) (.int .i64 bl)).far (p := ⟨w.heap.size + 1 + 1, 0, none⟩) (by show w.heap.size + 1 + 1 + 1 ≠ w.heap.size + 1 + 1; omega) (.bool true)).set_ 0 (.int .i64 0)
       refine ⟨_, results_ccc rfl _ _ (w.heap.size + 1) (w.heap.size + 1 + 1) (w.heap.size + 1 + 1 + 1) (.int .i64 bl) (.bool true) (.int .i64 0) rfl rfl rfl (load_int ((q1.put_other hK' rfl).cell 0)) (load_bool ((q2.put_other hK' rfl).cell 0)) (load_errno ((q3.put_other hK' rfl).cell 0)), ?_⟩
       have hfin9 := add_end hH.out.1 hH.out.2 hc6.out h7 h8 (chg_put1 (chg_set1 (chg_set1 (chg_set1 (p := ⟨w.heap.size + 1, 0, none⟩) (Chg.refl _ W8) (by show w.heap.size <= w.heap.size + 1 /\ w.heap.size + 1 < W6.heap.size; omega) (.int .i64 bl)) (p := ⟨w.heap.size + 1 + 1, 0, none⟩) (by show w.heap.size <= w.heap.size + 1 + 1 /\ w.heap.size + 1 + 1 < W6.heap.size; omega) (.bool true)) (p := ⟨w.heap.size + 1 + 1 + 1, 0, none⟩) (by show w.heap.size <= w.heap.size + 1 + 1 + 1 /\ w.heap.size + 1 + 1 + 1 < W6.heap.size; omega) (.int .i64 0)) (l := D) (by show w.heap.size <= D /\ D < W6.heap.size; omega) (.deferred none))
       obtain ⟨g1, g2⟩ := HE.out
       refine .inr (.inr ⟨HF.out.2, Nat.le_of_not_lt HF.out.1, by rw [HL.out], ?_⟩)
       rw [g1, g2, HL.out]
       exact hfin9
 case stop =>
   rintro D cc pre W hD ⟨rest, hpre⟩ ⟨⟨⟨rfl, pre0, x, rfl, hne, hx⟩, hkw⟩, z1, z2, z3⟩ hK
   have e1 : findI ((pre0 ++ [x]).map (·.t)) zs = some x.t.j := by have := findI_snoc (rest := []) hne hx; rwa [List.append_nil] at this
   have e2 : findI its zs = some x.t.j := by rw [<- hpre]; exact findI_snoc hne hx
   rw [e1] at z1
   gi_wp2
   refine ⟨by simp, .inl ⟨_, _, rfl, run_takeDeferred hK, ?_⟩⟩
   refine ⟨_, results_ccc rfl _ _ (w.heap.size + 1) (w.heap.size + 1 + 1) (w.heap.size + 1 + 1 + 1) _ (.bool false) (.int .i64 0) rfl rfl rfl (load_int ((z1.put_other hK rfl).cell 0)) (load_bool ((z2.put_other hK rfl).cell 0)) (load_errno ((z3.put_other hK rfl).cell 0)), ?_⟩
   exact .inl ⟨x.t.j, e2, rfl, hbw4.trans (keepC_to (keepC_put hkw hD _) (by omega) hbw4.size (fun j hj e => by omega))⟩
end
end Go.Proofs.YtgcmbgniaffdlaaGreat
