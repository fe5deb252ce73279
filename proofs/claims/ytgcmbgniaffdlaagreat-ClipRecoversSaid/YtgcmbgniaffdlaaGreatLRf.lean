import Derived.Test.YtgcmbgniaffdlaaGreatLTa
import Derived.RangeFuncGives
import Derived.RangeFuncBox
set_option linter.unusedVariables false
namespace Go.Proofs.YtgcmbgniaffdlaaGreat
open Go.RowKit
def FpOk (fp : Nat -> Prop) (W : World) : Prop := ∀ k, fp k -> k < W.heap.size
def GrowF (fp : Nat -> Prop) (W : World) (fp' : Nat -> Prop) (W' : World) : Prop := Chg fp W W' /\ ∀ k, fp' k -> (fp k ∨ W.heap.size <= k) /\ k < W'.heap.size
theorem GrowF.refl {fp : Nat -> Prop} {W : World} (h : FpOk fp W) : GrowF fp W fp W := ⟨Chg.refl _ _, fun k hk => ⟨.inl hk, h k hk⟩⟩
theorem GrowF.trans {fp f1 f2 : Nat -> Prop} {A B C : World} (h : GrowF fp A f1 B) (k : GrowF f1 B f2 C) : GrowF fp A f2 C := by
 have s1 := h.1.size
 have s2 := k.1.size
 refine ⟨⟨k.1.os.trans h.1.os, k.1.tape.trans h.1.tape, k.1.output.trans h.1.output, by omega, fun j hj hn => ?_⟩, fun j hj => ?_⟩
 · refine (k.1.block j (by omega) (fun e => ?_)).trans (h.1.block j hj hn)
   rcases (h.2 j e).1 with e | e
   · exact hn e
   · omega
 · obtain ⟨e, e2⟩ := k.2 j hj
   refine ⟨?_, e2⟩
   rcases e with e | e
   · exact (h.2 j e).1
   · right; omega
theorem GrowF.ok {fp fp' : Nat -> Prop} {W W' : World} (h : GrowF fp W fp' W') : FpOk fp' W' := fun k hk => (h.2 k hk).2
theorem GrowF.below {fp : Nat -> Prop} {W W' : World} (h : FpOk fp W) (hb : Below W.heap.size W W') : GrowF fp W fp W' :=
 ⟨Chg.of_below hb (Nat.le_refl _) _, fun k hk => ⟨.inl hk, Nat.lt_of_lt_of_le (h k hk) hb.size⟩⟩
theorem GrowF.put {fp : Nat -> Prop} {W : World} {l : Nat} (h : FpOk fp W) (hl : fp l) (o : Obj) : GrowF fp W fp (W.putObj l o) :=
 ⟨⟨rfl, rfl, rfl, by simp, fun k hk hn => World.putObj_heap_other (fun e => hn (by rw [e]; exact hl))⟩, fun k hk => ⟨.inl hk, by simpa using h k hk⟩⟩
theorem GrowF.keep {fp fp' : Nat -> Prop} {W W' : World} (h : GrowF fp W fp' W') {k : Nat} (hk : k < W.heap.size) (hn : ¬ fp k) : W'.heap[k]? = W.heap[k]? /\ ¬ fp' k :=
 ⟨h.1.block k hk hn, fun e => (h.2 k e).1.elim hn (fun e => by omega)⟩
theorem GrowF.plus {fp fp' : Nat -> Prop} {W W' : World} {b : Nat} (h : GrowF fp W fp' W') (hb : b < W.heap.size) : GrowF (fun k => fp k ∨ k = b) W (fun k => fp' k ∨ k = b) W' :=
 ⟨h.1.mono (fun k _ e => .inl e), fun k hk => by
   have := h.1.size
   rcases hk with hk | hk
   · have := h.2 k hk
     exact ⟨this.1.elim (fun e => .inl (.inl e)) .inr, this.2⟩
   · exact ⟨.inl (.inr hk), by omega⟩⟩
theorem ownFrom_below' {β : Type} {B : Nat} {I : β -> World -> Prop} (h : OwnFrom B I) {s : β} {W W' : World} (hs : I s W) (hb : Below W.heap.size W W') : I s W' :=
 h s W W' none hs ⟨hb.os, hb.tape, hb.output, hb.size, fun k hk _ => hb.block k hk⟩ (fun r e => by cases e)
def SeqF {α : Type} (F : Fence) (n : Nat) (P : Program) (g : Nat) (lb : Array Value) (encs : α -> Array Value) (Px : (Nat -> Prop) -> List α -> α -> World -> Prop) (fp₀ : Nat -> Prop) (S Sp : List α -> Prop) (N : Nat) (w : World) : Prop :=
 ∀ (l : Nat) (J : (Nat -> Prop) -> List α -> World -> Prop) (Jx : List α -> World -> Prop) (W : World) (f1 : Nat -> Prop), Below w.heap.size w W -> (∀ fp, OwnFrom W.heap.size (J fp)) -> OwnFrom W.heap.size Jx ->
   (∀ k, f1 k -> fp₀ k ∨ (w.heap.size <= k /\ k < W.heap.size)) -> FpOk f1 W ->
   (∀ fp pre x W1, J fp pre W1 -> pre.length < N -> FpOk fp W1 -> Px fp pre x W1 -> YieldAt F (n - 1) P l (encs x) W1 fun e W' =>
     (e = .returned (.bool true) /\ ∃ fp', J fp' (pre ++ [x]) W' /\ GrowF fp W1 fp' W') ∨ (e = .returned (.bool false) /\ Jx (pre ++ [x]) W' /\ Chg fp W1 W')) ->
   J f1 [] W ->
   CallsIn F n P g (#[.func (.yield l) #[] #[]] ++ lb) W fun e W' => (∃ v, e = .returned v) /\ ((∃ xs fp', S xs /\ J fp' xs W') ∨ (∃ pre, Sp pre /\ Jx pre W'))
def ownPostF {α : Type} (I : (Nat -> Prop) -> List α -> World -> Prop) (Ix : Code -> List α -> World -> Prop) (fq : Nat -> Prop) (xs : List α) (W : World) : Exit -> Act -> World -> Prop
 | .normal, _, W' => ∃ fq', I fq' xs W' /\ GrowF fq W fq' W'
 | .ret, _, W' => Chg fq W W' /\ Ix .ret xs W'
 | .exit id, _, W' => Chg fq W W' /\ Ix (.exit id) xs W'
 | .goto t, _, W' => Chg fq W W' /\ Ix (.goto t) xs W'
 | .panic _, _, _ => False
 | .outgrown, _, _ => False
section
variable {F : Fence} {n : Nat} {P : Program}
theorem wp_range_F {α : Type} {g : Operand} {ps : Array Tmp} {assign body : Code} {Q : Exit -> Act -> World -> Prop} {a : Act} {w : World}
 (hro : F.round = none) (h1 : 1 <= n) {gf : Nat} {lb : Array Value} (hg : a.eval g = .func (.func gf) #[] lb) (hFg : F.fn gf) (eg : ∀ args w, (callFunc gf args).run P w = .ok (.enter gf args) w)
 {encs : α -> Array Value} {Px : (Nat -> Prop) -> List α -> α -> World -> Prop} {fp₀ : Nat -> Prop} {S Sp : List α -> Prop} {N : Nat} (hseq : SeqF F (n - 1) P gf lb encs Px fp₀ S Sp N w)
 (hfp : FpOk fp₀ w) (hPx : ∀ fp pre x, OwnFrom w.heap.size (fun (_ : Unit) W => Px fp pre x W)) (hps : ∀ x, (encs x).size = ps.size)
 (I : (Nat -> Prop) -> List α -> World -> Prop) (Ix : Code -> List α -> World -> Prop) (hI : ∀ fq, OwnFrom w.heap.size (I fq)) (hIx : ∀ c, OwnFrom w.heap.size (Ix c)) (h0 : I fp₀ [] w)
 (Ax : α -> Act -> World -> Prop) (hAx : ∀ x a', OwnFrom w.heap.size (fun (_ : Unit) W => Ax x a' W))
 (hassign : ∀ (l : Nat) (x : α) (W : World) (K : Act -> World -> Prop), w.heap.size <= W.heap.size -> (∀ (a' : Act) (W' : World), Below W.heap.size W W' -> Ax x a' W' -> K a' W') ->
 assign.wpIn (F.inRound l) (n - 1 - 1) P (Exit.then K (fun _ _ _ => False)) { tmps := (ps.zip (encs x)).foldl (fun t (p, v) => t.setIfInBounds p v) a.tmps, defers := [] } W)
   (hbody : ∀ (l : Nat) (fp fq : Nat -> Prop) (pre : List α) (x : α) (W : World), I fq pre W -> FpOk fq W -> (∀ k, fq k -> fp k) -> pre.length < N -> Px fp pre x W -> (∃ r, W.heap[l]? = some (.loop r)) /\ w.heap.size <= l /\ ¬ fq l -> ∀ a', Ax x a' W -> body.wpIn (F.inRound l) (n - 1 - 1) P (ownPostF I Ix fq (pre ++ [x]) W) a' W)
   (hdone : ∀ (D : Nat) (fq : Nat -> Prop) (xs : List α) (W : World), w.heap.size <= D -> S xs -> I fq xs W -> W.heap[D]? = some (.deferred (some [])) -> Q .normal { a with defers := { target := .collected D, args := #[] } :: a.defers } W)
   (hstop : ∀ (D : Nat) (c : Code) (pre : List α) (W : World), w.heap.size <= D -> Sp pre -> Ix c pre W -> W.heap[D]? = some (.deferred (some [])) -> c.wpIn F n P Q { a with defers := { target := .collected D, args := #[] } :: a.defers } W) :
   (Code.rangeFunc g ps assign body).wpIn F n P Q a w := by
 refine wpIn_rangeFunc fun fn hfn => ?_
 rw [hro]
 obtain ⟨B, hB⟩ : ∃ B, w.heap.size = B := ⟨_, rfl⟩
 obtain ⟨rec, hrec⟩ : ∃ rec : LoopState -> Option Code -> Loop, rec = fun st pe => { state := st, pending := pe, fn, tmps := a.tmps, params := ps, assign, body, defers := w.heap.size } := ⟨_, rfl⟩
 obtain ⟨W1, hW1⟩ : ∃ W1, (w.alloc (.deferred (some []))).alloc (.loop (rec .ready none)) = W1 := ⟨_, rfl⟩
 have hs1 : W1.heap.size = B + 1 + 1 := by rw [<- hW1, <- hB]; simp
 have hlies : LoopLies B (rec .ready none) W1 := by
   subst hB
   refine ⟨?_, ?_⟩
   · rw [<- hW1]; have h := World.alloc_heap_new (w.alloc (.deferred (some []))) (.loop (rec .ready none)); rwa [World.size_alloc] at h
   · rw [<- hW1]; exact (Below.heap_alloc _ _ _ (by simp)).trans (World.alloc_heap_new w _)
 have hb1 : Below w.heap.size w W1 := by rw [<- hW1]; exact ((Below.refl _ w).alloc (Nat.le_refl _) _).alloc (by simp) _
 have hI1 : I fp₀ [] W1 := ownFrom_below' (hI fp₀) h0 hb1
 have own1 : ∀ {β : Type} {K : β -> World -> Prop}, OwnFrom w.heap.size K -> OwnFrom W1.heap.size K := fun h s A C row hs hg hr => h s A C row hs hg (fun r e => ⟨by have := (hr r e).1; omega, (hr r e).2⟩)
 have lies1 : ∀ {β : Type} (f : β -> Loop), OwnFrom W1.heap.size (fun (s : β) W => LoopLies B (f s) W) := fun f s A C row hs hg hr =>
   ⟨(hg.block _ (Array.getElem?_eq_some_iff.1 hs.rec_).1 (fun e => by have := (hr _ e.symm).1; omega)).trans hs.rec_, (hg.block _ (Array.getElem?_eq_some_iff.1 hs.def_).1 (fun e => by have := (hr _ e.symm).1; omega)).trans hs.def_⟩
 refine ⟨w.heap.size + 1, [{ target := .collected w.heap.size, args := #[] }], W1, { target := .fn (.func gf) lb, args := #[.func (.yield (w.heap.size + 1)) #[] #[]] }, W1, gf,
   #[.func (.yield (w.heap.size + 1)) #[] #[]] ++ lb, W1, ?_, ?_, ?_, ?_, fun _ => h1, ?_⟩
 · rw [<- hW1, hrec]; exact run_enterLoop_outer _ _ _ _ _
 · simp only [resolve, hg]
   simp [go_sem]
 · intro f' hf'; simp [Target.leads] at hf'; subst hf'; exact hFg
 · simp [invoke, go_sem, eg]
 rw [hB]
 refine (hseq (B + 1) (fun fp pre W => ∃ fq, (fp = fun k => fq k ∨ k = B + 1) /\ I fq pre W /\ LoopLies B (rec .ready none) W /\ FpOk fq W /\ ¬ fq B /\ ¬ fq (B + 1)) (fun pre W => ∃ c, Ix c pre W /\ LoopLies B (rec .done (some c)) W) W1 (fun k => fp₀ k ∨ k = B + 1) hb1
   (fun fp s A C row hs hg' hr => by
     obtain ⟨fq, e, h1, h2, h3, h4⟩ := hs
     exact ⟨fq, e, own1 (hI fq) s A C row h1 hg' hr, lies1 (fun _ : Unit => rec .ready none) () A C row h2 hg' hr, fun k hk => Nat.lt_of_lt_of_le (h3 k hk) hg'.size, h4⟩)
   (fun s A C row hs hg' hr => by
     obtain ⟨c, hc, hl⟩ := hs
     exact ⟨c, own1 (hIx c) s A C row hc hg' hr, lies1 (fun _ : Unit => rec .done (some c)) () A C row hl hg' hr⟩)
   (fun k hk => hk.elim .inl (fun e => .inr (by omega))) (fun k hk => hk.elim (fun e => by have := hfp k e; omega) (fun e => by omega))
   ?_ ⟨fp₀, rfl, hI1, hlies, fun k hk => by have := hfp k hk; omega, fun e => by have := hfp B e; omega, fun e => by have := hfp (B + 1) e; omega⟩).mono ?_
 · rintro fp pre x W ⟨fq, rfl, hi, hl, hok, hnB, hnB1⟩ hlen hfo hpx
   have hy := run_yield (P := P) (args := encs x) hl.rec_ (by rw [hrec]; exact hps x)
   rw [hrec] at hy
   have hBW := (Array.getElem?_eq_some_iff.1 hl.rec_).1
   refine ⟨fn, _, assign, body, hy, roundIn_of_wpIn hfn (hassign _ x W _ (by omega) fun a' W2 hb2 hax => ?_)⟩
   have hs2 := hb2.size
   have hi2 := ownFrom_below' (hI fq) hi hb2
   have hpx2 := ownFrom_below' (hPx _ pre x) (s := ()) hpx hb2
   have hl2 : LoopLies B (rec .ready none) W2 := ⟨(hb2.block _ hBW).trans hl.rec_, (hb2.block _ (by omega)).trans hl.def_⟩
   have hok2 : FpOk fq W2 := fun k hk => Nat.lt_of_lt_of_le (hok k hk) hs2
   have hbusy := hl2.put { rec .ready none with state := .busy }
   have hi3 := (hI fq).putObj (.loop { rec .ready none with state := .busy }) hi2 (by omega) hl2.rec_ rfl
   have hpx3 := OwnFrom.putObj (hPx _ pre x) (s := ()) (.loop { rec .ready none with state := .busy }) hpx2 (by omega) hl2.rec_ rfl
   have hax3 := OwnFrom.putObj (hAx x a') (s := ()) (.loop { rec .ready none with state := .busy }) hax (by omega) hl2.rec_ rfl
   have hok3 : FpOk fq (W2.putObj (B + 1) (.loop { rec .ready none with state := .busy })) := fun k hk => by simpa using hok2 k hk
   have hbg := run_beginRound (P := P) hl2.rec_ (by rw [hrec])
   refine ⟨_, hbg, wpIn_mono (hbody _ _ fq pre x _ hi3 hok3 (fun k hk => .inl hk) hlen hpx3 ⟨⟨_, hbusy.rec_⟩, by omega, hnB1⟩ a' hax3) ?_⟩
   have hsz3 : (W2.putObj (B + 1) (.loop { rec .ready none with state := .busy })).heap.size = W2.heap.size := by simp
   have fin2 : ∀ (W3 : World) (o : Obj), Chg fq (W2.putObj (B + 1) (.loop { rec .ready none with state := .busy })) W3 -> Chg (fun k => fq k ∨ k = B + 1) W (W3.putObj (B + 1) o) := fun W3 o hc => by
     have a1 : Chg (fun k => fq k ∨ k = B + 1) W W2 := Chg.of_below hb2 (Nat.le_refl _) _
     have a2 : Chg (fun k => fq k ∨ k = B + 1) W2 (W2.putObj (B + 1) (.loop { rec .ready none with state := .busy })) := ⟨rfl, rfl, rfl, by simp, fun k hk hn => World.putObj_heap_other (fun e => hn (.inr e))⟩
     have a3 : Chg (fun k => fq k ∨ k = B + 1) (W2.putObj (B + 1) (.loop { rec .ready none with state := .busy })) W3 := hc.mono (fun k _ e => .inl e)
     have a4 : Chg (fun k => fq k ∨ k = B + 1) W3 (W3.putObj (B + 1) o) := ⟨rfl, rfl, rfl, by simp, fun k hk hn => World.putObj_heap_other (fun e => hn (.inr e))⟩
     exact ((a1.trans a2 (fun _ _ h => h)).trans a3 (fun _ _ h => h)).trans a4 (fun _ _ h => h)
   have fin : ∀ (jump : Option Code) (W3 : World), Chg fq (W2.putObj (B + 1) (.loop { rec .ready none with state := .busy })) W3 ->
       (Instr.endRound (B + 1) jump).run P W3 = .ok (.bool jump.isNone) (W3.putObj (B + 1) (.loop (rec (if jump.isNone then .ready else .done) jump))) /\
       W3.heap[B + 1]? = some (.loop { rec .ready none with state := .busy }) /\ LoopLies B (rec (if jump.isNone then .ready else .done) jump) (W3.putObj (B + 1) (.loop (rec (if jump.isNone then .ready else .done) jump))) := fun jump W3 hk3 => by
     have hl3 : LoopLies B { rec .ready none with state := .busy } W3 := ⟨(hk3.block _ (by omega) hnB1).trans hbusy.rec_, (hk3.block _ (by omega) hnB).trans hbusy.def_⟩
     have he := run_endRound (P := P) jump hl3.rec_
     exact ⟨by rw [hrec] at he ⊢; exact he, hl3.rec_, hl3.put _⟩
   rintro e a3 W3 hp
   cases e with
   | normal =>
     obtain ⟨fq', hi4, hg4⟩ := hp
     obtain ⟨hr, hl3, hl4⟩ := fin none W3 hg4.1
     have hg5 := hg4.plus (b := B + 1) (by omega)
     have g1 : GrowF (fun k => fq k ∨ k = B + 1) W (fun k => fq k ∨ k = B + 1) W2 := GrowF.below hfo hb2
     have g2 := GrowF.put (l := B + 1) g1.ok (.inr rfl) (.loop { rec .ready none with state := .busy })
     have g3 := GrowF.put (l := B + 1) hg5.ok (.inr rfl) (.loop (rec .ready none))
     refine ⟨_, _, hr, .inl ⟨rfl, _, ⟨fq', rfl, (hI fq').putObj _ hi4 (by omega) hl3 rfl, hl4, fun k hk => by simpa using hg4.ok k hk, (hg4.keep (by omega) hnB).2, (hg4.keep (by omega) hnB1).2⟩, ((g1.trans g2).trans hg5).trans g3⟩⟩
   | ret =>
     obtain ⟨hr, hl3, hl4⟩ := fin (some .ret) W3 hp.1
     exact ⟨_, _, hr, .inr ⟨rfl, ⟨.ret, (hIx _).putObj _ hp.2 (by omega) hl3 rfl, hl4⟩, fin2 _ _ hp.1⟩⟩
   | exit id =>
     obtain ⟨hr, hl3, hl4⟩ := fin (some (.exit id)) W3 hp.1
     exact ⟨_, _, hr, .inr ⟨rfl, ⟨.exit id, (hIx _).putObj _ hp.2 (by omega) hl3 rfl, hl4⟩, fin2 _ _ hp.1⟩⟩
   | goto t =>
     obtain ⟨hr, hl3, hl4⟩ := fin (some (.goto t)) W3 hp.1
     exact ⟨_, _, hr, .inr ⟨rfl, ⟨.goto t, (hIx _).putObj _ hp.2 (by omega) hl3 rfl, hl4⟩, fin2 _ _ hp.1⟩⟩
   | panic ch => exact hp.elim
   | outgrown => exact hp.elim
 · rintro e W2 ⟨⟨v, rfl⟩, (⟨xs, fp, hS, fq, rfl, hi, hl, -⟩ | ⟨pre, hSp, c, hi, hl⟩)⟩
   · have he := run_endLoop (P := P) hl.rec_ (by rw [hrec]; simp)
     rw [hrec] at he
     exact ⟨none, _, he, hdone B fq xs _ (by omega) hS ((hI fq).putObj _ hi (by omega) hl.rec_ rfl) ((World.putObj_heap_other (by omega)).trans hl.def_)⟩
   · have he := run_endLoop (P := P) hl.rec_ (by rw [hrec]; simp)
     rw [hrec] at he
     exact ⟨some c, _, he, hstop B c pre _ (by omega) hSp ((hIx c).putObj _ hi (by omega) hl.rec_ rfl) ((World.putObj_heap_other (by omega)).trans hl.def_)⟩
end
section
variable {F : Fence} {n : Nat} {P : Program}
theorem wp_range_A {α : Type} {g : Operand} {ps : Array Tmp} {assign body : Code} {Q : Exit -> Act -> World -> Prop} {a : Act} {w : World}
 (hro : F.round = none) (h1 : 1 <= n) {gf : Nat} {lb : Array Value} (hg : a.eval g = .func (.func gf) #[] lb) (hFg : F.fn gf) (eg : ∀ args w, (callFunc gf args).run P w = .ok (.enter gf args) w)
 {encs : α -> Array Value} {Px : (Nat -> Prop) -> List α -> α -> World -> Prop} {fp₀ : Nat -> Prop} {S Sp : List α -> Prop} {N : Nat} (hseq : SeqF F (n - 1) P gf lb encs Px fp₀ S Sp N w)
 (hfp : FpOk fp₀ w) (hps : ∀ x, (encs x).size = ps.size)
 (I : (Nat -> Prop) -> List α -> World -> Prop) (Ix : Code -> List α -> World -> Prop) (hI : ∀ fq, OwnFrom w.heap.size (I fq)) (hIx : ∀ c, OwnFrom w.heap.size (Ix c)) (h0 : I fp₀ [] w)
 (Mid : (Nat -> Prop) -> List α -> α -> Act -> World -> Prop) (hMid : ∀ fq pre x a', OwnFrom w.heap.size (fun (_ : Unit) W => Mid fq pre x a' W))
 (hassign : ∀ (l : Nat) (fp fq : Nat -> Prop) (pre : List α) (x : α) (W : World) (K : Act -> World -> Prop), w.heap.size <= W.heap.size -> I fq pre W -> FpOk fq W -> (∀ k, fq k -> fp k) -> pre.length < N -> Px fp pre x W ->
 (∀ (a' : Act) (W' : World), Chg fq W W' -> Mid fq pre x a' W' -> K a' W') ->
 assign.wpIn (F.inRound l) (n - 1 - 1) P (Exit.then K (fun _ _ _ => False)) { tmps := (ps.zip (encs x)).foldl (fun t (p, v) => t.setIfInBounds p v) a.tmps, defers := [] } W)
   (hbody : ∀ (l : Nat) (fq : Nat -> Prop) (pre : List α) (x : α) (W : World), FpOk fq W -> pre.length < N -> (∃ r, W.heap[l]? = some (.loop r)) /\ w.heap.size <= l /\ ¬ fq l -> ∀ a', Mid fq pre x a' W -> body.wpIn (F.inRound l) (n - 1 - 1) P (ownPostF I Ix fq (pre ++ [x]) W) a' W)
   (hdone : ∀ (D : Nat) (fq : Nat -> Prop) (xs : List α) (W : World), w.heap.size <= D -> S xs -> I fq xs W -> W.heap[D]? = some (.deferred (some [])) -> Q .normal { a with defers := { target := .collected D, args := #[] } :: a.defers } W)
   (hstop : ∀ (D : Nat) (c : Code) (pre : List α) (W : World), w.heap.size <= D -> Sp pre -> Ix c pre W -> W.heap[D]? = some (.deferred (some [])) -> c.wpIn F n P Q { a with defers := { target := .collected D, args := #[] } :: a.defers } W) :
   (Code.rangeFunc g ps assign body).wpIn F n P Q a w := by
 refine wpIn_rangeFunc fun fn hfn => ?_
 rw [hro]
 obtain ⟨B, hB⟩ : ∃ B, w.heap.size = B := ⟨_, rfl⟩
 obtain ⟨rec, hrec⟩ : ∃ rec : LoopState -> Option Code -> Loop, rec = fun st pe => { state := st, pending := pe, fn, tmps := a.tmps, params := ps, assign, body, defers := w.heap.size } := ⟨_, rfl⟩
 obtain ⟨W1, hW1⟩ : ∃ W1, (w.alloc (.deferred (some []))).alloc (.loop (rec .ready none)) = W1 := ⟨_, rfl⟩
 have hs1 : W1.heap.size = B + 1 + 1 := by rw [<- hW1, <- hB]; simp
 have hlies : LoopLies B (rec .ready none) W1 := by
   subst hB
   refine ⟨?_, ?_⟩
   · rw [<- hW1]; have h := World.alloc_heap_new (w.alloc (.deferred (some []))) (.loop (rec .ready none)); rwa [World.size_alloc] at h
   · rw [<- hW1]; exact (Below.heap_alloc _ _ _ (by simp)).trans (World.alloc_heap_new w _)
 have hb1 : Below w.heap.size w W1 := by rw [<- hW1]; exact ((Below.refl _ w).alloc (Nat.le_refl _) _).alloc (by simp) _
 have hI1 : I fp₀ [] W1 := ownFrom_below' (hI fp₀) h0 hb1
 have own1 : ∀ {β : Type} {K : β -> World -> Prop}, OwnFrom w.heap.size K -> OwnFrom W1.heap.size K := fun h s A C row hs hg hr => h s A C row hs hg (fun r e => ⟨by have := (hr r e).1; omega, (hr r e).2⟩)
 have lies1 : ∀ {β : Type} (f : β -> Loop), OwnFrom W1.heap.size (fun (s : β) W => LoopLies B (f s) W) := fun f s A C row hs hg hr =>
   ⟨(hg.block _ (Array.getElem?_eq_some_iff.1 hs.rec_).1 (fun e => by have := (hr _ e.symm).1; omega)).trans hs.rec_, (hg.block _ (Array.getElem?_eq_some_iff.1 hs.def_).1 (fun e => by have := (hr _ e.symm).1; omega)).trans hs.def_⟩
 refine ⟨w.heap.size + 1, [{ target := .collected w.heap.size, args := #[] }], W1, { target := .fn (.func gf) lb, args := #[.func (.yield (w.heap.size + 1)) #[] #[]] }, W1, gf,
   #[.func (.yield (w.heap.size + 1)) #[] #[]] ++ lb, W1, ?_, ?_, ?_, ?_, fun _ => h1, ?_⟩
 · rw [<- hW1, hrec]; exact run_enterLoop_outer _ _ _ _ _
 · simp only [resolve, hg]
   simp [go_sem]
 · intro f' hf'; simp [Target.leads] at hf'; subst hf'; exact hFg
 · simp [invoke, go_sem, eg]
 rw [hB]
 refine (hseq (B + 1) (fun fp pre W => ∃ fq, (fp = fun k => fq k ∨ k = B + 1) /\ I fq pre W /\ LoopLies B (rec .ready none) W /\ FpOk fq W /\ ¬ fq B /\ ¬ fq (B + 1)) (fun pre W => ∃ c, Ix c pre W /\ LoopLies B (rec .done (some c)) W) W1 (fun k => fp₀ k ∨ k = B + 1) hb1
   (fun fp s A C row hs hg' hr => by
     obtain ⟨fq, e, h1, h2, h3, h4⟩ := hs
     exact ⟨fq, e, own1 (hI fq) s A C row h1 hg' hr, lies1 (fun _ : Unit => rec .ready none) () A C row h2 hg' hr, fun k hk => Nat.lt_of_lt_of_le (h3 k hk) hg'.size, h4⟩)
   (fun s A C row hs hg' hr => by
     obtain ⟨c, hc, hl⟩ := hs
     exact ⟨c, own1 (hIx c) s A C row hc hg' hr, lies1 (fun _ : Unit => rec .done (some c)) () A C row hl hg' hr⟩)
   (fun k hk => hk.elim .inl (fun e => .inr (by omega))) (fun k hk => hk.elim (fun e => by have := hfp k e; omega) (fun e => by omega))
   ?_ ⟨fp₀, rfl, hI1, hlies, fun k hk => by have := hfp k hk; omega, fun e => by have := hfp B e; omega, fun e => by have := hfp (B + 1) e; omega⟩).mono ?_
 · rintro fp pre x W ⟨fq, rfl, hi, hl, hok, hnB, hnB1⟩ hlen hfo hpx
   have hy := run_yield (P := P) (args := encs x) hl.rec_ (by rw [hrec]; exact hps x)
   rw [hrec] at hy
   have hBW := (Array.getElem?_eq_some_iff.1 hl.rec_).1
   refine ⟨fn, _, assign, body, hy, roundIn_of_wpIn hfn (hassign _ _ fq pre x W _ (by omega) hi hok (fun k hk => .inl hk) hlen hpx fun a' W2 hc2 hmid => ?_)⟩
   have hs2 := hc2.size
   have hl2 : LoopLies B (rec .ready none) W2 := ⟨(hc2.block _ hBW hnB1).trans hl.rec_, (hc2.block _ (by omega) hnB).trans hl.def_⟩
   have hok2 : FpOk fq W2 := fun k hk => Nat.lt_of_lt_of_le (hok k hk) hs2
   have hbusy := hl2.put { rec .ready none with state := .busy }
   have hmid3 := OwnFrom.putObj (hMid fq pre x a') (s := ()) (.loop { rec .ready none with state := .busy }) hmid (by omega) hl2.rec_ rfl
   have hok3 : FpOk fq (W2.putObj (B + 1) (.loop { rec .ready none with state := .busy })) := fun k hk => by simpa using hok2 k hk
   have hbg := run_beginRound (P := P) hl2.rec_ (by rw [hrec])
   refine ⟨_, hbg, wpIn_mono (hbody _ fq pre x _ hok3 hlen ⟨⟨_, hbusy.rec_⟩, by omega, hnB1⟩ a' hmid3) ?_⟩
   have hsz3 : (W2.putObj (B + 1) (.loop { rec .ready none with state := .busy })).heap.size = W2.heap.size := by simp
   have fin2 : ∀ (W3 : World) (o : Obj), Chg fq (W2.putObj (B + 1) (.loop { rec .ready none with state := .busy })) W3 -> Chg (fun k => fq k ∨ k = B + 1) W (W3.putObj (B + 1) o) := fun W3 o hc => by
     have a1 : Chg (fun k => fq k ∨ k = B + 1) W W2 := hc2.mono (fun k _ e => .inl e)
     have a2 : Chg (fun k => fq k ∨ k = B + 1) W2 (W2.putObj (B + 1) (.loop { rec .ready none with state := .busy })) := ⟨rfl, rfl, rfl, by simp, fun k hk hn => World.putObj_heap_other (fun e => hn (.inr e))⟩
     have a3 : Chg (fun k => fq k ∨ k = B + 1) (W2.putObj (B + 1) (.loop { rec .ready none with state := .busy })) W3 := hc.mono (fun k _ e => .inl e)
     have a4 : Chg (fun k => fq k ∨ k = B + 1) W3 (W3.putObj (B + 1) o) := ⟨rfl, rfl, rfl, by simp, fun k hk hn => World.putObj_heap_other (fun e => hn (.inr e))⟩
     exact ((a1.trans a2 (fun _ _ h => h)).trans a3 (fun _ _ h => h)).trans a4 (fun _ _ h => h)
   have fin : ∀ (jump : Option Code) (W3 : World), Chg fq (W2.putObj (B + 1) (.loop { rec .ready none with state := .busy })) W3 ->
       (Instr.endRound (B + 1) jump).run P W3 = .ok (.bool jump.isNone) (W3.putObj (B + 1) (.loop (rec (if jump.isNone then .ready else .done) jump))) /\
       W3.heap[B + 1]? = some (.loop { rec .ready none with state := .busy }) /\ LoopLies B (rec (if jump.isNone then .ready else .done) jump) (W3.putObj (B + 1) (.loop (rec (if jump.isNone then .ready else .done) jump))) := fun jump W3 hk3 => by
     have hl3 : LoopLies B { rec .ready none with state := .busy } W3 := ⟨(hk3.block _ (by omega) hnB1).trans hbusy.rec_, (hk3.block _ (by omega) hnB).trans hbusy.def_⟩
     have he := run_endRound (P := P) jump hl3.rec_
     exact ⟨by rw [hrec] at he ⊢; exact he, hl3.rec_, hl3.put _⟩
   rintro e a3 W3 hp
   cases e with
   | normal =>
     obtain ⟨fq', hi4, hg4⟩ := hp
     obtain ⟨hr, hl3, hl4⟩ := fin none W3 hg4.1
     have hg5 := hg4.plus (b := B + 1) (by omega)
     have g1 : GrowF (fun k => fq k ∨ k = B + 1) W (fun k => fq k ∨ k = B + 1) W2 := ⟨hc2.mono (fun k _ e => .inl e), fun k hk => ⟨.inl hk, Nat.lt_of_lt_of_le (hfo k hk) hs2⟩⟩
     have g2 := GrowF.put (l := B + 1) g1.ok (.inr rfl) (.loop { rec .ready none with state := .busy })
     have g3 := GrowF.put (l := B + 1) hg5.ok (.inr rfl) (.loop (rec .ready none))
     refine ⟨_, _, hr, .inl ⟨rfl, _, ⟨fq', rfl, (hI fq').putObj _ hi4 (by omega) hl3 rfl, hl4, fun k hk => by simpa using hg4.ok k hk, (hg4.keep (by omega) hnB).2, (hg4.keep (by omega) hnB1).2⟩, ((g1.trans g2).trans hg5).trans g3⟩⟩
   | ret =>
     obtain ⟨hr, hl3, hl4⟩ := fin (some .ret) W3 hp.1
     exact ⟨_, _, hr, .inr ⟨rfl, ⟨.ret, (hIx _).putObj _ hp.2 (by omega) hl3 rfl, hl4⟩, fin2 _ _ hp.1⟩⟩
   | exit id =>
     obtain ⟨hr, hl3, hl4⟩ := fin (some (.exit id)) W3 hp.1
     exact ⟨_, _, hr, .inr ⟨rfl, ⟨.exit id, (hIx _).putObj _ hp.2 (by omega) hl3 rfl, hl4⟩, fin2 _ _ hp.1⟩⟩
   | goto t =>
     obtain ⟨hr, hl3, hl4⟩ := fin (some (.goto t)) W3 hp.1
     exact ⟨_, _, hr, .inr ⟨rfl, ⟨.goto t, (hIx _).putObj _ hp.2 (by omega) hl3 rfl, hl4⟩, fin2 _ _ hp.1⟩⟩
   | panic ch => exact hp.elim
   | outgrown => exact hp.elim
 · rintro e W2 ⟨⟨v, rfl⟩, (⟨xs, fp, hS, fq, rfl, hi, hl, -⟩ | ⟨pre, hSp, c, hi, hl⟩)⟩
   · have he := run_endLoop (P := P) hl.rec_ (by rw [hrec]; simp)
     rw [hrec] at he
     exact ⟨none, _, he, hdone B fq xs _ (by omega) hS ((hI fq).putObj _ hi (by omega) hl.rec_ rfl) ((World.putObj_heap_other (by omega)).trans hl.def_)⟩
   · have he := run_endLoop (P := P) hl.rec_ (by rw [hrec]; simp)
     rw [hrec] at he
     exact ⟨some c, _, he, hstop B c pre _ (by omega) hSp ((hIx c).putObj _ hi (by omega) hl.rec_ rfl) ((World.putObj_heap_other (by omega)).trans hl.def_)⟩
end
end Go.Proofs.YtgcmbgniaffdlaaGreat
set_option maxRecDepth 100000
set_option linter.unusedSimpArgs false
namespace Go.Proofs.YtgcmbgniaffdlaaGreat
open Go.RowKit Go.Shelf
attribute [local go_sem] Oper.semAt_some
def Ob.free (x : Ob) (fp : Nat -> Prop) : Prop := (∀ ad, x.A = some ad -> ¬ fp ad.block) /\ (∀ ad, x.B = some ad -> ¬ fp ad.block) /\ (∀ ad, x.C = some ad -> ¬ fp ad.block)
def TellsF (its : List It) (fp : Nat -> Prop) (pre : List Ob) (x : Ob) (W : World) : Prop := TellsOb its pre x W /\ x.free fp
theorem Reads.grownF {W W' : World} {B size n : Nat} {A : Option Addr} {xs : List Value} {row : Option Nat} (h : Reads W B size A n xs) (hg : W.grownBy W' row) (hr : ∀ r, row = some r -> ∃ o : Obj, W.heap[r]? = some o /\ o.isCells = false) : Reads W' B size A n xs := by
 refine ⟨h.1, fun hn => ?_⟩
 obtain ⟨ad, e, hb, hc⟩ := h.2 hn
 exact ⟨ad, e, hb, fun j u hu => cell_kept (hc j u hu) hg hr⟩
theorem ObR.grown {W W' : World} {L : Nat} {A : Option Addr} {n c : Nat} {ws : List Int} {B : Option Addr} {m d : Nat} {rs : List Int} {C : Option Addr} {p q : Nat} {is : List Int} {row : Option Nat} (h : ObR W L A n c ws B m d rs C p q is) (hg : W.grownBy W' row) (hr : ∀ r, row = some r -> ∃ o : Obj, W.heap[r]? = some o /\ o.isCells = false) : ObR W' L A n c ws B m d rs C p q is :=
 ⟨h.wr.grownF hg hr, h.rr.grownF hg hr, h.ir.grownF hg hr, h.wc, h.rc, h.ic⟩
theorem tellsF_own (its : List It) (B : Nat) (fp : Nat -> Prop) (pre : List Ob) (x : Ob) : OwnFrom B (fun (_ : Unit) W => TellsF its fp pre x W) :=
 fun _ W W' row hs hg hr => ⟨⟨hs.1.1, (ObR.grown hs.1.2 hg (fun r e => (hr r e).2)).upto hg.size⟩, hs.2⟩
theorem ob_free {w2 : World} {base : Nat} {t : It} {A : Option Addr} {n c : Nat} {ws : List Int} {B : Option Addr} {m d : Nat} {rs : List Int} {C : Option Addr} {p q : Nat} {is : List Int} (h : ObOwn w2 base A n c ws B m d rs C p q is) {fp : Nat -> Prop} (hf : ∀ k, fp k -> k < base) : (⟨t, A, n, c, B, m, d, C, p, q⟩ : Ob).free fp := by
 refine ⟨fun ad e hk => ?_, fun ad e hk => ?_, fun ad e hk => ?_⟩
 · have e' : A = some ad := e
   subst e'
   have := (h.wo.lt ad.block rfl).1
   have := hf _ hk
   omega
 · have e' : B = some ad := e
   subst e'
   have := (h.ro.lt ad.block rfl).1
   have := hf _ hk
   omega
 · have e' : C = some ad := e
   subst e'
   have := (h.io.lt ad.block rfl).1
   have := hf _ hk
   omega
section
variable {base p : Nat} {S : Nat -> Prop} {i k d f h : Int} {m : IM} {bv sv : Value}
set_option maxHeartbeats 4000000 in
theorem follow_F (n : Nat) (hn : 1 <= n) (fp₀ : Nat -> Prop) (bw bk bp bm : Nat) (kd wd : Nat) (pl : Int) (its : List It) (w : World) (H : IX w base S p i k d f h m bv sv) (hbm : AreB m.b) (hl : m.b.length <= 1099511627776)
 (hd : 1 <= d /\ d <= 256) (hf : 1 <= f /\ f <= 256) (hS : ∀ j, S j -> j < w.heap.size /\ ¬ fp₀ j) (hbs : bw < w.heap.size /\ bk < w.heap.size /\ bp < w.heap.size /\ bm < w.heap.size) (hT : ¬ fp₀ bw /\ ¬ fp₀ bk /\ ¬ fp₀ bp /\ ¬ fp₀ bm)
 (hcw : w.cell? ⟨bw, 0, none⟩ = some (.int .i64 wd)) (hck : w.cell? ⟨bk, 0, none⟩ = some (.int .i64 kd)) (hcp : w.cell? ⟨bp, 0, none⟩ = some (.int .u64 pl)) (hcm : w.cell? ⟨bm, 0, none⟩ = some (.pointer (some ⟨p, 0, none⟩)))
 (hwd : wd < kwN kd) (hp : IsU pl) (hch : chainAt m d f kd wd 0 pl its) :
 SeqF Fence.wide n Tryz.prog 195 #[.pointer (some ⟨bw, 0, none⟩), .pointer (some ⟨bk, 0, none⟩), .pointer (some ⟨bp, 0, none⟩), .pointer (some ⟨bm, 0, none⟩)] (Ob.encs kd) (TellsF its) fp₀
 (fun xs => xs.map (·.t) = its) (fun pre => ∃ rest, pre.map (·.t) ++ rest = its) its.length w := by
 intro l J Jx W f1 hb hJ hJx hf1 hfok hY h0
 have hbw : Chg (fun k => w.heap.size <= k ∨ fp₀ k) w W := Chg.of_below hb (Nat.le_refl _) _
 have HW := H.keep hbw (fun j hj e => by have := hS j hj; exact e.elim (fun h => by omega) this.2)
 refine callsIn_of_wp Tryz.func195 rfl trivial ?_ rfl
 simp only [Tryz.ntmps195, List.size_toArray, List.length_cons, List.length_nil, Nat.reduceAdd, Nat.reduceSub, Array.replicate_succ, Array.replicate_zero, List.push_toArray, List.append_toArray, List.nil_append, List.cons_append]
 have c1 := (hb.cell (p := ⟨bw, 0, none⟩) (by simp; omega)).trans hcw
 have c2 := (hb.cell (p := ⟨bk, 0, none⟩) (by simp; omega)).trans hck
 have c3 := (hb.cell (p := ⟨bp, 0, none⟩) (by simp; omega)).trans hcp
 have hw0 : ¬ (wd : Int) < 0 := by omega
 have hw1 : ¬ (kwN kd : Int) <= (wd : Int) := by omega
 gi_wp2
 refine wpIn_wide.2 ?_
 have hw3 : decide ((wd : Int) < 0) = false := decide_eq_false (by omega)
 go_quiet ((refine (owords_any kd _).mono ?_; rintro e w1 ⟨rfl, rfl⟩; exact ⟨rfl, _, rfl⟩))
 gi_wp2
 refine wpIn_wide.2 ?_
 go_quiet (fail)
 gi_wp2
 have hw4 : decide (kwN (kd : Int) <= wd) = false := decide_eq_false (by omega)
 try simp only [hw4]
 gi_loopw [6, 7] (fun s6 s7 wr => ∃ (fp : Nat -> Prop) (pre : List Ob) (rest : List It) (last next : Int), s6 = .int .u64 last /\ s7 = .int .u64 next /\ pre.map (·.t) ++ rest = its /\ (0 <= last /\ last <= m.b.length) /\ IsU next /\ chainAt m d f kd wd last next rest /\ J fp pre wr /\ KeepC w.heap.size fp₀ w wr /\ FpOk fp wr /\ ∀ k, fp k -> fp₀ k ∨ w.heap.size <= k)
   (fun s6 _ _ => m.b.length + 1 - (intOf s6).toNat)
 case atStart =>
   exact ⟨f1, [], its, 0, pl, rfl, rfl, rfl, ⟨by omega, by omega⟩, hp, hch, ownFrom_below' (hJ f1) h0 (below_drewn (below_drewn (Below.refl _ _) _) _), hbw.trans (keepC_below (below_drewn (below_drewn (Below.refl _ _) _) _)) (fun _ _ h => h), hfok, fun k hk => (hf1 k hk).imp id (fun e => e.1)⟩
 case round =>
   obtain ⟨fp, pre, rest, last, next, rfl, rfl, hpre, hlast, hnext, hc, hJs, hkw, hfo, hff⟩ := hrel
   have HR := H.keep hkw (fun j hj e => by have := hS j hj; exact e.elim (fun h => by omega) this.2)
   have hcell : ∀ b v, b < w.heap.size -> ¬ fp₀ b -> w.cell? ⟨b, 0, none⟩ = some v -> wr.cell? ⟨b, 0, none⟩ = some v := fun b v h1 h2 h3 => (World.cell?_of_block (a := ⟨b, 0, none⟩) (hkw.block b (by omega) (fun e => e.elim (fun h => by omega) h2))).trans h3
   have cw := hcell bw _ hbs.1 hT.1 hcw
   have ck := hcell bk _ hbs.2.1 hT.2.1 hck
   have cm := hcell bm _ hbs.2.2.2 hT.2.2.2 hcm
   by_cases hlt : last < next
   · cases rest with
     | nil =>
       have hno : m.noAt d f kd next := hc.resolve_left (fun h => h hlt)
       have AT : Hid (Calls Tryz.prog 109 #[.pointer (some ⟨p, 0, none⟩), .int .u64 next, .int .i64 kd] wr fun e w' => e = .returned (.tuple #[obZ, .bool false]) /\ Below wr.heap.size wr w') := by
         rcases hno with hno | ⟨j, kk, s, rfl, hth, hne⟩
         · exact Lib.hid (iat_bare next kd wr HR hbm hl hd hf hnext.1 hno)
         · exact Lib.hid (iat_other j kk s kd wr HR hbm hl hd hf hth hne)
       gi_wp2_with (refine ⟨trivial, ?_⟩; gi_at_call 109; refine (callsIn_wide.2 AT.out).mono ?_; rintro e w2 ⟨rfl, hb2⟩)
       refine bodyPost_ret (results_none rfl _ _ _) rfl ?_
       exact ⟨⟨_, rfl⟩, .inl ⟨pre, fp, by rw [<- hpre]; simp, ownFrom_below' (hJ fp) hJs (hb2.trans ((boxed _ _).mono hb2.size))⟩⟩
     | cons t rest =>
       obtain ⟨-, rfl, hob, hc2⟩ := hc
       obtain ⟨s, hth, e1, e2, e3⟩ := hob
       have AT := Lib.hid (iat_yes t.j kd s wr HR hbm hl hd hf hth)
       gi_wp2_with (refine ⟨trivial, ?_⟩; gi_at_call 109; refine (callsIn_wide.2 AT.out).mono ?_; rintro e w2 ⟨A1, n1, c1', A2, n2, c2', A3, n3, c3', rfl, hb2, hown⟩; have hz := Blk.new w2 128 #[.int .i64 kd, .slice A1 n1 c1', .slice A2 n2 c2', .slice A3 n3 c3']; have z0 := hz.cell 0; have z1 := hz.cell 1; have z2 := hz.cell 2; have z3 := hz.cell 3)
       rw [e1, e2, e3] at hown
       have hrd := hown.reads
       have HFR : Hid (∀ fp : Nat -> Prop, FpOk fp wr -> (⟨t, A1, n1, c1', A2, n2, c2', A3, n3, c3'⟩ : Ob).free fp) := Lib.hid (fun fp hf => ob_free hown hf)
       have hn1 : n1 = t.ws.length := hrd.wr.len.symm
       have hn2 : t.ws.length = kwN kd := by rw [<- e1]; exact dW_length _ _
       obtain ⟨gb, off, rfl, hgb, hgc⟩ := hrd.wr.at2 (by omega) (by omega)
       have hg1 := hgc wd _ (cellsOf_get (by omega))
       have hB3 : Below w2.heap.size w2 (w2.alloc (.cells #[.int .i64 kd, .slice (some ⟨gb, off, none⟩) n1 c1', .slice A2 n2 c2', .slice A3 n3 c3'] 128)) := boxed _ _
       have hg2 := (hB3.cell (p := ⟨gb, off + wd, none⟩) hgb).trans hg1
       have cw2 := ((hb2.trans (hB3.mono hb2.size)).cell (p := ⟨bw, 0, none⟩) (by have := hkw.size; show bw < _; omega)).trans cw
       have hwn : wd < n1 := by omega
       obtain ⟨u, hu⟩ : ∃ u, t.ws.getD wd 0 = u := ⟨_, rfl⟩
       rw [hu] at hg1 hg2 hc2
       have HN := Lib.hid (And.intro hn1 hn2)
       clear hn1 hn2
       refine wpIn_wide.2 ?_
       have cwA := (hb2.cell (p := ⟨bw, 0, none⟩) (by have := hkw.size; show bw < _; omega)).trans cw
       go_quiet (fail)
       have hB4 : Below wr.heap.size wr ((w2.alloc (.cells #[.int .i64 kd, .slice (some ⟨gb, off, none⟩) n1 c1', .slice A2 n2 c2', .slice A3 n3 c3'] 128)).drewN nq) := (hb2.trans (hB3.mono hb2.size)).trans ((below_drewn (Below.refl _ _) nq).mono (hb2.trans (hB3.mono hb2.size)).size)
       have hJ4 := ownFrom_below' (hJ fp) hJs hB4
       have hkw4 := keepC_t hkw (keepC_below (n₀ := w.heap.size) (T := fp₀) hB4)
       have hfo4 : FpOk fp ((w2.alloc (.cells #[.int .i64 kd, .slice (some ⟨gb, off, none⟩) n1 c1', .slice A2 n2 c2', .slice A3 n3 c3'] 128)).drewN nq) := fun k hk => Nat.lt_of_lt_of_le (hfo k hk) hB4.size
       have hfree : (⟨t, some ⟨gb, off, none⟩, n1, c1', A2, n2, c2', A3, n3, c3'⟩ : Ob).free fp := HFR.out fp hfo
       have hlies : (⟨t, some ⟨gb, off, none⟩, n1, c1', A2, n2, c2', A3, n3, c3'⟩ : Ob).lies ((w2.alloc (.cells #[.int .i64 kd, .slice (some ⟨gb, off, none⟩) n1 c1', .slice A2 n2 c2', .slice A3 n3 c3'] 128)).drewN nq) := (hrd.below (hB3.trans ((below_drewn (Below.refl _ _) nq).mono hB3.size)) (Nat.le_refl _)).upto (by simp)
       obtain ⟨fn, tmps, assign, body, hy, hR⟩ := hY fp pre ⟨t, some ⟨gb, off, none⟩, n1, c1', A2, n2, c2', A3, n3, c3'⟩ _ hJ4 (by rw [<- hpre]; simp) hfo4 ⟨⟨⟨rest, hpre⟩, hlies⟩, hfree⟩
       dsimp only [Ob.encs, Ob.v, obV] at hy
       have hroom := hth.2.1.room
       have ht2 := wrap_i64_of (x := t.j) (by omega) (by omega)
       have hUu : IsU u := by
         have := dW_bd (objB_bytes hbm t.j s) kd
         rw [e1] at this
         have hm : u ∈ t.ws := by rw [<- hu, List.getD_eq_getElem?_getD, List.getElem?_eq_getElem (by have := HN.out; omega)]; exact List.getElem_mem _
         exact this u hm
       gi_wp2
       refine hR.mono ?_
       rintro e W3 (⟨rfl, fp', hJ3, hg3⟩ | ⟨rfl, hJx3, -⟩)
       · gi_wp2
         go_roundw
         case rel => exact ⟨fp', pre ++ [⟨t, some ⟨gb, off, none⟩, n1, c1', A2, n2, c2', A3, n3, c3'⟩], rest, t.j, u, rfl, rfl, by rw [<- hpre]; simp, ⟨by omega, by omega⟩, hUu, hc2, hJ3, keepC_t hkw4 (hg3.1.mono (fun k _ e => (hff k e).symm)), hg3.ok, fun k hk => (hg3.2 k hk).1.elim (hff k) (fun e => .inr (by have := hkw4.size; omega))⟩
         case measure => simp [intOf]; omega
       · gi_wp2
         refine bodyPost_ret (results_none rfl _ _ _) rfl ?_
         have hsp : ∃ r, (pre ++ [(⟨t, some ⟨gb, off, none⟩, n1, c1', A2, n2, c2', A3, n3, c3'⟩ : Ob)]).map (·.t) ++ r = its := ⟨rest, by rw [<- hpre]; simp⟩
         exact ⟨⟨_, rfl⟩, .inr ⟨_, hsp, hJx3⟩⟩
   · have hnil : rest = [] := by
       cases rest with
       | nil => rfl
       | cons t rest => exact absurd hc.1 hlt
     subst hnil
     gi_wp2
     go_end0
     exact ⟨⟨_, rfl⟩, .inl ⟨pre, by rw [<- hpre]; simp, fp, hJs⟩⟩
end
attribute [local go_sem] Oper.semAt_some
theorem own_never {β : Type} {B : Nat} : OwnFrom B (fun (_ : β) (_ : World) => False) := fun s W W' row hs _ _ => hs
theorem own_row {β : Type} (n₀ B C : Nat) (t e : TypeId) (size : Nat) (k : β -> Nat) (f : β -> List Value) : OwnFrom C (fun (s : β) (W : World) => ∃ v, Boxed W B t v /\ W.ownsRow n₀ e size v (k s) (f s) /\ True) := Own.from (holdsRow_own n₀ B t e size k f (fun _ _ => True)) _
theorem wpListIn_append_at {F : Fence} {n : Nat} {P : Program} (w : World) {ops : Array Oper} {rest : List Oper} {o : Oper} {a : Act} {Q : Exit -> Act -> World -> Prop}
 (hg : o.guard = none) (s x : Operand) (t : TypeId) (hop : o.op = Op.call { callee := Callee.builtin Builtin.append, args := #[s, x], argTypes := #[t, t] })
   (base : Nat) (e : TypeId) (i : TypeInfo) (z : Value) (size bytes : Nat) (h1 : P.underlying t = some (.slice e)) (h2 : P.info? e = some i) (h3 : i.zero = some z) (h4 : i.size = size) (h5 : i.bytes = bytes) (h6 : z.cells.size = size) (h7 : 0 < size)
   (v : Value) (k : Nat) (xs : List Value) (hs : a.eval s = v) (hown : w.ownsRow base e size v k xs) (B : Nat) (A : Option Addr) (m c : Nat) (news : List Value) (hx : a.eval x = .slice A m c) (hr : Reads w B size A m news) (h1c : ∀ u ∈ news, u.oneCell' = true) (b1 : k + m <= maxLen) (b2 : (k + m) * bytes <= 140737488355328) (b3 : base <= w.heap.size)
   (hK : ∀ v' w', w'.ownsRow base e size v' (k + m) (xs ++ news) -> w.grownBy w' v.ownBlock -> (v'.ownBlock = v.ownBlock ∨ v'.ownBlock = some w.heap.size) -> wpListIn F n P ops Q rest (a.put o.dst v') w') :
   wpListIn F n P ops Q (o :: rest) a w := by
 refine wpListIn_plain hg fun K hK' => ?_
 obtain ⟨v', w', hrun, r1, r2, r3⟩ := run_append_any (P := P) w base t o.type e i z size bytes h1 h2 h3 h4 h5 h6 h7 v k xs hown B A m c news hr h1c b1 b2 b3
 unfold Oper.wpIn
 refine ⟨?_, ?_⟩
 · simp [Oper.about, hop, resolve, Target.leads, Sem.run_pure]
 · rw [Oper.semAt_plain F _ _ (by rw [hop]; intro c hc'; cases hc')]
   simp [execOp, hop, resolve, invoke, builtin, hs, hx, hrun, Result.andThen]
   exact hK' _ _ (hK v' w' r1 r2 r3)
def fpR (B : Nat) (v : Value) : Nat -> Prop := fun k => k = B ∨ v.ownBlock = some k
theorem appendedF {W w1 : World} {n₀ B : Nat} {t e : TypeId} {size : Nat} {v v' : Value} {k m : Nat} {xs ys : List Value} {tmp : Obj}
 (hv : Boxed W B t v) (hte : t ≠ e) (hrow : W.ownsRow n₀ e size v k xs) (hown' : w1.ownsRow n₀ e size v' m ys) (hgrow : (W.alloc tmp).grownBy w1 v.ownBlock) (hat : v'.ownBlock = v.ownBlock ∨ v'.ownBlock = some (W.alloc tmp).heap.size) :
 Boxed w1 B t v /\ Boxed (w1.setCell ⟨B, 0, none⟩ v') B t v' /\ (w1.setCell ⟨B, 0, none⟩ v').ownsRow n₀ e size v' m ys /\ GrowF (fpR B v) W (fpR B v') (w1.setCell ⟨B, 0, none⟩ v') := by
 obtain ⟨h1, h2, -, -, -⟩ := Boxed.appended hv hte (own_base hrow (Nat.zero_le _)) (Nat.zero_le _) (Nat.zero_le _) (own_base hown' (Nat.zero_le _)) hgrow
 have h3 : (w1.setCell ⟨B, 0, none⟩ v').ownsRow n₀ e size v' m ys := hown'.kept (grownBy_setCell' w1 B v') (.inr (h1.not_row hte hown').symm)
 have hs := hgrow.size
 have hsa : (W.alloc tmp).heap.size = W.heap.size + 1 := World.size_alloc _ _
 have hs2 : (w1.setCell ⟨B, 0, none⟩ v').heap.size = w1.heap.size := size_set _ _ _
 refine ⟨h1, h2, h3, ⟨hgrow.os, hgrow.tape, hgrow.output, by omega, fun j hj hn => ?_⟩, fun j hj => ?_⟩
 · refine (Below.heap_setCell w1 ⟨B, 0, none⟩ v' j (fun e => hn (.inl e))).trans ?_
   exact (hgrow.block j (by omega) (fun e => hn (.inr e.symm))).trans (Below.heap_alloc _ _ _ hj)
 · rcases hj with rfl | hj
   · exact ⟨.inl (.inl rfl), by have := h1.lt; omega⟩
   · have := (hown'.lt j hj).2
     refine ⟨?_, by omega⟩
     rcases hat with e | e
     · exact .inl (.inr (by rw [<- e]; exact hj))
     · rw [e] at hj; injection hj with hj; right; omega
def CollF {α : Type} (B n₀ : Nat) (t e : TypeId) (size : Nat) (f : α -> List Value) (w : World) (fq : Nat -> Prop) (pre : List α) (W : World) : Prop :=
 ∃ v, fq = fpR B v /\ Boxed W B t v /\ W.ownsRow n₀ e size v pre.length (pre.map f).flatten /\ Below n₀ w W
end Go.Proofs.YtgcmbgniaffdlaaGreat
