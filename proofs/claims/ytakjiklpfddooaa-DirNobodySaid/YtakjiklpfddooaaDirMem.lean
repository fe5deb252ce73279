/-
  LAYER 7: HOW A DIRECTORY LIES IN MEMORY, the program's and the document's: a block of three cells, the maps and the rows that they hold; what each of them keeps when something else turns.
-/
import Derived.Test.YtakjiklpfddooaaGrow
import Derived.Test.YtakjiklpfddooaaDirMap
set_option linter.unusedVariables false
set_option linter.unusedSimpArgs false
namespace Go.Proofs.Ytakjiklpfddooaa
open Go.RowKit

abbrev OpB := OpN ByteArray
abbrev DB := DN ByteArray
def opC (o : OpB) : List Value := [.int .i64 o.kind, .string o.a, .string o.b, .int .i64 o.id]
def opsC (ops : List OpB) : List Value := (ops.map opC).flatten
def nameC (p : ByteArray × Int) : List Value := [.string p.1, .int .i64 p.2]
def namesC (l : NmL) : List Value := (l.map nameC).flatten

section
variable {α : Type} {f : α → List Value} {n : Nat}
theorem flat_length (h : ∀ x, (f x).length = n) (l : List α) : ((l.map f).flatten).length = l.length * n := by
  induction l with
  | nil => simp
  | cons x r ih => simp only [List.map_cons, List.flatten_cons, List.length_append, List.length_cons, h, ih]; rw [Nat.add_mul]; omega
theorem flat_get (h : ∀ x, (f x).length = n) : ∀ (l : List α) (i : Nat) (x : α) (j : Nat), l[i]? = some x → j < n → ((l.map f).flatten)[i * n + j]? = (f x)[j]?
  | [], i, x, j, hi, _ => by simp at hi
  | y :: r, 0, x, j, hi, hj => by
    simp at hi; subst hi
    rw [List.map_cons, List.flatten_cons, List.getElem?_append_left (by rw [h]; omega)]
    congr 1; omega
  | y :: r, i + 1, x, j, hi, hj => by
    rw [List.map_cons, List.flatten_cons, List.getElem?_append_right (by rw [h, Nat.add_mul]; omega), h, show (i + 1) * n + j - n = i * n + j by rw [Nat.add_mul]; omega]
    exact flat_get h r i x j (by simpa using hi) hj
end
theorem opC_length (o : OpB) : (opC o).length = 4 := rfl
theorem nameC_length (p : ByteArray × Int) : (nameC p).length = 2 := rfl
theorem opsC_length (l : List OpB) : (opsC l).length = l.length * 4 := flat_length opC_length l
theorem namesC_length (l : NmL) : (namesC l).length = l.length * 2 := flat_length nameC_length l
theorem opsC_append (a b : List OpB) : opsC (a ++ b) = opsC a ++ opsC b := by unfold opsC; rw [List.map_append, List.flatten_append]
theorem namesC_append (a b : NmL) : namesC (a ++ b) = namesC a ++ namesC b := by unfold namesC; rw [List.map_append, List.flatten_append]
theorem opsC_one (o : OpB) : opsC [o] = opC o := by unfold opsC; simp
theorem namesC_one (p : ByteArray × Int) : namesC [p] = nameC p := by unfold namesC; simp
theorem opsC_get {l : List OpB} {i : Nat} {o : OpB} (h : l[i]? = some o) : (opsC l)[i * 4]? = some (.int .i64 o.kind) ∧ (opsC l)[i * 4 + 1]? = some (.string o.a) ∧ (opsC l)[i * 4 + 2]? = some (.string o.b) ∧ (opsC l)[i * 4 + 3]? = some (.int .i64 o.id) := by
  have g := fun j hj => flat_get opC_length l i o j h hj
  exact ⟨g 0 (by omega), g 1 (by omega), g 2 (by omega), g 3 (by omega)⟩
theorem namesC_get {l : NmL} {i : Nat} {p : ByteArray × Int} (h : l[i]? = some p) : (namesC l)[i * 2]? = some (.string p.1) ∧ (namesC l)[i * 2 + 1]? = some (.int .i64 p.2) := by
  have g := fun j hj => flat_get nameC_length l i p j h hj
  exact ⟨g 0 (by omega), g 1 (by omega)⟩
theorem opC_one (o : OpB) : ∀ u ∈ opC o, u.oneCell' = true := fun u hu => by
  simp [opC] at hu
  rcases hu with rfl | rfl | rfl | rfl <;> rfl
theorem nameC_one (p : ByteArray × Int) : ∀ u ∈ nameC p, u.oneCell' = true := fun u hu => by
  simp [nameC] at hu
  rcases hu with rfl | rfl <;> rfl

/-- An op as the program keeps it: what its kind doesn't ask for is empty. -/
def normO (o : OpB) : OpB := if o.kind = 0 then ⟨0, o.a, ⟨#[]⟩, o.id⟩ else if o.kind = 1 then ⟨1, o.a, o.b, 0⟩ else ⟨2, o.a, ⟨#[]⟩, 0⟩
theorem did_norm (l : NmL) (o : OpB) : didN cfT l (normO o) = didN cfT l o := by
  unfold normO
  split
  · next h => unfold didN; rw [if_pos h, if_pos rfl]
  · next h0 =>
    split
    · next h1 => unfold didN; rw [if_neg h0, if_neg (show ¬ (1 : Int) = 0 by omega)]; cases getN l o.a <;> simp [h1]
    · next h1 => unfold didN; rw [if_neg h0, if_neg (show ¬ (2 : Int) = 0 by omega)]; cases getN l o.a <;> simp [h1]

/-- The program's directory. -/
structure CD (w : World) (base : Nat) (S : Nat → Prop) (p : Nat) (s : DB) (bn bs : Nat) (pv : Value) : Prop where
  foot : ∀ k, S k → base ≤ k ∧ k < w.heap.size
  bas : base ≤ w.heap.size
  inp : S p
  blk : Blk w p 50 #[.map (some bn), .map (some bs), pv]
  now : MapAt w bn s.now
  safe : MapAt w bs s.safe
  pend : w.ownsRow base 66 4 pv s.ops.length (opsC (s.ops.map normO))
  inn : S bn
  ins : S bs
  ino : ∀ g, pv.ownBlock = some g → S g
  ne : bn ≠ bs

/-- The document's directory. -/
structure RD (w : World) (base : Nat) (S : Nat → Prop) (p : Nat) (s : DB) (nv sv ov : Value) : Prop where
  foot : ∀ k, S k → base ≤ k ∧ k < w.heap.size
  bas : base ≤ w.heap.size
  inp : S p
  blk : Blk w p 29 #[nv, sv, ov]
  now : w.ownsRow base 64 2 nv s.now.length (namesC s.now)
  safe : w.ownsRow base 64 2 sv s.safe.length (namesC s.safe)
  pend : w.ownsRow base 59 4 ov s.ops.length (opsC s.ops)
  inn : ∀ g, nv.ownBlock = some g → S g
  ins : ∀ g, sv.ownBlock = some g → S g
  ino : ∀ g, ov.ownBlock = some g → S g

section
variable {w w1 w' : World} {base p bn bs : Nat} {S T : Nat → Prop} {s : DB} {pv nv sv ov v' : Value} {l' : NmL}

theorem CD.keep (h : CD w base S p s bn bs pv) (hc : Chg T w w') (hT : ∀ k, S k → ¬ T k) : CD w' base S p s bn bs pv :=
  ⟨fun k hk => by have := h.foot k hk; have := hc.size; omega, by have := h.bas; have := hc.size; omega, h.inp, h.blk.chg hc (hT p h.inp), h.now.chg hc (hT _ h.inn), h.safe.chg hc (hT _ h.ins),
    own_chg h.pend hc (fun g hg => hT g (h.ino g hg)), h.inn, h.ins, h.ino, h.ne⟩
theorem CD.below (h : CD w base S p s bn bs pv) (hb : Below w.heap.size w w') : CD w' base S p s bn bs pv := h.keep (Chg.of_below hb (Nat.le_refl _) (fun _ => False)) (fun _ _ h => h)
theorem CD.mono (h : CD w base S p s bn bs pv) (hS : ∀ k, S k → T k) (hT : ∀ k, T k → base ≤ k ∧ k < w.heap.size) : CD w base T p s bn bs pv :=
  ⟨hT, h.bas, hS p h.inp, h.blk, h.now, h.safe, h.pend, hS _ h.inn, hS _ h.ins, fun g hg => hS g (h.ino g hg), h.ne⟩
theorem CD.pp (h : CD w base S p s bn bs pv) : pv.ownBlock ≠ some p := own_blk_ne h.pend h.blk (by decide)
theorem CD.np (h : CD w base S p s bn bs pv) : bn ≠ p := h.now.ne_blk h.blk
theorem CD.sp (h : CD w base S p s bn bs pv) : bs ≠ p := h.safe.ne_blk h.blk
theorem CD.cells (h : CD w base S p s bn bs pv) (hb : Below w.heap.size w w1) : w1.cell? ⟨p, 0, none⟩ = some (.map (some bn)) ∧ w1.cell? ⟨p, 1, none⟩ = some (.map (some bs)) ∧ w1.cell? ⟨p, 2, none⟩ = some pv ∧ w1.frozen? ⟨p, 2, none⟩ = false := by
  have hb : Blk w1 p 50 #[.map (some bn), .map (some bs), pv] := (h.below hb).blk
  exact ⟨hb.cell 0, hb.cell 1, hb.cell 2, hb.frozen 2⟩
/-- The map of the names as they are has turned. -/
theorem CD.setNow (h : CD w base S p s bn bs pv) (hm : MapAt w1 bn l') (hc : Chg (fun k => k = bn) w w1) : CD w1 base S p ⟨l', s.safe, s.ops⟩ bn bs pv :=
  ⟨fun k hk => by have := h.foot k hk; have := hc.size; omega, by have := h.bas; have := hc.size; omega, h.inp, h.blk.chg hc (fun e => h.np e.symm), hm, h.safe.chg hc (fun e => h.ne e.symm), own_chg h.pend hc (fun g hg e => h.now.ne_own h.pend hg e.symm), h.inn, h.ins, h.ino, h.ne⟩
/-- The map of what is safe has turned. -/
theorem CD.setSafe (h : CD w base S p s bn bs pv) (hm : MapAt w1 bs l') (hc : Chg (fun k => k = bs) w w1) : CD w1 base S p ⟨s.now, l', s.ops⟩ bn bs pv :=
  ⟨fun k hk => by have := h.foot k hk; have := hc.size; omega, by have := h.bas; have := hc.size; omega, h.inp, h.blk.chg hc (fun e => h.sp e.symm), h.now.chg hc (fun e => h.ne e), hm, own_chg h.pend hc (fun g hg e => h.safe.ne_own h.pend hg e.symm), h.inn, h.ins, h.ino, h.ne⟩
/-- One more of what was done. -/
theorem CD.push (h : CD w base S p s bn bs pv) {o : OpB} (hown : w1.ownsRow base 66 4 v' (s.ops.length + 1) (opsC (s.ops.map normO) ++ opC (normO o))) (hc : Chg (fun k => pv.ownBlock = some k) w w1) (hm : Moved w pv v') :
    CD (w1.setCell ⟨p, 2, none⟩ v') base (grow S w w1) p ⟨s.now, s.safe, s.ops ++ [o]⟩ bn bs v' := by
  have hb1 : Blk w1 p 50 #[.map (some bn), .map (some bs), pv] := h.blk.chg hc (fun e => h.pp e)
  have hn1 := h.now.chg hc (fun e => h.now.ne_own h.pend e rfl)
  have hs1 := h.safe.chg hc (fun e => h.safe.ne_own h.pend e rfl)
  have hsz := size_set w1 ⟨p, 2, none⟩ v'
  refine ⟨by rw [hsz]; exact chg_lt h.foot hc h.bas, by rw [hsz]; have := hc.size; have := h.bas; omega, .inl h.inp, by have := hb1.set_ 2 v'; simpa using this, hn1.chg (chg_set _ _ _) (fun e => h.np e), hs1.chg (chg_set _ _ _) (fun e => h.sp e), ?_, .inl h.inn, .inl h.ins, ?_, h.ne⟩
  · rw [List.length_append, List.map_append, opsC_append, List.map_cons, List.map_nil, opsC_one]
    exact ownsRow_setCell_other hown (own_blk_ne hown hb1 (by decide)) _
  · intro g hg
    rcases hm with e | ⟨k, e, hk⟩
    · exact .inl (h.ino g (by rw [← e]; exact hg))
    · rw [hg] at e; injection e with e; subst e
      exact .inr ⟨hk, (hown.lt g hg).2⟩
/-- Nothing is pending. -/
theorem CD.clear (h : CD w base S p s bn bs pv) : CD (w.setCell ⟨p, 2, none⟩ (.slice none 0 0)) base S p ⟨s.now, s.safe, []⟩ bn bs (.slice none 0 0) := by
  have hsz := size_set w ⟨p, 2, none⟩ (.slice none 0 0)
  refine ⟨by rw [hsz]; exact h.foot, by rw [hsz]; exact h.bas, h.inp, by have := h.blk.set_ 2 (.slice none 0 0); simpa using this, h.now.chg (chg_set _ _ _) (fun e => h.np e), h.safe.chg (chg_set _ _ _) (fun e => h.sp e), World.ownsRow_nil _ _ _ _, h.inn, h.ins, fun g hg => by simp [Value.ownBlock] at hg, h.ne⟩

theorem RD.keep (h : RD w base S p s nv sv ov) (hc : Chg T w w') (hT : ∀ k, S k → ¬ T k) : RD w' base S p s nv sv ov :=
  ⟨fun k hk => by have := h.foot k hk; have := hc.size; omega, by have := h.bas; have := hc.size; omega, h.inp, h.blk.chg hc (hT p h.inp), own_chg h.now hc (fun g hg => hT g (h.inn g hg)), own_chg h.safe hc (fun g hg => hT g (h.ins g hg)),
    own_chg h.pend hc (fun g hg => hT g (h.ino g hg)), h.inn, h.ins, h.ino⟩
theorem RD.below (h : RD w base S p s nv sv ov) (hb : Below w.heap.size w w') : RD w' base S p s nv sv ov := h.keep (Chg.of_below hb (Nat.le_refl _) (fun _ => False)) (fun _ _ h => h)
theorem RD.mono (h : RD w base S p s nv sv ov) (hS : ∀ k, S k → T k) (hT : ∀ k, T k → base ≤ k ∧ k < w.heap.size) : RD w base T p s nv sv ov :=
  ⟨hT, h.bas, hS p h.inp, h.blk, h.now, h.safe, h.pend, fun g hg => hS g (h.inn g hg), fun g hg => hS g (h.ins g hg), fun g hg => hS g (h.ino g hg)⟩
theorem RD.pn (h : RD w base S p s nv sv ov) : nv.ownBlock ≠ some p := own_blk_ne h.now h.blk (by decide)
theorem RD.ps (h : RD w base S p s nv sv ov) : sv.ownBlock ≠ some p := own_blk_ne h.safe h.blk (by decide)
theorem RD.pp (h : RD w base S p s nv sv ov) : ov.ownBlock ≠ some p := own_blk_ne h.pend h.blk (by decide)
theorem RD.cells (h : RD w base S p s nv sv ov) (hb : Below w.heap.size w w1) : w1.cell? ⟨p, 0, none⟩ = some nv ∧ w1.cell? ⟨p, 1, none⟩ = some sv ∧ w1.cell? ⟨p, 2, none⟩ = some ov ∧ w1.frozen? ⟨p, 0, none⟩ = false ∧ w1.frozen? ⟨p, 1, none⟩ = false ∧ w1.frozen? ⟨p, 2, none⟩ = false := by
  have hb : Blk w1 p 29 #[nv, sv, ov] := (h.below hb).blk
  exact ⟨hb.cell 0, hb.cell 1, hb.cell 2, hb.frozen 0, hb.frozen 1, hb.frozen 2⟩
/-- A row whose block is none of a kind stays when a cell of that kind is set. -/
theorem own_far {w : World} {g i : Nat} {t : TypeId} {cs : Array Value} (hb : Blk w g t cs) {e : TypeId} {b size n : Nat} {u : Value} {ys : List Value} (hu : w.ownsRow b e size u n ys) (hne : e ≠ t) (x : Value) : (w.setCell ⟨g, i, none⟩ x).ownsRow b e size u n ys := ownsRow_setCell_other hu (own_blk_ne hu hb hne) _
/-- Other names. -/
theorem RD.setNow (h : RD w base S p s nv sv ov) (hown : w1.ownsRow base 64 2 v' l'.length (namesC l')) (hc : Below w.heap.size w w1) (hm : ∀ g, v'.ownBlock = some g → nv.ownBlock = some g ∨ w.heap.size ≤ g) :
    RD (w1.setCell ⟨p, 0, none⟩ v') base (grow S w w1) p ⟨l', s.safe, s.ops⟩ v' sv ov := by
  have h1 := h.below hc
  have hsz := size_set w1 ⟨p, 0, none⟩ v'
  refine ⟨by rw [hsz]; exact chg_lt h.foot (Chg.of_below hc (Nat.le_refl _) (fun _ => False)) h.bas, by rw [hsz]; exact h1.bas, .inl h.inp, by have := h1.blk.set_ 0 v'; simpa using this, own_far h1.blk hown (by decide) _, own_far h1.blk h1.safe (by decide) _, own_far h1.blk h1.pend (by decide) _, ?_, fun g hg => .inl (h.ins g hg), fun g hg => .inl (h.ino g hg)⟩
  intro g hg
  rcases hm g hg with e | e
  · exact .inl (h.inn g e)
  · exact .inr ⟨e, (hown.lt g hg).2⟩
/-- One more of what was done. -/
theorem RD.push (h : RD w base S p s nv sv ov) {o : OpB} (hown : w1.ownsRow base 59 4 v' (s.ops.length + 1) (opsC s.ops ++ opC o)) (hc : Chg (fun k => ov.ownBlock = some k) w w1) (hm : Moved w ov v') :
    RD (w1.setCell ⟨p, 2, none⟩ v') base (grow S w w1) p ⟨s.now, s.safe, s.ops ++ [o]⟩ nv sv v' := by
  have hb1 : Blk w1 p 29 #[nv, sv, ov] := h.blk.chg hc (fun e => h.pp e)
  have hs1 := own_chg h.safe hc (fun g hg e => own_ne h.safe h.pend (by decide) g hg e)
  have hn1 := own_chg h.now hc (fun g hg e => own_ne h.now h.pend (by decide) g hg e)
  have hsz := size_set w1 ⟨p, 2, none⟩ v'
  refine ⟨by rw [hsz]; exact chg_lt h.foot hc h.bas, by rw [hsz]; have := hc.size; have := h.bas; omega, .inl h.inp, by have := hb1.set_ 2 v'; simpa using this, own_far hb1 hn1 (by decide) _, own_far hb1 hs1 (by decide) _, ?_, fun g hg => .inl (h.inn g hg), fun g hg => .inl (h.ins g hg), ?_⟩
  · rw [List.length_append, opsC_append, opsC_one]
    exact own_far hb1 hown (by decide) _
  · intro g hg
    rcases hm with e | ⟨k, e, hk⟩
    · exact .inl (h.ino g (by rw [← e]; exact hg))
    · rw [hg] at e; injection e with e; subst e
      exact .inr ⟨hk, (hown.lt g hg).2⟩
/-- What there is is safe; nothing is pending. -/
theorem RD.setSync (h : RD w base S p s nv sv ov) : RD ((w.setCell ⟨p, 1, none⟩ nv).setCell ⟨p, 2, none⟩ (.slice none 0 0)) base S p s.sync nv nv (.slice none 0 0) := by
  have hb2 := (h.blk.set_ 1 nv).set_ 2 (.slice none 0 0)
  have hsz : ((w.setCell ⟨p, 1, none⟩ nv).setCell ⟨p, 2, none⟩ (.slice none 0 0)).heap.size = w.heap.size := by rw [size_set, size_set]
  have hn := own_far (i := 2) (h.blk.set_ 1 nv) (own_far (i := 1) h.blk h.now (by decide) nv) (by decide) (.slice none 0 0)
  exact ⟨by rw [hsz]; exact h.foot, by rw [hsz]; exact h.bas, h.inp, by simpa using hb2, hn, hn, World.ownsRow_nil _ _ _ _, h.inn, h.inn, fun g hg => by simp [Value.ownBlock] at hg⟩
end

/-- The program's directory has turned: of the blocks that were there its own alone have. -/
def CDT (base : Nat) (S : Nat → Prop) (p : Nat) (s' : DB) (w w' : World) : Prop := Chg S w w' ∧ ∃ bn bs pv, CD w' base (grow S w w') p s' bn bs pv
/-- A function has told a directory of its own; what was there has not turned. -/
def CDnew (base : Nat) (s : DB) (w : World) (e : Ending) (w' : World) : Prop :=
  ∃ p bn bs pv, e = .returned (.pointer (some ⟨p, 0, none⟩)) ∧ Below w.heap.size w w' ∧ CD w' base (fun k => w.heap.size ≤ k ∧ k < w'.heap.size) p s bn bs pv
/-- The document's directory has turned. -/
def RDT (base : Nat) (S : Nat → Prop) (p : Nat) (s' : DB) (w w' : World) : Prop := Chg S w w' ∧ ∃ nv sv ov, RD w' base (grow S w w') p s' nv sv ov
def RDnew (base : Nat) (s : DB) (w : World) (e : Ending) (w' : World) : Prop :=
  ∃ p nv sv ov, e = .returned (.pointer (some ⟨p, 0, none⟩)) ∧ Below w.heap.size w w' ∧ RD w' base (fun k => w.heap.size ≤ k ∧ k < w'.heap.size) p s nv sv ov

section
variable {w w' : World} {base p bn bs : Nat} {S S' : Nat → Prop} {s : DB} {pv nv sv ov : Value}
theorem CDT.of (hc : Chg S w w') (h : CD w' base S' p s bn bs pv) (hS : ∀ k, S' k → S k ∨ w.heap.size ≤ k) (hf : ∀ k, S k → base ≤ k ∧ k < w.heap.size) (hb : base ≤ w.heap.size) : CDT base S p s w w' :=
  ⟨hc, bn, bs, pv, h.mono (fun k hk => by
    have := (h.foot k hk).2
    rcases hS k hk with h1 | h1
    · exact .inl h1
    · exact .inr ⟨h1, this⟩) (chg_lt hf hc hb)⟩
theorem CDT.same (h : CD w base S p s bn bs pv) : CDT base S p s w w := CDT.of (Chg.refl _ _) h (fun _ h => .inl h) h.foot h.bas
theorem RDT.of (hc : Chg S w w') (h : RD w' base S' p s nv sv ov) (hS : ∀ k, S' k → S k ∨ w.heap.size ≤ k) (hf : ∀ k, S k → base ≤ k ∧ k < w.heap.size) (hb : base ≤ w.heap.size) : RDT base S p s w w' :=
  ⟨hc, nv, sv, ov, h.mono (fun k hk => by
    have := (h.foot k hk).2
    rcases hS k hk with h1 | h1
    · exact .inl h1
    · exact .inr ⟨h1, this⟩) (chg_lt hf hc hb)⟩
theorem RDT.same (h : RD w base S p s nv sv ov) : RDT base S p s w w := RDT.of (Chg.refl _ _) h (fun _ h => .inl h) h.foot h.bas
end

end Go.Proofs.Ytakjiklpfddooaa
