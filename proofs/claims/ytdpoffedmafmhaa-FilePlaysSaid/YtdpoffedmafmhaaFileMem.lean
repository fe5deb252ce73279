/-
  LAYER 6: HOW A FILE LIES IN MEMORY, the program's and the document's: a block of three cells, and the rows that they hold; what each of them keeps when something else turns.
-/
import Derived.Test.YtdpoffedmafmhaaChecked
import Derived.Test.YtdpoffedmafmhaaChg
import Derived.Test.YtdpoffedmafmhaaInfo
import Derived.Test.YtdpoffedmafmhaaFileMath
import Derived.Test.YtdpoffedmafmhaaSecFn
set_option linter.unusedVariables false
set_option linter.unusedSimpArgs false
namespace Go.Proofs.Ytdpoffedmafmhaa
open Go.RowKit

/-! ### rows -/
/-- Rows of elements of other types lie in other blocks. -/
theorem own_ne {w : World} {b b' : Nat} {e e' : TypeId} {size size' n m : Nat} {u v : Value} {xs ys : List Value} (h : w.ownsRow b e size u n xs) (h' : w.ownsRow b' e' size' v m ys) (hne : e ≠ e') : ∀ g, u.ownBlock = some g → v.ownBlock ≠ some g := by
  intro g hg hg'
  rcases h.2 with ⟨rfl, _⟩ | ⟨g1, c1, cur1, rfl, _, e1, _⟩
  · simp [Value.ownBlock] at hg
  · rcases h'.2 with ⟨rfl, _⟩ | ⟨g2, c2, cur2, rfl, _, e2, _⟩
    · simp [Value.ownBlock] at hg'
    · simp [Value.ownBlock] at hg hg'
      subst hg; subst hg'
      rw [e1] at e2
      injection e2 with e2
      injection e2 with _ e3
      exact absurd e3 hne
theorem own_blk {w : World} {b : Nat} {e : TypeId} {size n : Nat} {v : Value} {xs : List Value} {g : Nat} {t : TypeId} {cs : Array Value} (h : w.ownsRow b e size v n xs) (hb : Blk w g t cs) (hne : e ≠ t) : v.ownBlock ≠ some g := own_blk_ne h hb hne

/-- A row of the call's own, laid open: its block is known whole. -/
theorem own_open {w : World} {base n : Nat} {e : TypeId} {size : Nat} {A : Option Addr} {c : Nat} {xs : List Value} (h : w.ownsRow base e size (.slice A n c) n xs) (hn : 0 < n) :
    ∃ (g : Nat) (cur : List Value), A = some ⟨g, 0, none⟩ ∧ base ≤ g ∧ Blk w g e cur.toArray ∧ n ≤ c ∧ c ≤ maxLen ∧ cur.length = c * size ∧ cur.take (n * size) = xs := by
  rcases h.2 with ⟨_, h0⟩ | ⟨g, cap, cur, hv, hb, hg, hnc, hcm, hcs, ht⟩
  · omega
  · injection hv with h1 _ h3
    subst h1; subst h3
    exact ⟨g, cur.toList, rfl, hb, hg, hnc, hcm, by simpa using hcs, ht⟩
theorem own_shut {w : World} {base n c g : Nat} {e : TypeId} {size : Nat} {cur xs : List Value} (hb : base ≤ g) (hg : Blk w g e cur.toArray) (hnc : n ≤ c) (hcm : c ≤ maxLen) (hl : cur.length = c * size) (ht : cur.take (n * size) = xs) (hx : xs.length = n * size) :
    w.ownsRow base e size (.slice (some ⟨g, 0, none⟩) n c) n xs := ⟨hx, .inr ⟨g, c, _, rfl, hb, hg, hnc, hcm, by simpa using hl, by simpa using ht⟩⟩

/-- What a call has told in place of a row of the call's own: that row alone has turned; the new one lies where it lay, or in a new block. -/
def Reown (base : Nat) (v : Value) (zs : List Int) (w : World) (e : Ending) (w' : World) : Prop :=
  ∃ A c, e = .returned (.slice A zs.length c) ∧ w'.ownsRow base 5 1 (.slice A zs.length c) zs.length (cellsOf .u8 zs) ∧ Chg (fun k => v.ownBlock = some k) w w' ∧ Moved w v (.slice A zs.length c)

theorem Gives.moved {zs : List Int} {w w' : World} {e : Ending} (h : Gives zs w e w') {base : Nat} (hb : base ≤ w.heap.size) (v : Value) : v = .slice none 0 0 ∨ 0 < zs.length ∨ (∃ A c, e = .returned (.slice A zs.length c) ∧ A ≠ none) → Reown base v zs w e w' := fun hn => by
  obtain ⟨A, c, rfl, hown, hw⟩ := h
  refine ⟨A, c, rfl, own_base hown hb, Chg.of_below hw (Nat.le_refl _) _, ?_⟩
  cases hA : A with
  | some ad =>
    subst hA
    refine .inr ⟨ad.block, rfl, (hown.lt ad.block rfl).1⟩
  | none =>
    subst hA
    rcases hn with rfl | hn | ⟨A', c', he, hA'⟩
    · exact .inl rfl
    · obtain ⟨g, cap, hv, _⟩ := hown.form hn
      injection hv with hv
      cases hv
    · injection he with he
      injection he with he
      exact absurd he.symm hA'

/-! ### a step of the program's: 66 cells -/
def stepC (o : OpV) : List Value := .bool o.sz :: .int .i64 o.n :: cellsOf .u8 (sizeL o.data 64)
theorem stepC_length (o : OpV) : (stepC o).length = 66 := by unfold stepC; simp [cellsOf_length, sizeL_length]
def stepsC (ops : List OpV) : List Value := (ops.map stepC).flatten
theorem stepsC_append (a b : List OpV) : stepsC (a ++ b) = stepsC a ++ stepsC b := by unfold stepsC; rw [List.map_append, List.flatten_append]
theorem stepsC_one (o : OpV) : stepsC [o] = stepC o := by unfold stepsC; simp
theorem stepsC_length (ops : List OpV) : (stepsC ops).length = ops.length * 66 := by
  induction ops with
  | nil => rfl
  | cons o r ih =>
    show (stepsC ([o] ++ r)).length = _
    rw [stepsC_append, stepsC_one, List.length_append, stepC_length, ih, List.length_cons]; omega
theorem stepsC_get : ∀ (ops : List OpV) (i : Nat) (o : OpV) (j : Nat), ops[i]? = some o → j < 66 → (stepsC ops)[i * 66 + j]? = (stepC o)[j]?
  | [], i, o, j, h, _ => by simp at h
  | p :: r, 0, o, j, h, hj => by
    simp at h; subst h
    show (stepsC ([p] ++ r))[_]? = _
    rw [stepsC_append, stepsC_one, List.getElem?_append_left (by rw [stepC_length]; omega)]
    congr 1; omega
  | p :: r, i + 1, o, j, h, hj => by
    show (stepsC ([p] ++ r))[_]? = _
    rw [stepsC_append, stepsC_one, List.getElem?_append_right (by rw [stepC_length]; omega), stepC_length]
    rw [show (i + 1) * 66 + j - 66 = i * 66 + j by omega]
    exact stepsC_get r i o j (by simpa using h) hj
theorem stepC_oneCell (o : OpV) : ∀ u ∈ stepC o, u.oneCell' = true := fun u hu => by
  unfold stepC at hu
  rcases List.mem_cons.1 hu with rfl | hu
  · rfl
  rcases List.mem_cons.1 hu with rfl | hu
  · rfl
  exact cellsOf_one _ _ u hu

/-! ### the blocks of a file, and those that have come since -/
def grow (S : Nat → Prop) (w w' : World) : Nat → Prop := fun k => S k ∨ (w.heap.size ≤ k ∧ k < w'.heap.size)

theorem chg_lt {T : Nat → Prop} {w w' : World} {base : Nat} {S : Nat → Prop} (h : ∀ k, S k → base ≤ k ∧ k < w.heap.size) (hc : Chg T w w') (hb : base ≤ w.heap.size) : ∀ k, grow S w w' k → base ≤ k ∧ k < w'.heap.size := fun k hk => by
  have := hc.size
  rcases hk with hk | ⟨h1, h2⟩
  · have := h k hk; omega
  · omega

/-- The program's file. -/
structure CF (w : World) (base : Nat) (S : Nat → Prop) (p : Nat) (s : FS) (nv sv pv : Value) : Prop where
  foot : ∀ k, S k → base ≤ k ∧ k < w.heap.size
  bas : base ≤ w.heap.size
  inp : S p
  blk : Blk w p 50 #[nv, sv, pv]
  now : w.ownsRow base 5 1 nv s.now.length (cellsOf .u8 s.now)
  safe : w.ownsRow base 5 1 sv s.safe.length (cellsOf .u8 s.safe)
  pend : w.ownsRow base 57 66 pv s.ops.length (stepsC s.ops)
  inn : ∀ g, nv.ownBlock = some g → S g
  ins : ∀ g, sv.ownBlock = some g → S g
  ino : ∀ g, pv.ownBlock = some g → S g
  ne : ∀ g, nv.ownBlock = some g → sv.ownBlock ≠ some g

/-- An op of the document's. -/
def OpAt (w : World) (S : Nat → Prop) (nv : Value) (xs : List Value) (j : Nat) (o : OpV) : Prop :=
  ∃ A m c, xs[j * 3]? = some (.bool o.sz) ∧ xs[j * 3 + 1]? = some (.int .i64 o.n) ∧ xs[j * 3 + 2]? = some (.slice A m c) ∧ Reads w w.heap.size 1 A m (cellsOf .u8 o.data) ∧ m ≤ c ∧ c ≤ maxLen ∧
    (∀ ad, A = some ad → S ad.block ∧ nv.ownBlock ≠ some ad.block ∧ ∃ cs, Blk w ad.block 5 cs)

/-- The document's file. -/
structure RF (w : World) (base : Nat) (S : Nat → Prop) (p : Nat) (s : FS) (nv sv ov : Value) (xs : List Value) : Prop where
  foot : ∀ k, S k → base ≤ k ∧ k < w.heap.size
  bas : base ≤ w.heap.size
  inp : S p
  blk : Blk w p 29 #[nv, sv, ov]
  now : w.ownsRow base 5 1 nv s.now.length (cellsOf .u8 s.now)
  safe : w.ownsRow base 5 1 sv s.safe.length (cellsOf .u8 s.safe)
  pend : w.ownsRow base 66 3 ov s.ops.length xs
  ops : ∀ j o, s.ops[j]? = some o → OpAt w S nv xs j o
  inn : ∀ g, nv.ownBlock = some g → S g
  ins : ∀ g, sv.ownBlock = some g → S g
  ino : ∀ g, ov.ownBlock = some g → S g
  ne : ∀ g, nv.ownBlock = some g → sv.ownBlock ≠ some g

section
variable {w w1 w' : World} {base p : Nat} {S T : Nat → Prop} {s : FS} {nv sv pv v' : Value}

theorem CF.keep (h : CF w base S p s nv sv pv) (hc : Chg T w w') (hT : ∀ k, S k → ¬ T k) : CF w' base S p s nv sv pv :=
  ⟨fun k hk => by have := h.foot k hk; have := hc.size; omega, by have := h.bas; have := hc.size; omega, h.inp, h.blk.chg hc (hT p h.inp), own_chg h.now hc (fun g hg => hT g (h.inn g hg)), own_chg h.safe hc (fun g hg => hT g (h.ins g hg)),
    own_chg h.pend hc (fun g hg => hT g (h.ino g hg)), h.inn, h.ins, h.ino, h.ne⟩
theorem CF.below (h : CF w base S p s nv sv pv) (hb : Below w.heap.size w w') : CF w' base S p s nv sv pv := h.keep (Chg.of_below hb (Nat.le_refl _) (fun _ => False)) (fun _ _ h => h)
theorem CF.mono (h : CF w base S p s nv sv pv) (hS : ∀ k, S k → T k) (hT : ∀ k, T k → base ≤ k ∧ k < w.heap.size) : CF w base T p s nv sv pv :=
  ⟨hT, h.bas, hS p h.inp, h.blk, h.now, h.safe, h.pend, fun g hg => hS g (h.inn g hg), fun g hg => hS g (h.ins g hg), fun g hg => hS g (h.ino g hg), h.ne⟩
theorem CF.drewN (h : CF w base S p s nv sv pv) (n : Nat) : CF (w.drewN n) base S p s nv sv pv := ⟨h.foot, h.bas, h.inp, h.blk, h.now, h.safe, h.pend, h.inn, h.ins, h.ino, h.ne⟩
theorem CF.drew (h : CF w base S p s nv sv pv) : CF w.drew base S p s nv sv pv := ⟨h.foot, h.bas, h.inp, h.blk, h.now, h.safe, h.pend, h.inn, h.ins, h.ino, h.ne⟩
theorem CF.pn (h : CF w base S p s nv sv pv) : nv.ownBlock ≠ some p := own_blk_ne h.now h.blk (by decide)
theorem CF.ps (h : CF w base S p s nv sv pv) : sv.ownBlock ≠ some p := own_blk_ne h.safe h.blk (by decide)
theorem CF.pp (h : CF w base S p s nv sv pv) : pv.ownBlock ≠ some p := own_blk_ne h.pend h.blk (by decide)

/-- Other bytes. -/
theorem CF.setNow (h : CF w base S p s nv sv pv) {zs : List Int} (hown : w1.ownsRow base 5 1 v' zs.length (cellsOf .u8 zs)) (hc : Chg (fun k => nv.ownBlock = some k) w w1) (hm : Moved w nv v') :
    CF (w1.setCell ⟨p, 0, none⟩ v') base (grow S w w1) p ⟨zs, s.safe, s.ops⟩ v' sv pv := by
  have hb1 : Blk w1 p 50 #[nv, sv, pv] := h.blk.chg hc (fun e => h.pn e)
  have hs1 := own_chg h.safe hc (fun g hg e => h.ne g e hg)
  have hp1 := own_chg h.pend hc (fun g hg e => own_ne h.now h.pend (by decide) g e hg)
  have far : ∀ {e : TypeId} {size n : Nat} {u : Value} {ys : List Value}, w1.ownsRow base e size u n ys → e ≠ 50 → (w1.setCell ⟨p, 0, none⟩ v').ownsRow base e size u n ys := fun hu hne => ownsRow_setCell_other hu (own_blk_ne hu hb1 hne) _
  have hsz : (w1.setCell ⟨p, 0, none⟩ v').heap.size = w1.heap.size := by simp [World.setCell]
  have hv : ∀ g, v'.ownBlock = some g → g < w1.heap.size := fun g hg => (hown.lt g hg).2
  have hmv : ∀ g, v'.ownBlock = some g → nv.ownBlock = some g ∨ w.heap.size ≤ g := fun g hg => by
    rcases hm with e | ⟨k, e, hk⟩
    · exact .inl (by rw [← e]; exact hg)
    · rw [hg] at e; injection e with e; exact .inr (by omega)
  refine ⟨by rw [hsz]; exact chg_lt h.foot hc h.bas, by rw [hsz]; have := hc.size; have := h.bas; omega, .inl h.inp, by have := hb1.set_ 0 v'; simpa using this, far hown (by decide), far hs1 (by decide), far hp1 (by decide), ?_, fun g hg => .inl (h.ins g hg), fun g hg => .inl (h.ino g hg), ?_⟩
  · intro g hg
    rcases hmv g hg with e | e
    · exact .inl (h.inn g e)
    · exact .inr ⟨e, hv g hg⟩
  · intro g hg hs
    rcases hmv g hg with e | e
    · exact h.ne g e hs
    · have := (h.safe.lt g hs).2; omega

/-- One more of what was done. -/
theorem CF.push (h : CF w base S p s nv sv pv) {o : OpV} (hown : w1.ownsRow base 57 66 v' (s.ops.length + 1) (stepsC s.ops ++ stepC o)) (hc : Chg (fun k => pv.ownBlock = some k) w w1) (hm : Moved w pv v') :
    CF (w1.setCell ⟨p, 2, none⟩ v') base (grow S w w1) p ⟨s.now, s.safe, s.ops ++ [o]⟩ nv sv v' := by
  have hb1 : Blk w1 p 50 #[nv, sv, pv] := h.blk.chg hc (fun e => h.pp e)
  have hs1 := own_chg h.safe hc (fun g hg e => own_ne h.safe h.pend (by decide) g hg e)
  have hn1 := own_chg h.now hc (fun g hg e => own_ne h.now h.pend (by decide) g hg e)
  have far : ∀ {e : TypeId} {size n : Nat} {u : Value} {ys : List Value}, w1.ownsRow base e size u n ys → e ≠ 50 → (w1.setCell ⟨p, 2, none⟩ v').ownsRow base e size u n ys := fun hu hne => ownsRow_setCell_other hu (own_blk_ne hu hb1 hne) _
  have hsz : (w1.setCell ⟨p, 2, none⟩ v').heap.size = w1.heap.size := by simp [World.setCell]
  refine ⟨by rw [hsz]; exact chg_lt h.foot hc h.bas, by rw [hsz]; have := hc.size; have := h.bas; omega, .inl h.inp, by have := hb1.set_ 2 v'; simpa using this, far hn1 (by decide), far hs1 (by decide), ?_, fun g hg => .inl (h.inn g hg), fun g hg => .inl (h.ins g hg), ?_, h.ne⟩
  · rw [List.length_append, stepsC_append, stepsC_one]
    exact far hown (by decide)
  · intro g hg
    rcases hm with e | ⟨k, e, hk⟩
    · exact .inl (h.ino g (by rw [← e]; exact hg))
    · rw [hg] at e; injection e with e; subst e
      exact .inr ⟨hk, (hown.lt g hg).2⟩

/-- What there is is safe. -/
theorem CF.setSync (h : CF w base S p s nv sv pv) (hown : w1.ownsRow w.heap.size 5 1 v' s.now.length (cellsOf .u8 s.now)) (hc : Below w.heap.size w w1) :
    CF ((w1.setCell ⟨p, 1, none⟩ v').setCell ⟨p, 2, none⟩ (.slice none 0 0)) base (grow S w w1) p s.sync nv v' (.slice none 0 0) := by
  have h1 := h.below hc
  have hb1 := h1.blk
  have hb2 := (hb1.set_ 1 v').set_ 2 (.slice none 0 0)
  have far : ∀ {e : TypeId} {size n b : Nat} {u : Value} {ys : List Value}, w1.ownsRow b e size u n ys → e ≠ 50 → ((w1.setCell ⟨p, 1, none⟩ v').setCell ⟨p, 2, none⟩ (.slice none 0 0)).ownsRow b e size u n ys := fun hu hne =>
    ownsRow_setCell_other (ownsRow_setCell_other hu (own_blk_ne hu hb1 hne) _) (own_blk_ne (ownsRow_setCell_other hu (own_blk_ne hu hb1 hne) _) (hb1.set_ 1 v') hne) _
  have hsz : ((w1.setCell ⟨p, 1, none⟩ v').setCell ⟨p, 2, none⟩ (.slice none 0 0)).heap.size = w1.heap.size := by simp [World.setCell]
  refine ⟨by rw [hsz]; exact chg_lt h.foot (Chg.of_below hc (Nat.le_refl _) (fun _ => False)) h.bas, by rw [hsz]; exact h1.bas, .inl h.inp, by simpa using hb2, far h1.now (by decide), own_base (far hown (by decide)) h.bas, World.ownsRow_nil _ _ _ _, fun g hg => .inl (h.inn g hg), ?_, fun g hg => by simp [Value.ownBlock] at hg, ?_⟩
  · intro g hg
    have := hown.lt g hg
    exact .inr this
  · intro g hg hs
    have := hown.lt g hs
    have := h.now.lt g hg
    omega
end

end Go.Proofs.Ytdpoffedmafmhaa
