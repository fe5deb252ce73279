/-
  PLAIN MATHEMATICS FOR LAYER 7, of no program: names with their files as lists that rise; a name more, a name less, what is done to them; each told by what is found under every name.
-/
import Derived.Test.YtakjiklpfddooaaItemMath
set_option linter.unusedVariables false
namespace Go.Proofs.Ytakjiklpfddooaa

section
variable {α : Type} {cf : α → α → Int}

/-- A name ahead of the first greater one. -/
def insN (cf : α → α → Int) : List (α × Int) → α → Int → List (α × Int)
  | [], x, i => [(x, i)]
  | p :: r, x, i => if cf x p.1 < 0 then (x, i) :: p :: r else p :: insN cf r x i
def namesN (l : List (α × Int)) : List α := l.map (·.1)
theorem ins_mem : ∀ (l : List (α × Int)) (x : α) (i : Int) (p : α × Int), p ∈ insN cf l x i → p = (x, i) ∨ p ∈ l
  | [], x, i, p, h => by simp [insN] at h; exact .inl h
  | q :: r, x, i, p, h => by
    unfold insN at h
    split at h
    · rcases List.mem_cons.1 h with h | h
      · exact .inl h
      · exact .inr h
    · rcases List.mem_cons.1 h with h | h
      · exact .inr (h ▸ List.mem_cons_self)
      · rcases ins_mem r x i p h with h | h
        · exact .inl h
        · exact .inr (List.mem_cons_of_mem _ h)
/-- The names rise. -/
def RiseN (cf : α → α → Int) (l : List (α × Int)) : Prop := l.Pairwise fun p q => cf p.1 q.1 < 0
theorem RiseN.names {l : List (α × Int)} (h : RiseN cf l) : Rises cf (namesN l) := by
  unfold Rises namesN
  rw [List.pairwise_map]
  exact h
/-- One more goes by: out, and whether the name has been put. -/
def wStep (cf : α → α → Int) (x : α) (i : Int) (st : List (α × Int) × Bool) (p : α × Int) : List (α × Int) × Bool :=
  if st.2 = false ∧ cf x p.1 < 0 then (st.1 ++ [(x, i), p], true) else (st.1 ++ [p], st.2)
def wRun (cf : α → α → Int) (x : α) (i : Int) (l : List (α × Int)) : List (α × Int) × Bool := l.foldl (wStep cf x i) ([], false)
theorem wRun_snoc (x : α) (i : Int) (l : List (α × Int)) (p : α × Int) : wRun cf x i (l ++ [p]) = wStep cf x i (wRun cf x i l) p := by unfold wRun; rw [List.foldl_append]; rfl
theorem wRun_next (x : α) (i : Int) {l : List (α × Int)} {k : Nat} (hk : k < l.length) : wRun cf x i (l.take (k + 1)) = wStep cf x i (wRun cf x i (l.take k)) l[k] := by
  rw [List.take_succ_eq_append_getElem hk, wRun_snoc]
theorem wStep_done (x : α) (i : Int) : ∀ (r : List (α × Int)) (out : List (α × Int)), r.foldl (wStep cf x i) (out, true) = (out ++ r, true)
  | [], out => by simp
  | p :: r, out => by
    rw [List.foldl_cons]
    have : wStep cf x i (out, true) p = (out ++ [p], true) := by unfold wStep; rw [if_neg (fun hh => by cases hh.1)]
    rw [this, wStep_done x i r]; simp
theorem wRun_ins (x : α) (i : Int) : ∀ (l out : List (α × Int)), (if (l.foldl (wStep cf x i) (out, false)).2 = true then (l.foldl (wStep cf x i) (out, false)).1 else (l.foldl (wStep cf x i) (out, false)).1 ++ [(x, i)]) = out ++ insN cf l x i
  | [], out => by simp [insN]
  | p :: r, out => by
    rw [List.foldl_cons]
    unfold insN
    by_cases h : cf x p.1 < 0
    · have : wStep cf x i (out, false) p = (out ++ [(x, i), p], true) := by unfold wStep; rw [if_pos ⟨rfl, h⟩]
      rw [this, wStep_done, if_pos h]; simp
    · have : wStep cf x i (out, false) p = (out ++ [p], false) := by unfold wStep; rw [if_neg (fun hh => h hh.2)]
      rw [this, if_neg h, wRun_ins x i r]; simp
theorem wRun_all (x : α) (i : Int) (l : List (α × Int)) : (if (wRun cf x i l).2 = true then (wRun cf x i l).1 else (wRun cf x i l).1 ++ [(x, i)]) = insN cf l x i := by
  have := wRun_ins (cf := cf) x i l []
  rw [List.nil_append] at this
  exact this
end

section
variable {α : Type} [DecidableEq α] {cf : α → α → Int}

/-- What is found under a name. -/
def getN : List (α × Int) → α → Option Int
  | [], _ => none
  | p :: r, x => if p.1 = x then some p.2 else getN r x
/-- The list without a name. -/
def woN : List (α × Int) → α → List (α × Int)
  | [], _ => []
  | p :: r, x => if p.1 = x then woN r x else p :: woN r x
def withN (cf : α → α → Int) (l : List (α × Int)) (x : α) (i : Int) : List (α × Int) := insN cf (woN l x) x i
theorem getN_nil (x : α) : getN ([] : List (α × Int)) x = none := rfl
theorem getN_cons (p : α × Int) (r : List (α × Int)) (x : α) : getN (p :: r) x = if p.1 = x then some p.2 else getN r x := rfl
theorem getN_mem : ∀ (l : List (α × Int)) (x : α), x ∈ namesN l ↔ (getN l x).isSome = true
  | [], x => by simp [namesN, getN]
  | p :: r, x => by
    rw [getN_cons]
    have ih := getN_mem r x
    by_cases h : p.1 = x
    · rw [if_pos h]; simp [namesN, h]
    · rw [if_neg h, ← ih]; simp [namesN]; intro e; exact absurd e.symm h
theorem getN_wo : ∀ (l : List (α × Int)) (x y : α), getN (woN l x) y = if y = x then none else getN l y
  | [], x, y => by simp [woN, getN]
  | p :: r, x, y => by
    have ih := getN_wo r x y
    unfold woN
    by_cases h : p.1 = x
    · rw [if_pos h, ih]
      by_cases e : y = x
      · rw [if_pos e, if_pos e]
      · rw [if_neg e, if_neg e]
        rw [getN_cons, if_neg (by rw [h]; exact fun hh => e hh.symm)]
    · rw [if_neg h, getN_cons, getN_cons]
      by_cases e : p.1 = y
      · rw [if_pos e, if_pos e, if_neg (by rw [← e]; exact h)]
      · rw [if_neg e, if_neg e, ih]
theorem getN_ins : ∀ (l : List (α × Int)) (x : α) (i : Int) (y : α), getN l x = none → getN (insN cf l x i) y = if y = x then some i else getN l y
  | [], x, i, y, _ => by
    unfold insN
    rw [getN_cons, getN_nil]
    by_cases e : x = y
    · rw [if_pos e, if_pos e.symm]
    · rw [if_neg e, if_neg (fun hh => e hh.symm)]
  | p :: r, x, i, y, h => by
    have hp : ¬ p.1 = x := fun e => by rw [getN_cons, if_pos e] at h; cases h
    have hr : getN r x = none := by rwa [getN_cons, if_neg hp] at h
    have ih := getN_ins r x i y hr
    unfold insN
    split
    · rw [getN_cons]
      by_cases e : x = y
      · rw [if_pos e, if_pos e.symm]
      · rw [if_neg e, if_neg (fun hh => e hh.symm)]
    · rw [getN_cons, getN_cons]
      by_cases e : p.1 = y
      · rw [if_pos e, if_pos e, if_neg (by rw [← e]; exact hp)]
      · rw [if_neg e, if_neg e, ih]
theorem getN_with (l : List (α × Int)) (x : α) (i : Int) (y : α) : getN (withN cf l x i) y = if y = x then some i else getN l y := by
  unfold withN
  rw [getN_ins _ _ _ _ (by rw [getN_wo, if_pos rfl]), getN_wo]
  by_cases e : y = x
  · rw [if_pos e, if_pos e]
  · rw [if_neg e, if_neg e, if_neg e]
theorem wo_mem : ∀ (l : List (α × Int)) (x : α) (p : α × Int), p ∈ woN l x → p ∈ l
  | [], x, p, h => by simp [woN] at h
  | q :: r, x, p, h => by
    unfold woN at h
    split at h
    · exact List.mem_cons_of_mem _ (wo_mem r x p h)
    · rcases List.mem_cons.1 h with h | h
      · exact h ▸ List.mem_cons_self
      · exact List.mem_cons_of_mem _ (wo_mem r x p h)
theorem RiseN.wo : ∀ {l : List (α × Int)} (h : RiseN cf l) (x : α), RiseN cf (woN l x)
  | [], _, _ => List.Pairwise.nil
  | p :: r, h, x => by
    obtain ⟨h1, h2⟩ := List.pairwise_cons.1 h
    have ih := RiseN.wo (l := r) h2 x
    unfold woN
    split
    · exact ih
    · exact List.pairwise_cons.2 ⟨fun q hq => h1 q (wo_mem r x q hq), ih⟩
theorem RiseN.ins (hT : TotC cf) : ∀ {l : List (α × Int)} (h : RiseN cf l) (x : α) (i : Int), getN l x = none → RiseN cf (insN cf l x i)
  | [], _, x, i, _ => by unfold insN; exact List.pairwise_singleton _ _
  | p :: r, h, x, i, hx => by
    obtain ⟨h1, h2⟩ := List.pairwise_cons.1 h
    have hp : ¬ p.1 = x := fun e => by rw [getN_cons, if_pos e] at hx; cases hx
    have hr : getN r x = none := by rwa [getN_cons, if_neg hp] at hx
    have ih := RiseN.ins hT (l := r) h2 x i hr
    unfold insN
    split
    · next hlt =>
      refine List.pairwise_cons.2 ⟨fun q hq => ?_, h⟩
      rcases List.mem_cons.1 hq with e | hq
      · rw [e]; exact hlt
      · exact hT.trans _ _ _ hlt (h1 q hq)
    · next hge =>
      refine List.pairwise_cons.2 ⟨fun q hq => ?_, ih⟩
      rcases ins_mem r x i q hq with e | hq
      · rw [e]
        rcases hT.tri p.1 x with h3 | h3 | h3
        · exact h3
        · exact absurd h3 hp
        · exact absurd h3 hge
      · exact h1 q hq
theorem RiseN.with (hT : TotC cf) {l : List (α × Int)} (h : RiseN cf l) (x : α) (i : Int) : RiseN cf (withN cf l x i) := RiseN.ins hT (h.wo x) x i (by rw [getN_wo, if_pos rfl])
/-- Names that rise, and are those under which something is found, are these. -/
theorem names_of_get (hT : TotC cf) {l : List (α × Int)} (h : RiseN cf l) {ys : List α} (hy : Rises cf ys) (hm : ∀ x, x ∈ ys ↔ (getN l x).isSome = true) : ys = namesN l :=
  rise_unique hT _ _ hy h.names (fun x => (hm x).trans (getN_mem l x).symm)
theorem woN_snoc (x : α) : ∀ (l : List (α × Int)) (p : α × Int), woN (l ++ [p]) x = if p.1 = x then woN l x else woN l x ++ [p]
  | [], p => by simp [woN]
  | q :: r, p => by
    rw [List.cons_append]
    unfold woN
    rw [woN_snoc x r p]
    by_cases h1 : q.1 = x <;> by_cases h2 : p.1 = x <;> simp [h1, h2]
theorem woN_next (x : α) {l : List (α × Int)} {k : Nat} (hk : k < l.length) : woN (l.take (k + 1)) x = if l[k].1 = x then woN (l.take k) x else woN (l.take k) x ++ [l[k]] := by
  rw [List.take_succ_eq_append_getElem hk, woN_snoc]
/-- Found at the first that bears the name. -/
theorem getN_at {l : List (α × Int)} {k : Nat} {x : α} (hk : k < l.length) (hn : ∀ j (hj : j < k), l[j].1 ≠ x) : getN l x = if l[k].1 = x then some l[k].2 else getN (l.drop (k + 1)) x := by
  induction l generalizing k with
  | nil => simp at hk
  | cons p r ih =>
    cases k with
    | zero => rfl
    | succ k =>
      have h0 := hn 0 (by omega)
      show (if p.1 = x then some p.2 else getN r x) = _
      rw [if_neg (show ¬ p.1 = x from h0), ih (by simpa using hk) (fun j hj => hn (j + 1) (by omega))]
      rfl
theorem getN_no {l : List (α × Int)} {x : α} (hn : ∀ j (hj : j < l.length), l[j].1 ≠ x) : getN l x = none := by
  induction l with
  | nil => rfl
  | cons p r ih =>
    show (if p.1 = x then some p.2 else getN r x) = _
    rw [if_neg (show ¬ p.1 = x from hn 0 (by simp)), ih (fun j hj => hn (j + 1) (by simpa using hj))]
/-! ### a directory -/
structure OpN (α : Type) where
  kind : Int
  a : α
  b : α
  id : Int
/-- What is done to names. -/
def didN (cf : α → α → Int) (l : List (α × Int)) (o : OpN α) : List (α × Int) :=
  if o.kind = 0 then withN cf l o.a o.id
  else match getN l o.a with
    | none => l
    | some i => if o.kind = 1 then withN cf (woN l o.a) o.b i else woN l o.a
theorem didN_rises (hT : TotC cf) {l : List (α × Int)} (h : RiseN cf l) (o : OpN α) : RiseN cf (didN cf l o) := by
  unfold didN
  split
  · exact h.with hT _ _
  · split
    · exact h
    · split
      · exact (h.wo _).with hT _ _
      · exact h.wo _
structure DN (α : Type) where
  now : List (α × Int)
  safe : List (α × Int)
  ops : List (OpN α)
def crashN (cf : α → α → Int) : List (α × Int) → List (OpN α) → List Bool → List (α × Int)
  | l, [], _ => l
  | l, _ :: _, [] => l
  | l, o :: r, k :: ks => crashN cf (if k then didN cf l o else l) r ks
def DN.sync (s : DN α) : DN α := ⟨s.now, s.now, []⟩
def DN.crash (cf : α → α → Int) (s : DN α) (ks : List Bool) : DN α := ⟨crashN cf s.safe s.ops ks, crashN cf s.safe s.ops ks, []⟩
theorem crashN_nil (l : List (α × Int)) (ops : List (OpN α)) : crashN cf l ops [] = l := by cases ops <;> rfl
theorem crashN_rises (hT : TotC cf) : ∀ (ops : List (OpN α)) (l : List (α × Int)) (ks : List Bool), RiseN cf l → RiseN cf (crashN cf l ops ks)
  | [], l, ks, h => by cases ks <;> exact h
  | o :: r, l, [], h => h
  | o :: r, l, k :: ks, h => by
    show RiseN cf (crashN cf (if k then didN cf l o else l) r ks)
    refine crashN_rises hT r _ ks ?_
    split
    · exact didN_rises hT h o
    · exact h
theorem crashN_snoc (o : OpN α) : ∀ (ops : List (OpN α)) (l : List (α × Int)) (ks : List Bool), crashN cf l (ops ++ [o]) ks = if ks.getD ops.length false then didN cf (crashN cf l ops ks) o else crashN cf l ops ks
  | [], l, [] => rfl
  | [], l, k :: r => by cases k <;> simp [crashN]
  | p :: r, l, [] => by simp [crashN]
  | p :: r, l, k :: ks => by
    simp only [List.cons_append, crashN, List.length_cons]
    rw [crashN_snoc o r]
    simp
theorem crashN_next {ops : List (OpN α)} {i : Nat} (h : i < ops.length) (l : List (α × Int)) (ks : List Bool) : crashN cf l (ops.take (i + 1)) ks = if ks.getD i false then didN cf (crashN cf l (ops.take i) ks) ops[i] else crashN cf l (ops.take i) ks := by
  rw [List.take_succ_eq_append_getElem h, crashN_snoc, List.length_take, Nat.min_eq_left (by omega)]
theorem crashN_take : ∀ (ops : List (OpN α)) (l : List (α × Int)) (ks : List Bool) (n : Nat), ks.length ≤ n ∨ ops.length ≤ n → crashN cf l (ops.take n) ks = crashN cf l ops ks
  | [], l, ks, n, _ => by simp
  | o :: r, l, [], n, _ => by rw [crashN_nil, crashN_nil]
  | o :: r, l, k :: s, 0, h => by simp at h
  | o :: r, l, k :: s, n + 1, h => by
    rw [List.take_succ_cons]
    simp only [crashN]
    exact crashN_take r _ s n (by simpa using h)
end

end Go.Proofs.Ytakjiklpfddooaa
