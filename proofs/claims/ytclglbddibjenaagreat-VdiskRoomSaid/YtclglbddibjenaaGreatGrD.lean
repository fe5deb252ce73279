/-
  MERGED BY PROGRAM out of the texts DirMath DirMap DirMem DirGood DirFn DirDo DirDid DirActs DirSync DirNames DirCrash.
-/
import Derived.Test.YtclglbddibjenaaGreatGrC
import Derived.Test.YtclglbddibjenaaGreatChecked
import Derived.Test.YtclglbddibjenaaGreatGrA
import Derived.Test.YtclglbddibjenaaGreatGrB
import Derived.Test.YtclglbddibjenaaGreatShelf
import Derived.Maps.OwnSet
import Derived.Maps.Ext
import Derived.Lib.SlMapMerge
import Derived.Sort.KeysCollected
import Derived.Sort.Walk0
import Derived.StringKeys
import Derived.WalkKit
import Derived.WalkSpells
import Derived.Lib.Hide
import Derived.Deep.RegionHeld3
import Derived.Deep.Grids
import Derived.OwnWalkIn
import Derived.TacticsInMore
import Derived.RegionIn

/-
  PLAIN MATHEMATICS FOR LAYER 7, of no program: names with their files as lists that rise; a name more, a name less, what is done to them; each told by what is found under every name.
-/
set_option linter.unusedVariables false
namespace Go.Proofs.YtclglbddibjenaaGreat

section
variable {α : Type} {cf : α → α → Int}

/-- A name ahead of the first greater one. -/
def insN (cf : α → α → Int) : List (α × Int) → α → Int → List (α × Int)
  | [], x, i => [(x, i)]
  | p :: r, x, i => if cf x p.1 < 0 then (x, i) :: p :: r else p :: insN cf r x i
def namesN (l : List (α × Int)) : List α := l.map (·.1)
theorem ins_mem : ∀ (l : List (α × Int)) (x : α) (i : Int) (p : α × Int), p ∈ insN cf l x i → p = (x, i) ∨ p ∈ l
  | [], x, i, p, h => by simp [insN] at h; exact .inl h
  | q :: r, x, i, p, h => by
    unfold insN at h
    split at h
    · rcases List.mem_cons.1 h with h | h
      · exact .inl h
      · exact .inr h
    · rcases List.mem_cons.1 h with h | h
      · exact .inr (h ▸ List.mem_cons_self)
      · rcases ins_mem r x i p h with h | h
        · exact .inl h
        · exact .inr (List.mem_cons_of_mem _ h)
/-- The names rise. -/
def RiseN (cf : α → α → Int) (l : List (α × Int)) : Prop := l.Pairwise fun p q => cf p.1 q.1 < 0
theorem RiseN.names {l : List (α × Int)} (h : RiseN cf l) : Rises cf (namesN l) := by
  unfold Rises namesN
  rw [List.pairwise_map]
  exact h
/-- One more goes by: out, and whether the name has been put. -/
def wStep (cf : α → α → Int) (x : α) (i : Int) (st : List (α × Int) × Bool) (p : α × Int) : List (α × Int) × Bool :=
  if st.2 = false ∧ cf x p.1 < 0 then (st.1 ++ [(x, i), p], true) else (st.1 ++ [p], st.2)
def wRun (cf : α → α → Int) (x : α) (i : Int) (l : List (α × Int)) : List (α × Int) × Bool := l.foldl (wStep cf x i) ([], false)
theorem wRun_snoc (x : α) (i : Int) (l : List (α × Int)) (p : α × Int) : wRun cf x i (l ++ [p]) = wStep cf x i (wRun cf x i l) p := by unfold wRun; rw [List.foldl_append]; rfl
theorem wRun_next (x : α) (i : Int) {l : List (α × Int)} {k : Nat} (hk : k < l.length) : wRun cf x i (l.take (k + 1)) = wStep cf x i (wRun cf x i (l.take k)) l[k] := by
  rw [List.take_succ_eq_append_getElem hk, wRun_snoc]
theorem wStep_done (x : α) (i : Int) : ∀ (r : List (α × Int)) (out : List (α × Int)), r.foldl (wStep cf x i) (out, true) = (out ++ r, true)
  | [], out => by simp
  | p :: r, out => by
    rw [List.foldl_cons]
    have : wStep cf x i (out, true) p = (out ++ [p], true) := by unfold wStep; rw [if_neg (fun hh => by cases hh.1)]
    rw [this, wStep_done x i r]; simp
theorem wRun_ins (x : α) (i : Int) : ∀ (l out : List (α × Int)), (if (l.foldl (wStep cf x i) (out, false)).2 = true then (l.foldl (wStep cf x i) (out, false)).1 else (l.foldl (wStep cf x i) (out, false)).1 ++ [(x, i)]) = out ++ insN cf l x i
  | [], out => by simp [insN]
  | p :: r, out => by
    rw [List.foldl_cons]
    unfold insN
    by_cases h : cf x p.1 < 0
    · have : wStep cf x i (out, false) p = (out ++ [(x, i), p], true) := by unfold wStep; rw [if_pos ⟨rfl, h⟩]
      rw [this, wStep_done, if_pos h]; simp
    · have : wStep cf x i (out, false) p = (out ++ [p], false) := by unfold wStep; rw [if_neg (fun hh => h hh.2)]
      rw [this, if_neg h, wRun_ins x i r]; simp
theorem wRun_all (x : α) (i : Int) (l : List (α × Int)) : (if (wRun cf x i l).2 = true then (wRun cf x i l).1 else (wRun cf x i l).1 ++ [(x, i)]) = insN cf l x i := by
  have := wRun_ins (cf := cf) x i l []
  rw [List.nil_append] at this
  exact this
end

section
variable {α : Type} [DecidableEq α] {cf : α → α → Int}

/-- What is found under a name. -/
def getN : List (α × Int) → α → Option Int
  | [], _ => none
  | p :: r, x => if p.1 = x then some p.2 else getN r x
/-- The list without a name. -/
def woN : List (α × Int) → α → List (α × Int)
  | [], _ => []
  | p :: r, x => if p.1 = x then woN r x else p :: woN r x
def withN (cf : α → α → Int) (l : List (α × Int)) (x : α) (i : Int) : List (α × Int) := insN cf (woN l x) x i
theorem getN_nil (x : α) : getN ([] : List (α × Int)) x = none := rfl
theorem getN_cons (p : α × Int) (r : List (α × Int)) (x : α) : getN (p :: r) x = if p.1 = x then some p.2 else getN r x := rfl
theorem getN_mem : ∀ (l : List (α × Int)) (x : α), x ∈ namesN l ↔ (getN l x).isSome = true
  | [], x => by simp [namesN, getN]
  | p :: r, x => by
    rw [getN_cons]
    have ih := getN_mem r x
    by_cases h : p.1 = x
    · rw [if_pos h]; simp [namesN, h]
    · rw [if_neg h, ← ih]; simp [namesN]; intro e; exact absurd e.symm h
theorem getN_wo : ∀ (l : List (α × Int)) (x y : α), getN (woN l x) y = if y = x then none else getN l y
  | [], x, y => by simp [woN, getN]
  | p :: r, x, y => by
    have ih := getN_wo r x y
    unfold woN
    by_cases h : p.1 = x
    · rw [if_pos h, ih]
      by_cases e : y = x
      · rw [if_pos e, if_pos e]
      · rw [if_neg e, if_neg e]
        rw [getN_cons, if_neg (by rw [h]; exact fun hh => e hh.symm)]
    · rw [if_neg h, getN_cons, getN_cons]
      by_cases e : p.1 = y
      · rw [if_pos e, if_pos e, if_neg (by rw [← e]; exact h)]
      · rw [if_neg e, if_neg e, ih]
theorem getN_ins : ∀ (l : List (α × Int)) (x : α) (i : Int) (y : α), getN l x = none → getN (insN cf l x i) y = if y = x then some i else getN l y
  | [], x, i, y, _ => by
    unfold insN
    rw [getN_cons, getN_nil]
    by_cases e : x = y
    · rw [if_pos e, if_pos e.symm]
    · rw [if_neg e, if_neg (fun hh => e hh.symm)]
  | p :: r, x, i, y, h => by
    have hp : ¬ p.1 = x := fun e => by rw [getN_cons, if_pos e] at h; cases h
    have hr : getN r x = none := by rwa [getN_cons, if_neg hp] at h
    have ih := getN_ins r x i y hr
    unfold insN
    split
    · rw [getN_cons]
      by_cases e : x = y
      · rw [if_pos e, if_pos e.symm]
      · rw [if_neg e, if_neg (fun hh => e hh.symm)]
    · rw [getN_cons, getN_cons]
      by_cases e : p.1 = y
      · rw [if_pos e, if_pos e, if_neg (by rw [← e]; exact hp)]
      · rw [if_neg e, if_neg e, ih]
theorem getN_with (l : List (α × Int)) (x : α) (i : Int) (y : α) : getN (withN cf l x i) y = if y = x then some i else getN l y := by
  unfold withN
  rw [getN_ins _ _ _ _ (by rw [getN_wo, if_pos rfl]), getN_wo]
  by_cases e : y = x
  · rw [if_pos e, if_pos e]
  · rw [if_neg e, if_neg e, if_neg e]
theorem wo_mem : ∀ (l : List (α × Int)) (x : α) (p : α × Int), p ∈ woN l x → p ∈ l
  | [], x, p, h => by simp [woN] at h
  | q :: r, x, p, h => by
    unfold woN at h
    split at h
    · exact List.mem_cons_of_mem _ (wo_mem r x p h)
    · rcases List.mem_cons.1 h with h | h
      · exact h ▸ List.mem_cons_self
      · exact List.mem_cons_of_mem _ (wo_mem r x p h)
theorem RiseN.wo : ∀ {l : List (α × Int)} (h : RiseN cf l) (x : α), RiseN cf (woN l x)
  | [], _, _ => List.Pairwise.nil
  | p :: r, h, x => by
    obtain ⟨h1, h2⟩ := List.pairwise_cons.1 h
    have ih := RiseN.wo (l := r) h2 x
    unfold woN
    split
    · exact ih
    · exact List.pairwise_cons.2 ⟨fun q hq => h1 q (wo_mem r x q hq), ih⟩
theorem RiseN.ins (hT : TotC cf) : ∀ {l : List (α × Int)} (h : RiseN cf l) (x : α) (i : Int), getN l x = none → RiseN cf (insN cf l x i)
  | [], _, x, i, _ => by unfold insN; exact List.pairwise_singleton _ _
  | p :: r, h, x, i, hx => by
    obtain ⟨h1, h2⟩ := List.pairwise_cons.1 h
    have hp : ¬ p.1 = x := fun e => by rw [getN_cons, if_pos e] at hx; cases hx
    have hr : getN r x = none := by rwa [getN_cons, if_neg hp] at hx
    have ih := RiseN.ins hT (l := r) h2 x i hr
    unfold insN
    split
    · next hlt =>
      refine List.pairwise_cons.2 ⟨fun q hq => ?_, h⟩
      rcases List.mem_cons.1 hq with e | hq
      · rw [e]; exact hlt
      · exact hT.trans _ _ _ hlt (h1 q hq)
    · next hge =>
      refine List.pairwise_cons.2 ⟨fun q hq => ?_, ih⟩
      rcases ins_mem r x i q hq with e | hq
      · rw [e]
        rcases hT.tri p.1 x with h3 | h3 | h3
        · exact h3
        · exact absurd h3 hp
        · exact absurd h3 hge
      · exact h1 q hq
theorem RiseN.with (hT : TotC cf) {l : List (α × Int)} (h : RiseN cf l) (x : α) (i : Int) : RiseN cf (withN cf l x i) := RiseN.ins hT (h.wo x) x i (by rw [getN_wo, if_pos rfl])
/-- Names that rise, and are those under which something is found, are these. -/
theorem names_of_get (hT : TotC cf) {l : List (α × Int)} (h : RiseN cf l) {ys : List α} (hy : Rises cf ys) (hm : ∀ x, x ∈ ys ↔ (getN l x).isSome = true) : ys = namesN l :=
  rise_unique hT _ _ hy h.names (fun x => (hm x).trans (getN_mem l x).symm)
theorem woN_snoc (x : α) : ∀ (l : List (α × Int)) (p : α × Int), woN (l ++ [p]) x = if p.1 = x then woN l x else woN l x ++ [p]
  | [], p => by simp [woN]
  | q :: r, p => by
    rw [List.cons_append]
    unfold woN
    rw [woN_snoc x r p]
    by_cases h1 : q.1 = x <;> by_cases h2 : p.1 = x <;> simp [h1, h2]
theorem woN_next (x : α) {l : List (α × Int)} {k : Nat} (hk : k < l.length) : woN (l.take (k + 1)) x = if l[k].1 = x then woN (l.take k) x else woN (l.take k) x ++ [l[k]] := by
  rw [List.take_succ_eq_append_getElem hk, woN_snoc]
/-- Found at the first that bears the name. -/
theorem getN_at {l : List (α × Int)} {k : Nat} {x : α} (hk : k < l.length) (hn : ∀ j (hj : j < k), l[j].1 ≠ x) : getN l x = if l[k].1 = x then some l[k].2 else getN (l.drop (k + 1)) x := by
  induction l generalizing k with
  | nil => simp at hk
  | cons p r ih =>
    cases k with
    | zero => rfl
    | succ k =>
      have h0 := hn 0 (by omega)
      show (if p.1 = x then some p.2 else getN r x) = _
      rw [if_neg (show ¬ p.1 = x from h0), ih (by simpa using hk) (fun j hj => hn (j + 1) (by omega))]
      rfl
theorem getN_no {l : List (α × Int)} {x : α} (hn : ∀ j (hj : j < l.length), l[j].1 ≠ x) : getN l x = none := by
  induction l with
  | nil => rfl
  | cons p r ih =>
    show (if p.1 = x then some p.2 else getN r x) = _
    rw [if_neg (show ¬ p.1 = x from hn 0 (by simp)), ih (fun j hj => hn (j + 1) (by simpa using hj))]
/-! ### a directory -/
structure OpN (α : Type) where
  kind : Int
  a : α
  b : α
  id : Int
/-- What is done to names. -/
def didN (cf : α → α → Int) (l : List (α × Int)) (o : OpN α) : List (α × Int) :=
  if o.kind = 0 then withN cf l o.a o.id
  else match getN l o.a with
    | none => l
    | some i => if o.kind = 1 then withN cf (woN l o.a) o.b i else woN l o.a
theorem didN_rises (hT : TotC cf) {l : List (α × Int)} (h : RiseN cf l) (o : OpN α) : RiseN cf (didN cf l o) := by
  unfold didN
  split
  · exact h.with hT _ _
  · split
    · exact h
    · split
      · exact (h.wo _).with hT _ _
      · exact h.wo _
structure DN (α : Type) where
  now : List (α × Int)
  safe : List (α × Int)
  ops : List (OpN α)
def crashN (cf : α → α → Int) : List (α × Int) → List (OpN α) → List Bool → List (α × Int)
  | l, [], _ => l
  | l, _ :: _, [] => l
  | l, o :: r, k :: ks => crashN cf (if k then didN cf l o else l) r ks
def DN.sync (s : DN α) : DN α := ⟨s.now, s.now, []⟩
def DN.crash (cf : α → α → Int) (s : DN α) (ks : List Bool) : DN α := ⟨crashN cf s.safe s.ops ks, crashN cf s.safe s.ops ks, []⟩
theorem crashN_nil (l : List (α × Int)) (ops : List (OpN α)) : crashN cf l ops [] = l := by cases ops <;> rfl
theorem crashN_rises (hT : TotC cf) : ∀ (ops : List (OpN α)) (l : List (α × Int)) (ks : List Bool), RiseN cf l → RiseN cf (crashN cf l ops ks)
  | [], l, ks, h => by cases ks <;> exact h
  | o :: r, l, [], h => h
  | o :: r, l, k :: ks, h => by
    show RiseN cf (crashN cf (if k then didN cf l o else l) r ks)
    refine crashN_rises hT r _ ks ?_
    split
    · exact didN_rises hT h o
    · exact h
theorem crashN_snoc (o : OpN α) : ∀ (ops : List (OpN α)) (l : List (α × Int)) (ks : List Bool), crashN cf l (ops ++ [o]) ks = if ks.getD ops.length false then didN cf (crashN cf l ops ks) o else crashN cf l ops ks
  | [], l, [] => rfl
  | [], l, k :: r => by cases k <;> simp [crashN]
  | p :: r, l, [] => by simp [crashN]
  | p :: r, l, k :: ks => by
    simp only [List.cons_append, crashN, List.length_cons]
    rw [crashN_snoc o r]
    simp
theorem crashN_next {ops : List (OpN α)} {i : Nat} (h : i < ops.length) (l : List (α × Int)) (ks : List Bool) : crashN cf l (ops.take (i + 1)) ks = if ks.getD i false then didN cf (crashN cf l (ops.take i) ks) ops[i] else crashN cf l (ops.take i) ks := by
  rw [List.take_succ_eq_append_getElem h, crashN_snoc, List.length_take, Nat.min_eq_left (by omega)]
theorem crashN_take : ∀ (ops : List (OpN α)) (l : List (α × Int)) (ks : List Bool) (n : Nat), ks.length ≤ n ∨ ops.length ≤ n → crashN cf l (ops.take n) ks = crashN cf l ops ks
  | [], l, ks, n, _ => by simp
  | o :: r, l, [], n, _ => by rw [crashN_nil, crashN_nil]
  | o :: r, l, k :: s, 0, h => by simp at h
  | o :: r, l, k :: s, n + 1, h => by
    rw [List.take_succ_cons]
    simp only [crashN]
    exact crashN_take r _ s n (by simpa using h)
end

end Go.Proofs.YtclglbddibjenaaGreat

/-
  LAYER 7: A MAP OF NAMES IN MEMORY: what it reads as, told by what is found under each name; what look-up, store, delete and a copy do to it.
-/
set_option linter.unusedVariables false
namespace Go.Proofs.YtclglbddibjenaaGreat
open Go.RowKit Go.WideShapes
open Go.Maps (Keyed IsMap has_put_same has_put_other atKey_put_same atKey_put_other has_del_same has_del_other atKey_del_other)

abbrev NmL := List (ByteArray × Int)
def keyS (x : ByteArray) : Lit := .string x.data.toList
theorem keyS_inj {x y : ByteArray} (h : keyS x = keyS y) : x = y := by unfold keyS at h; injection h with h; exact bytes_ext h
theorem keyS_lit (x : ByteArray) : WideAt.IsKeyLit (keyS x) := trivial
theorem keyS_of (y : List UInt8) : ∃ x : ByteArray, .string y = keyS x := ⟨⟨y.toArray⟩, rfl⟩

theorem cfT_lt (a b : ByteArray) : cfT a b < 0 ↔ a.data.toList < b.data.toList := by
  have h := less_cfT a b
  rw [_root_.Go.ByteArray.toList_eq, _root_.Go.ByteArray.toList_eq, bytesLess_eq] at h
  simpa using h.symm

/-- What a map reads as is a list of names that rise. -/
structure Tells (D : DataW Unit) (l : NmL) : Prop where
  rise : RiseN cfT l
  has : ∀ x : ByteArray, Maps.has D (keyS x) = (getN l x).isSome
  at_ : ∀ x i, getN l x = some i → ∀ z, D.atKey (keyS x) z = .lit (.int .i64 i)

section
variable {D : DataW Unit} {l : NmL}
theorem Tells.nil : Tells (.map []) [] := ⟨List.Pairwise.nil, fun x => rfl, fun x i h => by cases h⟩
theorem Tells.get (h : Tells D l) (x : ByteArray) : D.atKey (keyS x) (.lit (.int .i64 0)) = .lit (.int .i64 ((getN l x).getD 0)) := by
  cases hg : getN l x with
  | none =>
    have := h.has x
    rw [hg] at this
    rw [Maps.atKey_of_not_has this]; rfl
  | some i => rw [h.at_ x i hg]; rfl
theorem Tells.put (h : Tells D l) (hm : IsMap D) (x : ByteArray) (i : Int) : Tells (D.put (keyS x) (.lit (.int .i64 i))) (withN cfT l x i) := by
  refine ⟨h.rise.with cfT_tot x i, fun y => ?_, fun y j hj z => ?_⟩
  · rw [getN_with]
    by_cases e : y = x
    · subst e; rw [has_put_same hm (keyS_lit _), if_pos rfl]; rfl
    · rw [has_put_other (fun hh => e (keyS_inj hh)), if_neg e, h.has]
  · rw [getN_with] at hj
    by_cases e : y = x
    · subst e
      rw [if_pos rfl] at hj
      injection hj with hj
      rw [atKey_put_same hm (keyS_lit _), hj]
    · rw [if_neg e] at hj
      rw [atKey_put_other (fun hh => e (keyS_inj hh)), h.at_ y j hj]
theorem Tells.del (h : Tells D l) (x : ByteArray) : Tells (D.del (keyS x)) (woN l x) := by
  refine ⟨h.rise.wo x, fun y => ?_, fun y j hj z => ?_⟩
  · rw [getN_wo]
    by_cases e : y = x
    · subst e; rw [has_del_same, if_pos rfl]; rfl
    · rw [has_del_other (fun hh => e (keyS_inj hh)), if_neg e, h.has]
  · rw [getN_wo] at hj
    by_cases e : y = x
    · rw [if_pos e] at hj; cases hj
    · rw [if_neg e] at hj
      rw [atKey_del_other (fun hh => e (keyS_inj hh)), h.at_ y j hj]
theorem woN_none : ∀ (l : NmL) (x : ByteArray), getN l x = none → woN l x = l
  | [], x, _ => rfl
  | p :: r, x, h => by
    rw [getN_cons] at h
    by_cases e : p.1 = x
    · rw [if_pos e] at h; cases h
    · rw [if_neg e] at h
      unfold woN
      rw [if_neg e, woN_none r x h]
/-- Copied onto nothing. -/
theorem Tells.merge {es : List (Lit × DataW Unit)} (h : Tells (.map es) l) (hp : es.Pairwise (fun p q => p.1 ≠ q.1)) (hk : ∀ p ∈ es, WideAt.IsKeyLit p.1) : Tells (Lib.mergeD (.map []) (.map es)) l := by
  refine ⟨h.rise, fun x => ?_, fun x i hi z => ?_⟩
  · show Maps.has (es.foldl (fun D p => D.put p.1 p.2) (.map [])) (keyS x) = _
    rw [Maps.has_foldPut _ es _ Maps.isMap_empty hk, ← h.has]
    rfl
  · show (es.foldl (fun D p => D.put p.1 p.2) (DataW.map [])).atKey (keyS x) z = _
    rw [Maps.atKey_foldPut _ z es _ Maps.isMap_empty hk hp, ← h.at_ x i hi z]
    rfl

theorem names_nodup (h : RiseN cfT l) : ((namesN l).map (·.data.toList)).Nodup := by
  have hr := h.names
  unfold Rises at hr
  refine List.pairwise_map.2 (hr.imp fun {a b} hab e => ?_)
  have := bytes_ext e
  subst this
  exact cfT_tot.irr _ hab
theorem names_sorted (h : RiseN cfT l) : ((namesN l).map (·.data.toList)).mergeSort leB = (namesN l).map (·.data.toList) := by
  refine List.mergeSort_of_pairwise ?_
  have hr := h.names
  unfold Rises at hr
  refine List.pairwise_map.2 (hr.imp fun {a b} hab => ?_)
  simp only [leB, decide_eq_true_eq]
  exact List.le_of_lt ((cfT_lt a b).1 hab)
end

theorem strKeyed : Keyed Tryz.prog 9 := Maps.string_keyed Tryz.underlying9
theorem zeroInt (w : World) : (zeroValue 3).run Tryz.prog w = .ok (.int .i64 0) w := by kernel_rfl
theorem keyS_key {x : ByteArray} (h : x.size ≤ maxLen) : keyOf Tryz.prog 9 (.string x) = some (keyS x) := WideMaps.keyOf_string_mk Tryz.underlying9 h

/-- How an element of a map of names reads. -/
noncomputable abbrev intE : Value → Option (DataW Unit × List MemPlace) := plainElem Tryz.prog 3

/-- Block b is a map that reads as the names l. -/
def MapAt (w : World) (b : Nat) (l : NmL) : Prop := ∃ D, w.ownsMap Tryz.prog 9 intE b l.length D ∧ Tells D l

section
variable {w w' : World} {b : Nat} {l : NmL} {D : DataW Unit} {n : Nat}

theorem keys_perm (h : w.ownsMap Tryz.prog 9 intE b n D) (ht : Tells D l) : ((namesN l).map (·.data.toList)).Perm (strKeys D) := by
  obtain ⟨es, hD, hpw, _⟩ := h.entries strKeyed
  obtain ⟨es', hD', hko⟩ := h.keysOf
  obtain rfl : es = es' := by rw [hD] at hD'; simpa using hD'
  subst hD
  refine perm_strKeys hpw (fun p hp => by obtain ⟨v, hv⟩ := hko p hp; obtain ⟨x, _, hx, _⟩ := Maps.keyOf_str Tryz.underlying9 hv; exact ⟨x, hx⟩) (names_nodup ht.rise) (fun y => ?_)
  have hh := ht.has ⟨y.toArray⟩
  have e : keyS ⟨y.toArray⟩ = .string y := rfl
  rw [e] at hh
  rw [hh, ← getN_mem]
  constructor
  · intro hy
    obtain ⟨x, hx, rfl⟩ := List.mem_map.1 hy
    exact (show (⟨x.data.toList.toArray⟩ : ByteArray) = x from bytes_ext (by simp)) ▸ hx
  · intro hy
    exact List.mem_map.2 ⟨_, hy, by simp⟩
theorem keys_size (h : w.ownsMap Tryz.prog 9 intE b n D) (ht : Tells D l) : Maps.size D = l.length := by
  have hp := (keys_perm h ht).length_eq
  obtain ⟨es, rfl⟩ := h.isMap
  simp only [List.length_map, strKeys, namesN] at hp
  exact hp.symm
theorem MapAt.of (h : w.ownsMap Tryz.prog 9 intE b n D) (ht : Tells D l) : MapAt w b l := by
  have hs := keys_size h ht
  obtain ⟨es, clock, hb, F, hn, hD⟩ := h
  refine ⟨D, ⟨es, clock, hb, F, ?_, hD⟩, ht⟩
  rw [← hs, hD]
  simp [Maps.size, length_sorted]
theorem MapAt.lt (h : MapAt w b l) : b < w.heap.size := by obtain ⟨D, h, _⟩ := h; exact h.lt
theorem MapAt.chg {S : Nat → Prop} (h : MapAt w b l) (hc : Chg S w w') (hg : ¬ S b) : MapAt w' b l := by
  have hlt := h.lt
  obtain ⟨D, ⟨es, clock, hb, r⟩, ht⟩ := h
  exact ⟨D, ⟨es, clock, (hc.block b hlt hg).trans hb, r⟩, ht⟩
theorem MapAt.below (h : MapAt w b l) (hb : Below w.heap.size w w') : MapAt w' b l := h.chg (Chg.of_below hb (Nat.le_refl _) (fun _ => False)) (fun h => h)
theorem MapAt.new (w : World) : MapAt (w.alloc (.map #[] 0)) w.heap.size [] := ⟨_, World.ownsMap_made w _ _ _, Tells.nil⟩
theorem MapAt.rise (h : MapAt w b l) : RiseN cfT l := by obtain ⟨D, _, ht⟩ := h; exact ht.rise
/-- A map lies in no block of cells. -/
theorem MapAt.ne_blk {g : Nat} {t : TypeId} {cs : Array Value} (h : MapAt w b l) (hb : Blk w g t cs) : b ≠ g := by
  rintro rfl
  obtain ⟨D, ⟨es, clock, hm, _⟩, _⟩ := h
  unfold Blk at hb
  rw [hm] at hb
  cases hb
theorem MapAt.ne_own {g : Nat} {base : Nat} {e : TypeId} {size k : Nat} {v : Value} {xs : List Value} (h : MapAt w b l) (ho : w.ownsRow base e size v k xs) (hg : v.ownBlock = some g) : b ≠ g := by
  rcases ho.2 with ⟨rfl, _⟩ | ⟨g1, c1, cur1, rfl, _, e1, _⟩
  · simp [Value.ownBlock] at hg
  · simp [Value.ownBlock] at hg
    subst hg
    exact h.ne_blk e1
end

section
variable (w : World) {ops : Array Oper} {rest : List Oper} {o : Oper} {a : Act} {Q : Exit → Act → World → Prop}
/-- 'v, ok := m[k]'. -/
theorem wpList_look (hg : o.guard = none) (m x : Operand) (hop : o.op = Op.lookup 100 m x true) (b : Nat) (l : NmL) (h : MapAt w b l) (hm : a.eval m = .map (some b)) (s : ByteArray) (hx : a.eval x = .string s) (hs : s.size ≤ maxLen)
    (hK : wpList Tryz.prog ops Q rest (a.put o.dst (.tuple #[.int .i64 ((getN l s).getD 0), .bool (getN l s).isSome])) w) : wpList Tryz.prog ops Q (o :: rest) a w := by
  obtain ⟨D, hown, ht⟩ := h
  refine wpList_lookup_own_ok_int w hg m x 100 hop 9 3 .i64 strKeyed Tryz.underlying100 Tryz.underlying3 (zeroInt w) b _ D hm hown (.string s) (keyS s) hx (keyS_key hs) (fun c hc _ => ?_)
  rw [ht.get] at hc
  injection hc with hc
  injection hc with _ hc
  rw [← hc, ht.has]
  exact hK
/-- 'm[k] = v'. -/
theorem wpList_put (hg : o.guard = none) (m x v : Operand) (hop : o.op = Op.mapUpdate 100 m x v) (b : Nat) (l : NmL) (h : MapAt w b l) (hl : l.length < 1000000) (hm : a.eval m = .map (some b)) (s : ByteArray) (hx : a.eval x = .string s) (hs : s.size ≤ maxLen)
    (i : Int) (hv : a.eval v = .int .i64 i) (hi : (Lit.int .i64 i).wf = true)
    (hK : ∀ w', MapAt w' b (withN cfT l s i) → Chg (fun k => k = b) w w' → wpList Tryz.prog ops Q rest (a.put o.dst undef) w') : wpList Tryz.prog ops Q (o :: rest) a w := by
  obtain ⟨D, hown, ht⟩ := h
  have him := hown.isMap
  refine wpList_mapUpdate_in w hg m x v 100 hop 9 3 strKeyed Tryz.underlying100 intE b _ D hm hown (by unfold maxLen; omega) (.string s) (.int .i64 i) (keyS s) hx hv (keyS_key hs) _ _ (plainElem_int Tryz.underlying3 hi) (fun w' h1 h2 => ?_)
  exact hK w' (MapAt.of h1 (ht.put him s i)) ((Chg.of_grown h2.grown).mono (fun k _ e => by injection e with e; exact e.symm))
/-- 'delete(m, k)'. -/
theorem wpList_del (hg : o.guard = none) (m x : Operand) (hop : o.op = Op.call { callee := Callee.builtin Builtin.delete, args := #[m, x], argTypes := #[100, 9] }) (b : Nat) (l : NmL) (h : MapAt w b l) (hm : a.eval m = .map (some b)) (s : ByteArray) (hx : a.eval x = .string s) (hs : s.size ≤ maxLen)
    (hK : ∀ w', MapAt w' b (woN l s) → Chg (fun k => k = b) w w' → wpList Tryz.prog ops Q rest (a.put o.dst (.tuple #[])) w') : wpList Tryz.prog ops Q (o :: rest) a w := by
  obtain ⟨D, hown, ht⟩ := h
  refine wpList_delete_own w hg m x 100 9 hop 3 strKeyed Tryz.underlying100 intE b _ D hm hown (.string s) (keyS s) hx (keyS_key hs) (fun w' h1 h2 => ?_)
  exact hK w' (MapAt.of h1 (ht.del s)) ((Chg.of_grown h2.grown).mono (fun k _ e => by injection e with e; exact e.symm))
end

end Go.Proofs.YtclglbddibjenaaGreat

/-
  LAYER 7: HOW A DIRECTORY LIES IN MEMORY, the program's and the document's: a block of three cells, the maps and the rows that they hold; what each of them keeps when something else turns.
-/
set_option linter.unusedVariables false
set_option linter.unusedSimpArgs false
namespace Go.Proofs.YtclglbddibjenaaGreat
open Go.RowKit

abbrev OpB := OpN ByteArray
abbrev DB := DN ByteArray
def opC (o : OpB) : List Value := [.int .i64 o.kind, .string o.a, .string o.b, .int .i64 o.id]
def opsC (ops : List OpB) : List Value := (ops.map opC).flatten
def nameC (p : ByteArray × Int) : List Value := [.string p.1, .int .i64 p.2]
def namesC (l : NmL) : List Value := (l.map nameC).flatten

section
variable {α : Type} {f : α → List Value} {n : Nat}
theorem flat_length (h : ∀ x, (f x).length = n) (l : List α) : ((l.map f).flatten).length = l.length * n := by
  induction l with
  | nil => simp
  | cons x r ih => simp only [List.map_cons, List.flatten_cons, List.length_append, List.length_cons, h, ih]; rw [Nat.add_mul]; omega
theorem flat_get (h : ∀ x, (f x).length = n) : ∀ (l : List α) (i : Nat) (x : α) (j : Nat), l[i]? = some x → j < n → ((l.map f).flatten)[i * n + j]? = (f x)[j]?
  | [], i, x, j, hi, _ => by simp at hi
  | y :: r, 0, x, j, hi, hj => by
    simp at hi; subst hi
    rw [List.map_cons, List.flatten_cons, List.getElem?_append_left (by rw [h]; omega)]
    congr 1; omega
  | y :: r, i + 1, x, j, hi, hj => by
    rw [List.map_cons, List.flatten_cons, List.getElem?_append_right (by rw [h, Nat.add_mul]; omega), h, show (i + 1) * n + j - n = i * n + j by rw [Nat.add_mul]; omega]
    exact flat_get h r i x j (by simpa using hi) hj
end
theorem opC_length (o : OpB) : (opC o).length = 4 := rfl
theorem nameC_length (p : ByteArray × Int) : (nameC p).length = 2 := rfl
theorem opsC_length (l : List OpB) : (opsC l).length = l.length * 4 := flat_length opC_length l
theorem namesC_length (l : NmL) : (namesC l).length = l.length * 2 := flat_length nameC_length l
theorem opsC_append (a b : List OpB) : opsC (a ++ b) = opsC a ++ opsC b := by unfold opsC; rw [List.map_append, List.flatten_append]
theorem namesC_append (a b : NmL) : namesC (a ++ b) = namesC a ++ namesC b := by unfold namesC; rw [List.map_append, List.flatten_append]
theorem opsC_one (o : OpB) : opsC [o] = opC o := by unfold opsC; simp
theorem namesC_one (p : ByteArray × Int) : namesC [p] = nameC p := by unfold namesC; simp
theorem opsC_get {l : List OpB} {i : Nat} {o : OpB} (h : l[i]? = some o) : (opsC l)[i * 4]? = some (.int .i64 o.kind) ∧ (opsC l)[i * 4 + 1]? = some (.string o.a) ∧ (opsC l)[i * 4 + 2]? = some (.string o.b) ∧ (opsC l)[i * 4 + 3]? = some (.int .i64 o.id) := by
  have g := fun j hj => flat_get opC_length l i o j h hj
  exact ⟨g 0 (by omega), g 1 (by omega), g 2 (by omega), g 3 (by omega)⟩
theorem namesC_get {l : NmL} {i : Nat} {p : ByteArray × Int} (h : l[i]? = some p) : (namesC l)[i * 2]? = some (.string p.1) ∧ (namesC l)[i * 2 + 1]? = some (.int .i64 p.2) := by
  have g := fun j hj => flat_get nameC_length l i p j h hj
  exact ⟨g 0 (by omega), g 1 (by omega)⟩
theorem opC_one (o : OpB) : ∀ u ∈ opC o, u.oneCell' = true := fun u hu => by
  simp [opC] at hu
  rcases hu with rfl | rfl | rfl | rfl <;> rfl
theorem nameC_one (p : ByteArray × Int) : ∀ u ∈ nameC p, u.oneCell' = true := fun u hu => by
  simp [nameC] at hu
  rcases hu with rfl | rfl <;> rfl

/-- An op as the program keeps it: what its kind doesn't ask for is empty. -/
def normO (o : OpB) : OpB := if o.kind = 0 then ⟨0, o.a, ⟨#[]⟩, o.id⟩ else if o.kind = 1 then ⟨1, o.a, o.b, 0⟩ else ⟨2, o.a, ⟨#[]⟩, 0⟩
theorem did_norm (l : NmL) (o : OpB) : didN cfT l (normO o) = didN cfT l o := by
  unfold normO
  split
  · next h => unfold didN; rw [if_pos h, if_pos rfl]
  · next h0 =>
    split
    · next h1 => unfold didN; rw [if_neg h0, if_neg (show ¬ (1 : Int) = 0 by omega)]; cases getN l o.a <;> simp [h1]
    · next h1 => unfold didN; rw [if_neg h0, if_neg (show ¬ (2 : Int) = 0 by omega)]; cases getN l o.a <;> simp [h1]

/-- The program's directory. -/
structure CD (w : World) (base : Nat) (S : Nat → Prop) (p : Nat) (s : DB) (bn bs : Nat) (pv : Value) : Prop where
  foot : ∀ k, S k → base ≤ k ∧ k < w.heap.size
  bas : base ≤ w.heap.size
  inp : S p
  blk : Blk w p 103 #[.map (some bn), .map (some bs), pv]
  now : MapAt w bn s.now
  safe : MapAt w bs s.safe
  pend : w.ownsRow base 125 4 pv s.ops.length (opsC (s.ops.map normO))
  inn : S bn
  ins : S bs
  ino : ∀ g, pv.ownBlock = some g → S g
  ne : bn ≠ bs

/-- The document's directory. -/
structure RD (w : World) (base : Nat) (S : Nat → Prop) (p : Nat) (s : DB) (nv sv ov : Value) : Prop where
  foot : ∀ k, S k → base ≤ k ∧ k < w.heap.size
  bas : base ≤ w.heap.size
  inp : S p
  blk : Blk w p 44 #[nv, sv, ov]
  now : w.ownsRow base 85 2 nv s.now.length (namesC s.now)
  safe : w.ownsRow base 85 2 sv s.safe.length (namesC s.safe)
  pend : w.ownsRow base 113 4 ov s.ops.length (opsC s.ops)
  inn : ∀ g, nv.ownBlock = some g → S g
  ins : ∀ g, sv.ownBlock = some g → S g
  ino : ∀ g, ov.ownBlock = some g → S g

section
variable {w w1 w' : World} {base p bn bs : Nat} {S T : Nat → Prop} {s : DB} {pv nv sv ov v' : Value} {l' : NmL}

theorem CD.keep (h : CD w base S p s bn bs pv) (hc : Chg T w w') (hT : ∀ k, S k → ¬ T k) : CD w' base S p s bn bs pv :=
  ⟨fun k hk => by have := h.foot k hk; have := hc.size; omega, by have := h.bas; have := hc.size; omega, h.inp, h.blk.chg hc (hT p h.inp), h.now.chg hc (hT _ h.inn), h.safe.chg hc (hT _ h.ins),
    own_chg h.pend hc (fun g hg => hT g (h.ino g hg)), h.inn, h.ins, h.ino, h.ne⟩
theorem CD.below (h : CD w base S p s bn bs pv) (hb : Below w.heap.size w w') : CD w' base S p s bn bs pv := h.keep (Chg.of_below hb (Nat.le_refl _) (fun _ => False)) (fun _ _ h => h)
theorem CD.mono (h : CD w base S p s bn bs pv) (hS : ∀ k, S k → T k) (hT : ∀ k, T k → base ≤ k ∧ k < w.heap.size) : CD w base T p s bn bs pv :=
  ⟨hT, h.bas, hS p h.inp, h.blk, h.now, h.safe, h.pend, hS _ h.inn, hS _ h.ins, fun g hg => hS g (h.ino g hg), h.ne⟩
theorem CD.pp (h : CD w base S p s bn bs pv) : pv.ownBlock ≠ some p := own_blk_ne h.pend h.blk (by decide)
theorem CD.np (h : CD w base S p s bn bs pv) : bn ≠ p := h.now.ne_blk h.blk
theorem CD.sp (h : CD w base S p s bn bs pv) : bs ≠ p := h.safe.ne_blk h.blk
theorem CD.cells (h : CD w base S p s bn bs pv) (hb : Below w.heap.size w w1) : w1.cell? ⟨p, 0, none⟩ = some (.map (some bn)) ∧ w1.cell? ⟨p, 1, none⟩ = some (.map (some bs)) ∧ w1.cell? ⟨p, 2, none⟩ = some pv ∧ w1.frozen? ⟨p, 2, none⟩ = false := by
  have hb : Blk w1 p 103 #[.map (some bn), .map (some bs), pv] := (h.below hb).blk
  exact ⟨hb.cell 0, hb.cell 1, hb.cell 2, hb.frozen 2⟩
/-- The map of the names as they are has turned. -/
theorem CD.setNow (h : CD w base S p s bn bs pv) (hm : MapAt w1 bn l') (hc : Chg (fun k => k = bn) w w1) : CD w1 base S p ⟨l', s.safe, s.ops⟩ bn bs pv :=
  ⟨fun k hk => by have := h.foot k hk; have := hc.size; omega, by have := h.bas; have := hc.size; omega, h.inp, h.blk.chg hc (fun e => h.np e.symm), hm, h.safe.chg hc (fun e => h.ne e.symm), own_chg h.pend hc (fun g hg e => h.now.ne_own h.pend hg e.symm), h.inn, h.ins, h.ino, h.ne⟩
/-- The map of what is safe has turned. -/
theorem CD.setSafe (h : CD w base S p s bn bs pv) (hm : MapAt w1 bs l') (hc : Chg (fun k => k = bs) w w1) : CD w1 base S p ⟨s.now, l', s.ops⟩ bn bs pv :=
  ⟨fun k hk => by have := h.foot k hk; have := hc.size; omega, by have := h.bas; have := hc.size; omega, h.inp, h.blk.chg hc (fun e => h.sp e.symm), h.now.chg hc (fun e => h.ne e), hm, own_chg h.pend hc (fun g hg e => h.safe.ne_own h.pend hg e.symm), h.inn, h.ins, h.ino, h.ne⟩
/-- One more of what was done. -/
theorem CD.push (h : CD w base S p s bn bs pv) {o : OpB} (hown : w1.ownsRow base 125 4 v' (s.ops.length + 1) (opsC (s.ops.map normO) ++ opC (normO o))) (hc : Chg (fun k => pv.ownBlock = some k) w w1) (hm : Moved w pv v') :
    CD (w1.setCell ⟨p, 2, none⟩ v') base (grow S w w1) p ⟨s.now, s.safe, s.ops ++ [o]⟩ bn bs v' := by
  have hb1 : Blk w1 p 103 #[.map (some bn), .map (some bs), pv] := h.blk.chg hc (fun e => h.pp e)
  have hn1 := h.now.chg hc (fun e => h.now.ne_own h.pend e rfl)
  have hs1 := h.safe.chg hc (fun e => h.safe.ne_own h.pend e rfl)
  have hsz := size_set w1 ⟨p, 2, none⟩ v'
  refine ⟨by rw [hsz]; exact chg_lt h.foot hc h.bas, by rw [hsz]; have := hc.size; have := h.bas; omega, .inl h.inp, by have := hb1.set_ 2 v'; simpa using this, hn1.chg (chg_set _ _ _) (fun e => h.np e), hs1.chg (chg_set _ _ _) (fun e => h.sp e), ?_, .inl h.inn, .inl h.ins, ?_, h.ne⟩
  · rw [List.length_append, List.map_append, opsC_append, List.map_cons, List.map_nil, opsC_one]
    exact ownsRow_setCell_other hown (own_blk_ne hown hb1 (by decide)) _
  · intro g hg
    rcases hm with e | ⟨k, e, hk⟩
    · exact .inl (h.ino g (by rw [← e]; exact hg))
    · rw [hg] at e; injection e with e; subst e
      exact .inr ⟨hk, (hown.lt g hg).2⟩
/-- Nothing is pending. -/
theorem CD.clear (h : CD w base S p s bn bs pv) : CD (w.setCell ⟨p, 2, none⟩ (.slice none 0 0)) base S p ⟨s.now, s.safe, []⟩ bn bs (.slice none 0 0) := by
  have hsz := size_set w ⟨p, 2, none⟩ (.slice none 0 0)
  refine ⟨by rw [hsz]; exact h.foot, by rw [hsz]; exact h.bas, h.inp, by have := h.blk.set_ 2 (.slice none 0 0); simpa using this, h.now.chg (chg_set _ _ _) (fun e => h.np e), h.safe.chg (chg_set _ _ _) (fun e => h.sp e), World.ownsRow_nil _ _ _ _, h.inn, h.ins, fun g hg => by simp [Value.ownBlock] at hg, h.ne⟩

theorem RD.keep (h : RD w base S p s nv sv ov) (hc : Chg T w w') (hT : ∀ k, S k → ¬ T k) : RD w' base S p s nv sv ov :=
  ⟨fun k hk => by have := h.foot k hk; have := hc.size; omega, by have := h.bas; have := hc.size; omega, h.inp, h.blk.chg hc (hT p h.inp), own_chg h.now hc (fun g hg => hT g (h.inn g hg)), own_chg h.safe hc (fun g hg => hT g (h.ins g hg)),
    own_chg h.pend hc (fun g hg => hT g (h.ino g hg)), h.inn, h.ins, h.ino⟩
theorem RD.below (h : RD w base S p s nv sv ov) (hb : Below w.heap.size w w') : RD w' base S p s nv sv ov := h.keep (Chg.of_below hb (Nat.le_refl _) (fun _ => False)) (fun _ _ h => h)
theorem RD.mono (h : RD w base S p s nv sv ov) (hS : ∀ k, S k → T k) (hT : ∀ k, T k → base ≤ k ∧ k < w.heap.size) : RD w base T p s nv sv ov :=
  ⟨hT, h.bas, hS p h.inp, h.blk, h.now, h.safe, h.pend, fun g hg => hS g (h.inn g hg), fun g hg => hS g (h.ins g hg), fun g hg => hS g (h.ino g hg)⟩
theorem RD.pn (h : RD w base S p s nv sv ov) : nv.ownBlock ≠ some p := own_blk_ne h.now h.blk (by decide)
theorem RD.ps (h : RD w base S p s nv sv ov) : sv.ownBlock ≠ some p := own_blk_ne h.safe h.blk (by decide)
theorem RD.pp (h : RD w base S p s nv sv ov) : ov.ownBlock ≠ some p := own_blk_ne h.pend h.blk (by decide)
theorem RD.cells (h : RD w base S p s nv sv ov) (hb : Below w.heap.size w w1) : w1.cell? ⟨p, 0, none⟩ = some nv ∧ w1.cell? ⟨p, 1, none⟩ = some sv ∧ w1.cell? ⟨p, 2, none⟩ = some ov ∧ w1.frozen? ⟨p, 0, none⟩ = false ∧ w1.frozen? ⟨p, 1, none⟩ = false ∧ w1.frozen? ⟨p, 2, none⟩ = false := by
  have hb : Blk w1 p 44 #[nv, sv, ov] := (h.below hb).blk
  exact ⟨hb.cell 0, hb.cell 1, hb.cell 2, hb.frozen 0, hb.frozen 1, hb.frozen 2⟩
/-- A row whose block is none of a kind stays when a cell of that kind is set. -/
theorem own_far {w : World} {g i : Nat} {t : TypeId} {cs : Array Value} (hb : Blk w g t cs) {e : TypeId} {b size n : Nat} {u : Value} {ys : List Value} (hu : w.ownsRow b e size u n ys) (hne : e ≠ t) (x : Value) : (w.setCell ⟨g, i, none⟩ x).ownsRow b e size u n ys := ownsRow_setCell_other hu (own_blk_ne hu hb hne) _
/-- Other names. -/
theorem RD.setNow (h : RD w base S p s nv sv ov) (hown : w1.ownsRow base 85 2 v' l'.length (namesC l')) (hc : Below w.heap.size w w1) (hm : ∀ g, v'.ownBlock = some g → nv.ownBlock = some g ∨ w.heap.size ≤ g) :
    RD (w1.setCell ⟨p, 0, none⟩ v') base (grow S w w1) p ⟨l', s.safe, s.ops⟩ v' sv ov := by
  have h1 := h.below hc
  have hsz := size_set w1 ⟨p, 0, none⟩ v'
  refine ⟨by rw [hsz]; exact chg_lt h.foot (Chg.of_below hc (Nat.le_refl _) (fun _ => False)) h.bas, by rw [hsz]; exact h1.bas, .inl h.inp, by have := h1.blk.set_ 0 v'; simpa using this, own_far h1.blk hown (by decide) _, own_far h1.blk h1.safe (by decide) _, own_far h1.blk h1.pend (by decide) _, ?_, fun g hg => .inl (h.ins g hg), fun g hg => .inl (h.ino g hg)⟩
  intro g hg
  rcases hm g hg with e | e
  · exact .inl (h.inn g e)
  · exact .inr ⟨e, (hown.lt g hg).2⟩
/-- One more of what was done. -/
theorem RD.push (h : RD w base S p s nv sv ov) {o : OpB} (hown : w1.ownsRow base 113 4 v' (s.ops.length + 1) (opsC s.ops ++ opC o)) (hc : Chg (fun k => ov.ownBlock = some k) w w1) (hm : Moved w ov v') :
    RD (w1.setCell ⟨p, 2, none⟩ v') base (grow S w w1) p ⟨s.now, s.safe, s.ops ++ [o]⟩ nv sv v' := by
  have hb1 : Blk w1 p 44 #[nv, sv, ov] := h.blk.chg hc (fun e => h.pp e)
  have hs1 := own_chg h.safe hc (fun g hg e => own_ne h.safe h.pend (by decide) g hg e)
  have hn1 := own_chg h.now hc (fun g hg e => own_ne h.now h.pend (by decide) g hg e)
  have hsz := size_set w1 ⟨p, 2, none⟩ v'
  refine ⟨by rw [hsz]; exact chg_lt h.foot hc h.bas, by rw [hsz]; have := hc.size; have := h.bas; omega, .inl h.inp, by have := hb1.set_ 2 v'; simpa using this, own_far hb1 hn1 (by decide) _, own_far hb1 hs1 (by decide) _, ?_, fun g hg => .inl (h.inn g hg), fun g hg => .inl (h.ins g hg), ?_⟩
  · rw [List.length_append, opsC_append, opsC_one]
    exact own_far hb1 hown (by decide) _
  · intro g hg
    rcases hm with e | ⟨k, e, hk⟩
    · exact .inl (h.ino g (by rw [← e]; exact hg))
    · rw [hg] at e; injection e with e; subst e
      exact .inr ⟨hk, (hown.lt g hg).2⟩
/-- What there is is safe; nothing is pending. -/
theorem RD.setSync (h : RD w base S p s nv sv ov) : RD ((w.setCell ⟨p, 1, none⟩ nv).setCell ⟨p, 2, none⟩ (.slice none 0 0)) base S p s.sync nv nv (.slice none 0 0) := by
  have hb2 := (h.blk.set_ 1 nv).set_ 2 (.slice none 0 0)
  have hsz : ((w.setCell ⟨p, 1, none⟩ nv).setCell ⟨p, 2, none⟩ (.slice none 0 0)).heap.size = w.heap.size := by rw [size_set, size_set]
  have hn := own_far (i := 2) (h.blk.set_ 1 nv) (own_far (i := 1) h.blk h.now (by decide) nv) (by decide) (.slice none 0 0)
  exact ⟨by rw [hsz]; exact h.foot, by rw [hsz]; exact h.bas, h.inp, by simpa using hb2, hn, hn, World.ownsRow_nil _ _ _ _, h.inn, h.inn, fun g hg => by simp [Value.ownBlock] at hg⟩
end

/-- The program's directory has turned: of the blocks that were there its own alone have. -/
def CDT (base : Nat) (S : Nat → Prop) (p : Nat) (s' : DB) (w w' : World) : Prop := Chg S w w' ∧ ∃ bn bs pv, CD w' base (grow S w w') p s' bn bs pv
/-- A function has told a directory of its own; what was there has not turned. -/
def CDnew (base : Nat) (s : DB) (w : World) (e : Ending) (w' : World) : Prop :=
  ∃ p bn bs pv, e = .returned (.pointer (some ⟨p, 0, none⟩)) ∧ Below w.heap.size w w' ∧ CD w' base (fun k => w.heap.size ≤ k ∧ k < w'.heap.size) p s bn bs pv
/-- The document's directory has turned. -/
def RDT (base : Nat) (S : Nat → Prop) (p : Nat) (s' : DB) (w w' : World) : Prop := Chg S w w' ∧ ∃ nv sv ov, RD w' base (grow S w w') p s' nv sv ov
def RDnew (base : Nat) (s : DB) (w : World) (e : Ending) (w' : World) : Prop :=
  ∃ p nv sv ov, e = .returned (.pointer (some ⟨p, 0, none⟩)) ∧ Below w.heap.size w w' ∧ RD w' base (fun k => w.heap.size ≤ k ∧ k < w'.heap.size) p s nv sv ov

section
variable {w w' : World} {base p bn bs : Nat} {S S' : Nat → Prop} {s : DB} {pv nv sv ov : Value}
theorem CDT.of (hc : Chg S w w') (h : CD w' base S' p s bn bs pv) (hS : ∀ k, S' k → S k ∨ w.heap.size ≤ k) (hf : ∀ k, S k → base ≤ k ∧ k < w.heap.size) (hb : base ≤ w.heap.size) : CDT base S p s w w' :=
  ⟨hc, bn, bs, pv, h.mono (fun k hk => by
    have := (h.foot k hk).2
    rcases hS k hk with h1 | h1
    · exact .inl h1
    · exact .inr ⟨h1, this⟩) (chg_lt hf hc hb)⟩
theorem CDT.same (h : CD w base S p s bn bs pv) : CDT base S p s w w := CDT.of (Chg.refl _ _) h (fun _ h => .inl h) h.foot h.bas
theorem RDT.of (hc : Chg S w w') (h : RD w' base S' p s nv sv ov) (hS : ∀ k, S' k → S k ∨ w.heap.size ≤ k) (hf : ∀ k, S k → base ≤ k ∧ k < w.heap.size) (hb : base ≤ w.heap.size) : RDT base S p s w w' :=
  ⟨hc, nv, sv, ov, h.mono (fun k hk => by
    have := (h.foot k hk).2
    rcases hS k hk with h1 | h1
    · exact .inl h1
    · exact .inr ⟨h1, this⟩) (chg_lt hf hc hb)⟩
theorem RDT.same (h : RD w base S p s nv sv ov) : RDT base S p s w w := RDT.of (Chg.refl _ _) h (fun _ h => .inl h) h.foot h.bas
end

end Go.Proofs.YtclglbddibjenaaGreat

/-
  PLAIN MATHEMATICS FOR LAYER 7, of no program: which texts may be names; how many names and ops there are behind any acts; what each call answers and does.
-/
set_option linter.unusedVariables false
namespace Go.Proofs.YtclglbddibjenaaGreat

/-! ### Right -/
def okR (c : Nat) : Bool := decide (33 ≤ c ∧ c ≤ 126 ∧ c ≠ 47)
def allR (s : ByteArray) : Bool := (List.range s.size).all fun i => okR (nthB s i)
def rightB (s : ByteArray) : Bool := decide (1 ≤ s.size ∧ s.size ≤ 100) && allR s
theorem allR_iff (s : ByteArray) : allR s = true ↔ ∀ i, i < s.size → okR (nthB s i) = true := by
  unfold allR
  rw [List.all_eq_true]
  simp only [List.mem_range]
theorem rightB_iff (s : ByteArray) : rightB s = true ↔ 1 ≤ s.size ∧ s.size ≤ 100 ∧ ∀ i, i < s.size → okR (nthB s i) = true := by
  unfold rightB
  rw [Bool.and_eq_true, decide_eq_true_eq, allR_iff]
  exact ⟨fun ⟨⟨a, b⟩, c⟩ => ⟨a, b, c⟩, fun ⟨a, b, c⟩ => ⟨⟨a, b⟩, c⟩⟩
theorem rightB_no {s : ByteArray} (h : ¬ (1 ≤ s.size ∧ s.size ≤ 100 ∧ ∀ i, i < s.size → okR (nthB s i) = true)) : rightB s = false := by
  cases hn : rightB s with
  | false => rfl
  | true => exact absurd ((rightB_iff s).1 hn) h
/-- Of a byte: each test that the code makes. -/
theorem cls7 (c : Nat) : (okR c = true ∧ decide ((c : Int) < 33) = false ∧ decide ((126 : Int) < c) = false ∧ ((c : Int) == 47) = false) ∨
    (okR c = false ∧ (decide ((c : Int) < 33) = true ∨ (decide ((c : Int) < 33) = false ∧ decide ((126 : Int) < c) = true) ∨ (decide ((c : Int) < 33) = false ∧ decide ((126 : Int) < c) = false ∧ ((c : Int) == 47) = true))) := by
  have h47 : ((c : Int) == 47) = decide (c = 47) := by rw [Bool.eq_iff_iff]; simp; omega
  rw [h47]
  unfold okR
  by_cases a1 : c < 33
  · exact .inr ⟨decide_eq_false (by omega), .inl (decide_eq_true (by omega))⟩
  · by_cases a2 : 126 < c
    · exact .inr ⟨decide_eq_false (by omega), .inr (.inl ⟨decide_eq_false (by omega), decide_eq_true (by omega)⟩)⟩
    · by_cases a3 : c = 47
      · exact .inr ⟨decide_eq_false (by omega), .inr (.inr ⟨decide_eq_false (by omega), decide_eq_false (by omega), decide_eq_true a3⟩)⟩
      · exact .inl ⟨decide_eq_true (by omega), decide_eq_false (by omega), decide_eq_false (by omega), decide_eq_false a3⟩

/-! ### how many, how long -/
theorem woN_length : ∀ (l : NmL) (x : ByteArray), (woN l x).length ≤ l.length
  | [], _ => Nat.le_refl _
  | p :: r, x => by
    have := woN_length r x
    unfold woN
    split
    · exact Nat.le_succ_of_le this
    · simp only [List.length_cons]; omega
theorem insN_length : ∀ (l : NmL) (x : ByteArray) (i : Int), (insN cfT l x i).length = l.length + 1
  | [], _, _ => rfl
  | p :: r, x, i => by
    unfold insN
    split
    · rfl
    · simp only [List.length_cons]; rw [insN_length r x i]
theorem withN_length (l : NmL) (x : ByteArray) (i : Int) : (withN cfT l x i).length ≤ l.length + 1 := by
  unfold withN; rw [insN_length]; have := woN_length l x; omega
theorem didN_length (l : NmL) (o : OpB) : (didN cfT l o).length ≤ l.length + 1 := by
  unfold didN
  split
  · exact withN_length _ _ _
  · split
    · omega
    · split
      · next h _ => 
        unfold withN
        rw [insN_length]
        have h1 := woN_length (woN l o.a) o.b
        have h2 := woN_length l o.a
        omega
      · have := woN_length l o.a; omega
theorem crashN_length : ∀ (ops : List OpB) (l : NmL) (ks : List Bool), (crashN cfT l ops ks).length ≤ l.length + ops.length
  | [], l, ks => by cases ks <;> simp [crashN]
  | o :: r, l, [] => by simp [crashN]
  | o :: r, l, k :: ks => by
    have h1 := crashN_length r (if k then didN cfT l o else l) ks
    have h2 := didN_length l o
    show (crashN cfT (if k then didN cfT l o else l) r ks).length ≤ _
    simp only [List.length_cons]
    cases k
    · simp only [Bool.false_eq_true, if_false] at h1 ⊢; omega
    · simp only [if_true] at h1 ⊢; omega

/-- Names that a machine holds. -/
def okN (p : ByteArray × Int) : Prop := p.1.size ≤ 200 ∧ (Lit.int .i64 p.2).wf = true
structure OkO (o : OpB) : Prop where
  a : o.a.size ≤ 200
  b : o.b.size ≤ 200
  id : (Lit.int .i64 o.id).wf = true
  kind : o.kind = 0 ∨ o.kind = 1 ∨ o.kind = 2
theorem wo_ok {l : NmL} (h : ∀ p ∈ l, okN p) (x : ByteArray) : ∀ p ∈ woN l x, okN p := fun p hp => h p (wo_mem l x p hp)
theorem with_ok {l : NmL} (h : ∀ p ∈ l, okN p) {x : ByteArray} {i : Int} (hx : okN (x, i)) : ∀ p ∈ withN cfT l x i, okN p := fun p hp => by
  rcases ins_mem _ _ _ _ hp with rfl | hp
  · exact hx
  · exact wo_ok h x p hp
theorem get_ok {l : NmL} (h : ∀ p ∈ l, okN p) {x : ByteArray} {i : Int} (hg : getN l x = some i) : (Lit.int .i64 i).wf = true := by
  induction l with
  | nil => cases hg
  | cons p r ih =>
    rw [getN_cons] at hg
    split at hg
    · injection hg with hg
      subst hg
      exact (h p (List.mem_cons_self ..)).2
    · exact ih (fun q hq => h q (List.mem_cons_of_mem _ hq)) hg
theorem did_ok {l : NmL} (h : ∀ p ∈ l, okN p) {o : OpB} (ho : OkO o) : ∀ p ∈ didN cfT l o, okN p := by
  unfold didN
  split
  · exact with_ok h ⟨ho.a, ho.id⟩
  · split
    · exact h
    · next i hi =>
      split
      · exact with_ok (wo_ok h _) ⟨ho.b, get_ok h hi⟩
      · exact wo_ok h _
theorem crash_ok : ∀ (ops : List OpB) (l : NmL) (ks : List Bool), (∀ p ∈ l, okN p) → (∀ o ∈ ops, OkO o) → ∀ p ∈ crashN cfT l ops ks, okN p
  | [], l, ks, h, _ => by cases ks <;> exact h
  | o :: r, l, [], h, _ => h
  | o :: r, l, k :: ks, h, ho => by
    show ∀ p ∈ crashN cfT (if k then didN cfT l o else l) r ks, okN p
    refine crash_ok r _ ks ?_ (fun q hq => ho q (List.mem_cons_of_mem _ hq))
    split
    · exact did_ok h (ho o (List.mem_cons_self ..))
    · exact h

/-- No more than N of anything. -/
structure GoodD (s : DB) (N : Nat) : Prop where
  riseN : RiseN cfT s.now
  riseS : RiseN cfT s.safe
  now : s.now.length ≤ N
  safe : s.safe.length + s.ops.length ≤ N
  okn : ∀ p ∈ s.now, okN p
  oks : ∀ p ∈ s.safe, okN p
  oko : ∀ o ∈ s.ops, OkO o
  inv : s.now = s.ops.foldl (didN cfT) s.safe

def newD : DB := ⟨[], [], []⟩
theorem newD_good : GoodD newD 0 := ⟨List.Pairwise.nil, List.Pairwise.nil, Nat.le_refl _, Nat.le_refl _, fun p h => (List.not_mem_nil h).elim, fun p h => (List.not_mem_nil h).elim, fun p h => (List.not_mem_nil h).elim, rfl⟩
theorem GoodD.more {s : DB} {N M : Nat} (h : GoodD s N) (hN : N ≤ M) : GoodD s M := ⟨h.riseN, h.riseS, Nat.le_trans h.now hN, Nat.le_trans h.safe hN, h.okn, h.oks, h.oko, h.inv⟩
theorem GoodD.push {s : DB} {N : Nat} (h : GoodD s N) {o : OpB} (ho : OkO o) : GoodD ⟨didN cfT s.now o, s.safe, s.ops ++ [o]⟩ (N + 1) :=
  ⟨didN_rises cfT_tot h.riseN o, h.riseS, Nat.le_trans (didN_length _ _) (Nat.succ_le_succ h.now), by have := h.safe; simp; omega, did_ok h.okn ho, h.oks, fun q hq => by
    rcases List.mem_append.1 hq with hq | hq
    · exact h.oko q hq
    · simp at hq; subst hq; exact ho, by rw [List.foldl_append, ← h.inv]; rfl⟩
theorem GoodD.sync {s : DB} {N : Nat} (h : GoodD s N) : GoodD s.sync N := ⟨h.riseN, h.riseN, h.now, by have := h.now; simp [DN.sync]; omega, h.okn, h.okn, fun q hq => (List.not_mem_nil hq).elim, rfl⟩
theorem GoodD.crash {s : DB} {N : Nat} (h : GoodD s N) (ks : List Bool) : GoodD (s.crash cfT ks) N := by
  have hl := crashN_length s.ops s.safe ks
  have := h.safe
  have hr := crashN_rises cfT_tot s.ops s.safe ks h.riseS
  have hk := crash_ok s.ops s.safe ks h.oks h.oko
  exact ⟨hr, hr, by show (crashN cfT s.safe s.ops ks).length ≤ N; omega, by show (crashN cfT s.safe s.ops ks).length + 0 ≤ N; omega, hk, hk, fun q hq => (List.not_mem_nil hq).elim, rfl⟩
theorem crash_sync (s : DB) (ks : List Bool) : s.sync.crash cfT ks = ⟨s.now, s.now, []⟩ := by
  unfold DN.crash DN.sync
  cases ks <;> rfl

/-- What is safe, with the first k of what is pending done to it. -/
def behind (s : DB) (k : Nat) : NmL := (s.ops.take k).foldl (didN cfT) s.safe
theorem behind_next {s : DB} {k : Nat} {o : OpB} (h : s.ops[k]? = some o) : behind s (k + 1) = didN cfT (behind s k) o := by
  obtain ⟨hlt, he⟩ := List.getElem?_eq_some_iff.1 h
  unfold behind
  rw [List.take_succ_eq_append_getElem hlt, List.foldl_append, he]; rfl
theorem behind_ok {s : DB} {N : Nat} (h : GoodD s N) (k : Nat) : (behind s k).length ≤ N ∧ ∀ p ∈ behind s k, okN p := by
  have hs := h.safe
  suffices H : ∀ (ops : List OpB) (l : NmL), (∀ o ∈ ops, OkO o) → (∀ p ∈ l, okN p) → (ops.foldl (didN cfT) l).length ≤ l.length + ops.length ∧ ∀ p ∈ ops.foldl (didN cfT) l, okN p by
    obtain ⟨h1, h2⟩ := H (s.ops.take k) s.safe (fun o ho => h.oko o (List.mem_of_mem_take ho)) h.oks
    refine ⟨?_, h2⟩
    rw [List.length_take] at h1
    have h3 : (behind s k).length ≤ s.safe.length + min k s.ops.length := h1
    omega
  intro ops
  induction ops with
  | nil => exact fun l _ h => ⟨Nat.le_refl _, h⟩
  | cons o r ih =>
    intro l ho hl
    obtain ⟨h1, h2⟩ := ih (didN cfT l o) (fun q hq => ho q (List.mem_cons_of_mem _ hq)) (did_ok hl (ho o (List.mem_cons_self ..)))
    have := didN_length l o
    refine ⟨?_, h2⟩
    simp only [List.foldl_cons, List.length_cons]
    omega

/-! ### what a call answers and does -/
def hasB (l : NmL) (x : ByteArray) : Bool := (getN l x).isSome
/-- What Do answers. -/
def doE (l : NmL) (o : OpB) : Int := if o.kind = 0 then (if hasB l o.a then 7 else if rightB o.a then 0 else 1) else if o.kind = 1 then (if hasB l o.a then (if rightB o.b then 0 else 1) else 6) else (if hasB l o.a then 0 else 6)
def doS (s : DB) (o : OpB) : DB := if doE s.now o = 0 then ⟨didN cfT s.now o, s.safe, s.ops ++ [o]⟩ else s
theorem GoodD.do_ {s : DB} {N : Nat} (h : GoodD s N) {o : OpB} (ho : OkO o) : GoodD (doS s o) (N + 1) := by
  unfold doS
  split
  · exact h.push ho
  · exact h.more (Nat.le_succ _)

end Go.Proofs.YtclglbddibjenaaGreat

/-
  LAYER 7: WHAT New, made, Right, Get, has AND Pending DO: contracts.
-/
set_option linter.unusedVariables false
set_option linter.unusedSimpArgs false
namespace Go.Proofs.YtclglbddibjenaaGreat
open Go.RowKit

/-! ### New -/
abbrev newW (w : World) : World := ((w.alloc (.map #[] 0)).alloc (.map #[] 0)).alloc (.cells #[.map (some w.heap.size), .map (some (w.heap.size + 1)), .slice none 0 0] 103)
theorem newW_size (w : World) : (newW w).heap.size = w.heap.size + 3 := by simp [newW]
theorem newW_below (w : World) : Below w.heap.size w (newW w) := (((Below.refl _ _).alloc (Nat.le_refl _) _).alloc (by simp) _).alloc (by simp; omega) _
theorem newW_CD (w : World) (base : Nat) (hb : base ≤ w.heap.size) : CD (newW w) base (fun k => w.heap.size ≤ k ∧ k < (newW w).heap.size) (w.heap.size + 2) newD w.heap.size (w.heap.size + 1) (.slice none 0 0) := by
  have hsz := newW_size w
  have h1 : (w.alloc (.map #[] 0)).heap.size = w.heap.size + 1 := by simp
  have h2 : ((w.alloc (.map #[] 0)).alloc (.map #[] 0)).heap.size = w.heap.size + 2 := by simp
  have m1 := ((MapAt.new w).below ((Below.refl _ _).alloc (Nat.le_refl _) (.map #[] 0))).below ((Below.refl _ _).alloc (Nat.le_refl _) (.cells #[.map (some w.heap.size), .map (some (w.heap.size + 1)), .slice none 0 0] 103))
  have m2 := (MapAt.new (w.alloc (.map #[] 0))).below ((Below.refl _ _).alloc (Nat.le_refl _) (.cells #[.map (some w.heap.size), .map (some (w.heap.size + 1)), .slice none 0 0] 103))
  rw [h1] at m2
  have hb3 := Blk.new ((w.alloc (.map #[] 0)).alloc (.map #[] 0)) 103 #[.map (some w.heap.size), .map (some (w.heap.size + 1)), .slice none 0 0]
  rw [h2] at hb3
  exact ⟨fun k hk => by omega, by omega, by omega, hb3, m1, m2, World.ownsRow_nil _ _ _ _, by omega, by omega, fun g hg => by simp [Value.ownBlock] at hg, by omega⟩

theorem dnew_any (w : World) : Calls Tryz.prog 33 #[] w fun e w' => e = .returned (.pointer (some ⟨w.heap.size + 2, 0, none⟩)) ∧ Hid (w' = newW w) := by
  have hmm := @run_makeMap Tryz.prog
  go_enter Tryz.func33, Tryz.ntmps33
  go_wp2
  go_ret
  exact ⟨by simp, Lib.hid (by simp [newW])⟩

/-! ### made, Get, has, Pending -/
theorem made_yes (p bn : Nat) (w : World) (h : w.cell? ⟨p, 0, none⟩ = some (.map (some bn))) :
    Calls Tryz.prog 58 #[.pointer (some ⟨p, 0, none⟩)] w fun e w' => e = .returned (.bool true) ∧ w = w' := by
  have qT : ∀ (r : Option Nat) (w : World), (binOp .neq 100 (.map r) (.map none)).run Tryz.prog w = .ok (.bool (!r.isNone)) w := fun r w => run_neq_map_nil w 100 9 3 r Tryz.underlying100
  go_enter Tryz.func58, Tryz.ntmps58
  go_wp2
  go_ret
  exact ⟨rfl, rfl⟩
theorem made_nil (w : World) :
    Calls Tryz.prog 58 #[.pointer none] w fun e w' => e = .returned (.bool false) ∧ w = w' := by
  go_enter Tryz.func58, Tryz.ntmps58
  go_wp2
  go_ret
  exact ⟨rfl, rfl⟩
theorem made_zero (p : Nat) (w : World) (h : w.cell? ⟨p, 0, none⟩ = some (.map none)) :
    Calls Tryz.prog 58 #[.pointer (some ⟨p, 0, none⟩)] w fun e w' => e = .returned (.bool false) ∧ w = w' := by
  have qT : ∀ (r : Option Nat) (w : World), (binOp .neq 100 (.map r) (.map none)).run Tryz.prog w = .ok (.bool (!r.isNone)) w := fun r w => run_neq_map_nil w 100 9 3 r Tryz.underlying100
  go_enter Tryz.func58, Tryz.ntmps58
  go_wp2
  go_ret
  exact ⟨rfl, rfl⟩

theorem dget_any (p bn : Nat) (l : NmL) (x : ByteArray) (w : World) (h : w.cell? ⟨p, 0, none⟩ = some (.map (some bn))) (hm : MapAt w bn l) (hx : x.size ≤ maxLen) :
    Calls Tryz.prog 81 #[.pointer (some ⟨p, 0, none⟩), .string x] w fun e w' => e = .returned (.tuple #[.int .i64 ((getN l x).getD 0), .bool (getN l x).isSome]) ∧ w = w' := by
  have HM := Lib.hid hm
  have HX := Lib.hid hx
  clear hm hx
  go_enter Tryz.func81, Tryz.ntmps81
  go_wp2_with (first
    | (go_at_call 58; refine (made_yes p bn w h).mono ?_; rintro e w9 ⟨rfl, rfl⟩)
    | (at_lookup; refine wpList_look _ rfl _ _ rfl bn l HM.out rfl x rfl HX.out ?_))
  go_ret2
  exact ⟨rfl, rfl⟩
theorem dhas_any (p bn : Nat) (l : NmL) (x : ByteArray) (w : World) (h : w.cell? ⟨p, 0, none⟩ = some (.map (some bn))) (hm : MapAt w bn l) (hx : x.size ≤ maxLen) :
    Calls Tryz.prog 97 #[.pointer (some ⟨p, 0, none⟩), .string x] w fun e w' => e = .returned (.bool (hasB l x)) ∧ w = w' := by
  have G := Lib.hid (dget_any p bn l x w h hm hx)
  clear h hm hx
  go_enter Tryz.func97, Tryz.ntmps97
  go_wp2_with (go_at_call 81; refine G.out.mono ?_; rintro e w9 ⟨rfl, rfl⟩)
  go_ret
  exact ⟨rfl, rfl⟩
theorem dpend_any (p bn n : Nat) (A : Option Addr) (c : Nat) (w : World) (h : w.cell? ⟨p, 0, none⟩ = some (.map (some bn))) (h2 : w.cell? ⟨p, 2, none⟩ = some (.slice A n c)) :
    Calls Tryz.prog 46 #[.pointer (some ⟨p, 0, none⟩)] w fun e w' => e = .returned (.int .i64 n) ∧ w = w' := by
  go_enter Tryz.func46, Tryz.ntmps46
  go_wp2_with (go_at_call 58; refine (made_yes p bn w h).mono ?_; rintro e w9 ⟨rfl, rfl⟩)
  go_ret
  exact ⟨rfl, rfl⟩

/-! ### Right -/
theorem right_any (s : ByteArray) (w : World) (hs : s.size ≤ maxLen) :
    Calls Tryz.prog 98 #[.string s] w fun e w' => e = .returned (.bool (rightB s)) ∧ w = w' := by
  unfold maxLen at hs
  by_cases h0 : s.size = 0
  · have hn : rightB s = false := rightB_no (by omega)
    rw [hn]
    clear hn
    have he : s.toList = [] := by rw [_root_.Go.ByteArray.toList_eq]; exact List.eq_nil_of_length_eq_zero (by simpa using h0)
    go_enter Tryz.func98, Tryz.ntmps98
    go_wp2
    go_ret
    exact ⟨rfl, rfl⟩
  have he1 : s.toList.isEmpty = false := by rw [_root_.Go.ByteArray.toList_eq, List.isEmpty_eq_false_iff]; intro e; exact h0 (by simpa using congrArg List.length e)
  have hp : 0 < s.size := by omega
  by_cases h64 : 100 < s.size
  · have hn : rightB s = false := rightB_no (by omega)
    rw [hn]
    have h64i : (100 : Int) < s.size := by omega
    clear hn h0
    go_enter Tryz.func98, Tryz.ntmps98
    go_wp2
    go_ret
    exact ⟨rfl, rfl⟩
  have hle : s.size ≤ 100 := by omega
  have h64i : ¬ (100 : Int) < s.size := by omega
  clear hs h64 h0
  go_enter Tryz.func98, Tryz.ntmps98
  go_wp2
  go_loop [3, 13] (fun _ i => ∃ k : Nat, k ≤ s.size ∧ Hid (∀ j, j < k → okR (nthB s j) = true) ∧ i = .int .i64 k) (fun _ i => s.size - (intOf i).toNat)
  case atStart => exact ⟨0, Nat.zero_le _, Lib.hid (fun j hj => absurd hj (by omega)), rfl⟩
  case round =>
    obtain ⟨k, hk, hall, rfl⟩ := hrel
    by_cases hlt : k < s.size
    · have nk := nthB_get s k hlt
      have hlti : (k : Int) < s.size := by omega
      rcases cls7 s[k].toNat with ⟨ho, d1, d2, d3⟩ | ⟨ho, hc⟩
      · have hok : okR (nthB s k) = true := by rw [nk]; exact ho
        have HK := Lib.hid hok
        clear ho hok nk
        go_wp2
        clear d1 d2 d3
        go_round
        case rel => exact ⟨k + 1, by omega, Lib.hid (fun j hj => by
          rcases Nat.lt_or_ge j k with e | e
          · exact hall.out j e
          · obtain rfl : j = k := by omega
            exact HK.out), by go_num⟩
        case measure => simp [intOf]; omega
      · have hn : rightB s = false := rightB_no fun hh => by
          have := hh.2.2 k hlt
          rw [nk, ho] at this
          cases this
        have HN := Lib.hid hn
        clear ho hn nk
        rcases hc with d1 | ⟨d1, d2⟩ | ⟨d1, d2, d3⟩
        all_goals
          go_wp2
          go_ret
          exact ⟨ret_bool HN.out.symm, rfl⟩
    · obtain rfl : k = s.size := by omega
      have hn := Lib.hid ((rightB_iff s).2 ⟨hp, hle, hall.out⟩)
      go_wp2
      go_ret
      exact ⟨ret_bool hn.out.symm, rfl⟩

theorem rright_any (s : ByteArray) (w : World) (hs : s.size ≤ maxLen) :
    Calls Tryz.prog 104 #[.string s] w fun e w' => e = .returned (.bool (rightB s)) ∧ w = w' := by
  unfold maxLen at hs
  go_enter Tryz.func104, Tryz.ntmps104
  go_wp2
  go_loop [3] (fun i => ∃ k : Nat, k ≤ s.size ∧ Hid (∀ j, j < k → okR (nthB s j) = true) ∧ i = .int .i64 k) (fun i => s.size - (intOf i).toNat)
  case atStart => exact ⟨0, Nat.zero_le _, Lib.hid (fun j hj => absurd hj (by omega)), rfl⟩
  case round =>
    obtain ⟨k, hk, hall, rfl⟩ := hrel
    by_cases hlt : k < s.size
    · have nk := nthB_get s k hlt
      have hlti : (k : Int) < s.size := by omega
      rcases cls7 s[k].toNat with ⟨ho, d1, d2, d3⟩ | ⟨ho, hc⟩
      · have hok : okR (nthB s k) = true := by rw [nk]; exact ho
        have HK := Lib.hid hok
        clear ho hok nk
        go_wp2
        clear d1 d2 d3
        go_round
        case rel => exact ⟨k + 1, by omega, Lib.hid (fun j hj => by
          rcases Nat.lt_or_ge j k with e | e
          · exact hall.out j e
          · obtain rfl : j = k := by omega
            exact HK.out), by go_num⟩
        case measure => simp [intOf]; omega
      · have hn : rightB s = false := rightB_no fun hh => by
          have := hh.2.2 k hlt
          rw [nk, ho] at this
          cases this
        have HN := Lib.hid hn
        clear ho hn nk
        rcases hc with d1 | ⟨d1, d2⟩ | ⟨d1, d2, d3⟩
        all_goals
          go_wp2
          go_ret
          exact ⟨ret_bool HN.out.symm, rfl⟩
    · obtain rfl : k = s.size := by omega
      by_cases h0 : s.size = 0
      · have hn := Lib.hid (rightB_no (s := s) (by omega))
        have h1 : ¬ 1 ≤ (s.size : Int) := by omega
        have H0 := Lib.hid h0
        clear h0
        go_wp2
        go_ret
        exact ⟨ret_bool hn.out.symm, rfl⟩
      · by_cases h64 : s.size ≤ 100
        · have hn := Lib.hid ((rightB_iff s).2 ⟨by omega, h64, hall.out⟩)
          have h1 : 1 ≤ (s.size : Int) := by omega
          have h2 : (s.size : Int) ≤ 100 := by omega
          go_wp2
          go_ret
          exact ⟨ret_bool hn.out.symm, rfl⟩
        · have hn := Lib.hid (rightB_no (s := s) (by omega))
          have h1 : 1 ≤ (s.size : Int) := by omega
          have h2 : ¬ (s.size : Int) ≤ 100 := by omega
          go_wp2
          go_ret
          exact ⟨ret_bool hn.out.symm, rfl⟩

end Go.Proofs.YtclglbddibjenaaGreat

/-
  LAYER 7: WHAT strings.Clone, do AND maps.Copy DO: contracts.
-/
set_option linter.unusedVariables false
set_option linter.unusedSimpArgs false
namespace Go.Proofs.YtclglbddibjenaaGreat
open Go.RowKit

theorem sclone_any (s : ByteArray) (w : World) (hs : s.size ≤ 1000) : Calls Tryz.prog 115 #[.string s] w fun e w' => e = .returned (.string s) ∧ Below w.heap.size w w' := by
  have C : Calls Tryz.prog 139 #[.string s] w fun e w' => e = .returned (.string s) ∧ Below w.heap.size w w' := AnyPu.stringslite_Clone Tryz.layClone s w (by omega)
  have HC := Lib.hid C
  clear C
  go_enter Tryz.func115, Tryz.ntmps115
  go_wp2_with (go_at_call 139; refine HC.out.mono ?_; rintro e w1 ⟨rfl, hb⟩)
  go_ret
  exact ⟨rfl, hb⟩

/-- The box in which a step lies. -/
theorem box4 (w : World) (t : TypeId) (a b c d : Value) {w' : World} {T : Nat → Prop} (hc : Chg T (w.alloc (.cells #[a, b, c, d] t)) w') (hT : ¬ T w.heap.size) :
    w'.cell? ⟨w.heap.size, 0, none⟩ = some a ∧ w'.cell? ⟨w.heap.size, 1, none⟩ = some b ∧ w'.cell? ⟨w.heap.size, 2, none⟩ = some c ∧ w'.cell? ⟨w.heap.size, 3, none⟩ = some d := by
  have h := (Blk.new w t #[a, b, c, d]).chg hc hT
  exact ⟨h.cell 0, h.cell 1, h.cell 2, h.cell 3⟩

set_option maxHeartbeats 1000000 in
theorem do_any (o : OpB) (b : Nat) (l : NmL) (w : World) (h : MapAt w b l) (hl : l.length < 999990) (ho : OkO o) (hn : ∀ p ∈ l, okN p) :
    Calls Tryz.prog 85 #[.agg #[.int .i64 o.kind, .string o.a, .string o.b, .int .i64 o.id], .map (some b)] w fun e w' => e = .returned (.tuple #[]) ∧ MapAt w' b (didN cfT l o) ∧ Chg (fun k => k = b) w w' := by
  obtain ⟨kind, x, y, id⟩ := o
  have hx : x.size ≤ maxLen := by have := ho.a; unfold maxLen; simp only at this; omega
  have hy : y.size ≤ maxLen := by have := ho.b; unfold maxLen; simp only at this; omega
  have hid : (Lit.int .i64 id).wf = true := ho.id
  have hlt := h.lt
  have h1 := h.below ((Below.refl _ _).alloc (Nat.le_refl _) (.cells #[.int .i64 kind, .string x, .string y, .int .i64 id] 125))
  have hne : ¬ w.heap.size = b := by omega
  have HB := Lib.hid (fun (w' : World) (hc : Chg (fun k => k = b) (w.alloc (.cells #[.int .i64 kind, .string x, .string y, .int .i64 id] 125)) w') => box4 w _ _ _ _ _ hc hne)
  have HC := Lib.hid (fun (w' : World) (hc : Chg (fun k => k = b) (w.alloc (.cells #[.int .i64 kind, .string x, .string y, .int .i64 id] 125)) w') => (show Chg (fun k => k = b) w w' from ((Chg.refl _ w).alloc _).trans hc (fun _ _ h => h)))
  have HM := Lib.hid h1
  have HX := Lib.hid (And.intro hx (And.intro hy hid))
  have HL := Lib.hid hl
  have hw := woN_length l x
  have HW := Lib.hid hw
  have HG := Lib.hid (fun i (hg : getN l x = some i) => get_ok hn hg)
  have hk := ho.kind
  simp only at hk
  clear h h1 hx hy hid ho hl hw hn hlt
  rcases hk with rfl | rfl | rfl
  · have HD := Lib.hid (show didN cfT l ⟨0, x, y, id⟩ = withN cfT l x id by unfold didN; rw [if_pos rfl])
    go_enter Tryz.func85, Tryz.ntmps85
    go_wp2_with (at_mapUpdate; go_loud (refine wpList_put _ rfl _ _ _ rfl b l HM.out (by have := HL.out; omega) rfl x rfl HX.out.1 id rfl HX.out.2.2 ?_; intro w1 hm1 hc1; have H1 := Lib.hid hm1; have H2 := Lib.hid hc1; clear hm1 hc1))
    go_end0
    exact ⟨rfl, by rw [HD.out]; exact H1.out, HC.out _ H2.out⟩
  · cases hg : getN l x with
    | none =>
      have HD := Lib.hid (show didN cfT l ⟨1, x, y, id⟩ = l by unfold didN; rw [if_neg (show ¬ (1 : Int) = 0 by omega)]; simp only; rw [hg])
      have hi : (getN l x).isSome = false := by rw [hg]; rfl
      clear hg
      go_enter Tryz.func85, Tryz.ntmps85
      go_wp2_with (at_lookup; go_loud (refine wpList_look _ rfl _ _ rfl b l HM.out rfl x rfl HX.out.1 ?_))
      go_end0
      exact ⟨rfl, by rw [HD.out]; exact HM.out, HC.out _ (Chg.refl _ _)⟩
    | some i =>
      have HD := Lib.hid (show didN cfT l ⟨1, x, y, id⟩ = withN cfT (woN l x) y i by unfold didN; rw [if_neg (show ¬ (1 : Int) = 0 by omega)]; simp only; rw [hg]; rfl)
      have hi : (getN l x).isSome = true := by rw [hg]; rfl
      have hd : (getN l x).getD 0 = i := by rw [hg]; rfl
      have HI := Lib.hid (HG.out i hg)
      clear hg
      go_enter Tryz.func85, Tryz.ntmps85
      go_wp2_with (first
        | (at_lookup; go_loud (refine wpList_look _ rfl _ _ rfl b l HM.out rfl x rfl HX.out.1 ?_))
        | (at_delete; go_loud (refine wpList_del _ rfl _ _ rfl b l HM.out rfl x rfl HX.out.1 ?_; intro w1 hm1 hc1; obtain ⟨e0, e1, e2, e3⟩ := HB.out w1 hc1; have H1 := Lib.hid hm1; have H2 := Lib.hid hc1; clear hm1 hc1))
        | (at_mapUpdate; go_loud (refine wpList_put _ rfl _ _ _ rfl b (woN l x) H1.out (by have := HL.out; have := HW.out; omega) rfl y rfl HX.out.2.1 i rfl HI.out ?_; intro w2 hm2 hc2; have H3 := Lib.hid hm2; have H4 := Lib.hid hc2; clear hm2 hc2)))
      go_end0
      exact ⟨rfl, by rw [HD.out]; exact H3.out, HC.out _ (H2.out.trans H4.out (fun _ _ h => h))⟩
  · have HD := Lib.hid (show didN cfT l ⟨2, x, y, id⟩ = woN l x by
      unfold didN
      rw [if_neg (show ¬ (2 : Int) = 0 by omega)]
      simp only
      cases hg : getN l x with
      | none => exact (woN_none l x hg).symm
      | some i => rfl)
    go_enter Tryz.func85, Tryz.ntmps85
    go_wp2_with (at_delete; go_loud (refine wpList_del _ rfl _ _ rfl b l HM.out rfl x rfl HX.out.1 ?_; intro w1 hm1 hc1; have H1 := Lib.hid hm1; have H2 := Lib.hid hc1; clear hm1 hc1))
    go_end0
    exact ⟨rfl, by rw [HD.out]; exact H1.out, HC.out _ H2.out⟩

/-- Names copied onto nothing. -/
theorem copy_any (bd bs : Nat) (l : NmL) (w : World) (hd : MapAt w bd []) (hs : MapAt w bs l) (hne : bd ≠ bs) (hl : l.length ≤ 1000000) :
    Calls Tryz.prog 88 #[.map (some bd), .map (some bs)] w fun e w' => e = .returned (.tuple #[]) ∧ MapAt w' bd l ∧ Chg (fun k => k = bd) w w' := by
  obtain ⟨Dd, hod, htd⟩ := hd
  obtain ⟨Ds, hos, hts⟩ := hs
  have hsz := keys_size hos hts
  have hszd := keys_size hod htd
  have C := AnyX.maps_Copy (H := Unit) Tryz.layCopy strKeyed intE bd bs _ _ Dd Ds w hod hos hne (by rw [hsz]; simp only [List.length_nil]; unfold maxLen; omega)
  refine C.mono ?_
  rintro e w' ⟨rfl, h1, h2, h3⟩
  obtain ⟨es, rfl, hp, hk⟩ := hos.entries strKeyed
  obtain ⟨esd, rfl⟩ := hod.isMap
  have he : esd = [] := List.eq_nil_of_length_eq_zero (by simpa [Maps.size] using hszd)
  subst he
  exact ⟨rfl, MapAt.of h1 (hts.merge hp hk), (Chg.of_grown h3).mono (fun k _ e => by injection e with e; exact e.symm)⟩

end Go.Proofs.YtclglbddibjenaaGreat

/-
  LAYER 7: WHAT did DOES: its contract.
-/
set_option linter.unusedVariables false
set_option linter.unusedSimpArgs false
namespace Go.Proofs.YtclglbddibjenaaGreat
open Go.RowKit

/-- The box holds a step. -/
abbrev Box4 (w : World) (g : Nat) (k : Int) (x y : ByteArray) (i : Int) : Prop := w.cell? ⟨g, 0, none⟩ = some (.int .i64 k) ∧ w.cell? ⟨g, 1, none⟩ = some (.string x) ∧ w.cell? ⟨g, 2, none⟩ = some (.string y) ∧ w.cell? ⟨g, 3, none⟩ = some (.int .i64 i) ∧ w.frozen? ⟨g, 1, none⟩ = false ∧ w.frozen? ⟨g, 2, none⟩ = false ∧
  Hid (Blk w g 125 #[.int .i64 k, .string x, .string y, .int .i64 i])
section
variable {w w' : World} {g : Nat} {k i : Int} {x y : ByteArray}
theorem Box4.of (h : Blk w g 125 #[.int .i64 k, .string x, .string y, .int .i64 i]) : Box4 w g k x y i := ⟨h.cell 0, h.cell 1, h.cell 2, h.cell 3, h.frozen 1, h.frozen 2, Lib.hid h⟩
theorem Box4.blk (h : Box4 w g k x y i) : Blk w g 125 #[.int .i64 k, .string x, .string y, .int .i64 i] := h.2.2.2.2.2.2.out
theorem Box4.below {B : Nat} (h : Box4 w g k x y i) (hb : Below B w w') (hg : g < B) : Box4 w' g k x y i := Box4.of (h.blk.below hb hg)
theorem Box4.chg {T : Nat → Prop} (h : Box4 w g k x y i) (hc : Chg T w w') (hg : ¬ T g) : Box4 w' g k x y i := Box4.of (h.blk.chg hc hg)
theorem Box4.set1 (h : Box4 w g k x y i) : Box4 (w.setCell ⟨g, 1, none⟩ (.string x)) g k x y i := Box4.of (by have := h.blk.set_ 1 (.string x); simpa using this)
theorem Box4.set2 (h : Box4 w g k x y i) : Box4 (w.setCell ⟨g, 2, none⟩ (.string y)) g k x y i := Box4.of (by have := h.blk.set_ 2 (.string y); simpa using this)
end

theorem norm_ok {o : OpB} (h : OkO o) : OkO (normO o) := by
  have he : (⟨#[]⟩ : ByteArray).size ≤ 200 := Nat.zero_le _
  have hz : (Lit.int .i64 0).wf = true := by decide
  unfold normO
  split
  · exact ⟨h.a, he, h.id, .inl rfl⟩
  · split
    · exact ⟨h.a, h.b, hz, .inr (.inl rfl)⟩
    · exact ⟨h.a, he, hz, .inr (.inr rfl)⟩

theorem grown_undrew {w w' : World} {r : Option Nat} (h : w.drew.grownBy w' r) : w.grownBy w' r := ⟨h.os, h.tape, h.output, h.size, h.block⟩
theorem stepInfo4 : (Tryz.prog.info? 125).map (fun i => (i.zero, i.size, i.bytes)) = some (some (.agg #[.int .i64 0, .string ⟨#[]⟩, .string ⟨#[]⟩, .int .i64 0]), 4, 48) := by kernel_rfl

section
variable {w w2 w4 w5 : World} {base p bn bs q : Nat} {S : Nat → Prop} {s : DB} {pv v' : Value}
theorem CD.pend_ (h : CD w base S p s bn bs pv) (hq : q = s.ops.length) : w.ownsRow base 125 4 pv q (opsC (s.ops.map normO)) := hq ▸ h.pend
theorem CD.pcells (h : CD w base S p s bn bs pv) {o : Obj} (hg : (w.alloc o).grownBy w4 pv.ownBlock) : w4.cell? ⟨p, 2, none⟩ = some pv ∧ w4.frozen? ⟨p, 2, none⟩ = false := by
  have hb : Blk w4 p 103 #[.map (some bn), .map (some bs), pv] := (h.blk.alloc o).chg (Chg.of_grown hg) (fun e => h.pp e)
  exact ⟨hb.cell 2, hb.frozen 2⟩
theorem CD.pushed (h : CD w2 base S p s bn bs pv) {ob : Obj} {o : OpB} (hq : q = s.ops.length) (hg : (w2.alloc ob).grownBy w4 pv.ownBlock) (hown : w4.ownsRow base 125 4 v' (q + 1) (opsC (s.ops.map normO) ++ opC (normO o)))
    (hat : v'.ownBlock = pv.ownBlock ∨ v'.ownBlock = some (w2.alloc ob).heap.size) : Chg S w2 (w4.setCell ⟨p, 2, none⟩ v') ∧ CD (w4.setCell ⟨p, 2, none⟩ v') base (grow S w2 w4) p ⟨s.now, s.safe, s.ops ++ [o]⟩ bn bs v' := by
  have hc : Chg (fun k => pv.ownBlock = some k) w2 w4 := ((Chg.refl (fun k => pv.ownBlock = some k) w2).alloc ob).trans (Chg.of_grown hg) (fun _ _ e => e)
  subst hq
  refine ⟨(hc.mono (fun k _ e => h.ino k e)).setCell (.inr h.inp) _, h.push hown hc ?_⟩
  rcases hat with e | e
  · exact .inl e
  · exact .inr ⟨_, e, by simp⟩
theorem CDT.step {s' : DB} {pv' : Value} (hf : ∀ k, S k → base ≤ k ∧ k < w.heap.size) (hb : base ≤ w.heap.size) (hc1 : Chg S w w2) (hc2 : Chg S w2 w5) (h5 : CD w5 base (grow S w2 w4) p s' bn bs pv') : CDT base S p s' w w5 :=
  CDT.of (hc1.trans hc2 (fun k hk hs => hs)) h5 (fun k hk => by
    have := hc1.size
    rcases hk with h | ⟨h, _⟩
    · exact .inl h
    · exact .inr (by omega)) hf hb
end

set_option maxHeartbeats 2000000 in
theorem did_any (p : Nat) (base N : Nat) (S : Nat → Prop) (s : DB) (bn bs : Nat) (pv : Value) (o : OpB) (w : World) (h : CD w base S p s bn bs pv) (hg : GoodD s N) (hN : N ≤ 900000) (ho : OkO o) (k : Int) (x y : ByteArray) (i : Int) (hno : normO o = ⟨k, x, y, i⟩) :
    Calls Tryz.prog 99 #[.pointer (some ⟨p, 0, none⟩), .agg #[.int .i64 k, .string x, .string y, .int .i64 i]] w fun e w' => e = .returned (.tuple #[]) ∧ CDT base S p ⟨didN cfT s.now o, s.safe, s.ops ++ [o]⟩ w w' := by
  obtain ⟨i0, hi, hz0, hz1, hz2⟩ := info_parts stepInfo4
  obtain ⟨wb, hwb⟩ : ∃ wb, wb = w.alloc (.cells #[.int .i64 k, .string x, .string y, .int .i64 i] 125) := ⟨_, rfl⟩
  have hbox : Box4 wb w.heap.size k x y i := by rw [hwb]; exact Box4.of (Blk.new _ _ _)
  have hb0 : Below wb.heap.size wb wb.drew := below_drewn (Below.refl _ _) 1
  have hbox0 : Box4 wb.drew w.heap.size k x y i := hbox
  have hok := norm_ok ho
  rw [hno] at hok
  have hx : x.size ≤ 1000 := by have := hok.a; simp only at this; omega
  have hy : y.size ≤ 1000 := by have := hok.b; simp only at this; omega
  have hgl : w.heap.size < wb.heap.size := by rw [hwb]; simp
  have CX := Lib.hid (fun w1 => sclone_any x w1 hx)
  have CY := Lib.hid (fun w1 => sclone_any y w1 hy)
  have HB := Lib.hid hbox
  have m1 : True := trivial
  have m2 : True := trivial
  have hfew := hg.safe
  have hnow := hg.now
  obtain ⟨Ap, cp, rfl, -, -⟩ := own_form h.pend
  obtain ⟨q, hq⟩ : ∃ q, q = s.ops.length := ⟨_, rfl⟩
  have hq9 : q ≤ 900000 := by omega
  rw [← hq] at h
  have HCD := Lib.hid (fun (wC : World) (hb : Below w.heap.size w wC) => h.below hb)
  have HQ := Lib.hid hq
  have HG := Lib.hid hg
  have hgn : ¬ w.heap.size = bn := by have := h.now.lt; omega
  have DO := Lib.hid (fun (wC : World) (hm : MapAt wC bn s.now) => do_any ⟨k, x, y, i⟩ bn s.now wC hm (by omega) hok hg.okn)
  have HDN := Lib.hid (show didN cfT s.now ⟨k, x, y, i⟩ = didN cfT s.now o by rw [← hno, did_norm])
  have HNO := Lib.hid hno
  have HBW := Lib.hid (show Below w.heap.size w wb by rw [hwb]; exact (Below.refl _ _).alloc (Nat.le_refl _) _)
  have HF := Lib.hid (And.intro h.foot h.bas)
  clear hx hy hbox h hq hg hok hno hfew hnow ho
  rw [hwb] at hbox0 hb0 hgl HB HBW
  clear hwb
  go_enter Tryz.func99, Tryz.ntmps99
  go_wp2
  go_region_held3 (fun w' => Box4 w' w.heap.size k x y i)
    (first | assumption | exact Box4.set1 (by assumption) | exact Box4.set2 (by assumption))
    (first
      | (go_at_call 115; clear m1; refine (CX.out _).mono ?_; rintro e wA ⟨rfl, hbx⟩; have hbA := hb0.trans (hbx.mono hb0.size); have hboxA := HB.out.below hbA hgl; clear hbx)
      | (go_at_call 115; clear m2; refine (CY.out _).mono ?_; rintro e wB ⟨rfl, hbx⟩; have hbB := hbA.trans (hbx.mono hbA.size); have hboxB := HB.out.below hbB hgl; clear hbx))
  have hboxC := hboxB.set1.set2
  have hbC : Below w.heap.size w ((wB.setCell ⟨w.heap.size, 1, none⟩ (.string x)).setCell ⟨w.heap.size, 2, none⟩ (.string y)) := ((HBW.out.trans (hbB.mono HBW.out.size)).setCell (Nat.le_refl _) _).setCell (Nat.le_refl _) _
  generalize (wB.setCell ⟨w.heap.size, 1, none⟩ (.string x)).setCell ⟨w.heap.size, 2, none⟩ (.string y) = wC at *
  clear hboxA hboxB hbA hbB hbox0 hb0 hgl HBW HB CX CY
  have hC := HCD.out wC hbC
  obtain ⟨d0, -, d2, f2⟩ := hC.cells (Below.refl _ _)
  have HC := Lib.hid hC
  have DOC := Lib.hid (DO.out wC.drew (hC.below (below_drewn (Below.refl _ _) 1)).now)
  have HBX := Lib.hid hboxC
  clear hC DO HCD
  go_wp2
  go_region_held3 (fun w' => Box4 w' w.heap.size k x y i ∧ w'.cell? ⟨p, 0, none⟩ = some (.map (some bn)))
    (first | exact ⟨by assumption, by assumption⟩)
    (first | (go_at_call 85; refine DOC.out.mono ?_; rintro e wD ⟨rfl, hmD, hcD⟩; have hD := (HC.out.below (below_drewn (Below.refl _ _) 1)).setNow hmD hcD; have hboxD := HBX.out.chg (T := fun j => j = bn) hcD.drew0 hgn; obtain ⟨e0, -, e2, g2⟩ := hD.cells (Below.refl _ _); have hpl := hD.blk.lt; have hpn : ¬ p = wD.heap.size := Nat.ne_of_lt hpl; have HD := Lib.hid hD; have HCS := Lib.hid (show Chg S w wD from (Chg.of_below hbC (Nat.le_refl _) S).trans hcD.drew0 (fun j _ hj => by have hj : j = bn := hj; subst hj; exact HC.out.inn)); clear hD hmD hcD))
  have s2 : q + 1 ≤ maxLen := by unfold maxLen; omega
  have s3 : (q + 1) * 48 ≤ 140737488355328 := by omega
  clear hbC DOC HC HBX d0 d2 f2
  go_wp2
  go_region_law ((first
    | go_loud (refine step_append_any _ rfl (.tmp 22) (.tmp 24) _ rfl base 125 i0 _ 4 48 Tryz.underlying101 hi hz0 hz1 hz2 rfl (Nat.zero_lt_succ 3) (.slice Ap q cp) q _ rfl ((HD.out.pend_ HQ.out).alloc _) _ _ 1 1 (opC ⟨k, x, y, i⟩) rfl (newAt _ _ _ 4 _ rfl (by simp)) (opC_one _) s2 s3 (by have := HD.out.bas; simp; omega) ?_; intro v4 w4 hown4 hg4 hat4; obtain ⟨A4, c4, rfl, -, -⟩ := own_form hown4; obtain ⟨g2, gf2⟩ := HD.out.pcells (grown_undrew hg4); have HP := Lib.hid (HD.out.pushed (o := o) HQ.out (grown_undrew hg4) (by rw [HNO.out]; exact hown4) hat4); clear hown4 hg4 hat4)))
  all_goals
    go_end0
    exact ⟨rfl, by rw [← HDN.out]; exact CDT.step HF.out.1 HF.out.2 HCS.out HP.out.1 HP.out.2⟩

end Go.Proofs.YtclglbddibjenaaGreat

/-
  LAYER 7: WHAT Create, Rename AND Unlink DO: contracts.
-/
set_option linter.unusedVariables false
set_option linter.unusedSimpArgs false
namespace Go.Proofs.YtclglbddibjenaaGreat
open Go.RowKit

section
variable {s : DB} {o : OpB}
theorem doS_no (h : doE s.now o ≠ 0) : doS s o = s := by unfold doS; rw [if_neg h]
theorem doS_yes (h : doE s.now o = 0) : doS s o = ⟨didN cfT s.now o, s.safe, s.ops ++ [o]⟩ := by unfold doS; rw [if_pos h]
end

theorem CD.held (p base : Nat) (S : Nat → Prop) (s : DB) (bn bs : Nat) (pv : Value) (w : World) (h : CD w base S p s bn bs pv) (x : ByteArray) (hx : x.size ≤ 200) :
    Calls Tryz.prog 58 #[.pointer (some ⟨p, 0, none⟩)] w (fun e w' => e = .returned (.bool true) ∧ w = w') ∧ Calls Tryz.prog 97 #[.pointer (some ⟨p, 0, none⟩), .string x] w (fun e w' => e = .returned (.bool (hasB s.now x)) ∧ w = w') := by
  obtain ⟨d0, -⟩ := h.cells (Below.refl _ _)
  exact ⟨made_yes p bn w d0, dhas_any p bn s.now x w d0 h.now (by unfold maxLen; omega)⟩

set_option maxHeartbeats 1000000 in
theorem dcreate_any (p : Nat) (base N : Nat) (S : Nat → Prop) (s : DB) (bn bs : Nat) (pv : Value) (x y : ByteArray) (id : Int) (w : World) (h : CD w base S p s bn bs pv) (hg : GoodD s N) (hN : N ≤ 900000) (hx : x.size ≤ 200) (hy : y.size ≤ 200) (hid : (Lit.int .i64 id).wf = true) :
    Calls Tryz.prog 64 #[.pointer (some ⟨p, 0, none⟩), .string x, .int .i64 id] w fun e w' => e = .returned (.int .i64 (doE s.now ⟨0, x, y, id⟩)) ∧ CDT base S p (doS s ⟨0, x, y, id⟩) w w' := by
  obtain ⟨MD, HS⟩ := CD.held p base S s bn bs pv w h x hx
  have RT := Lib.hid (right_any x w (by unfold maxLen; omega))
  have DD := Lib.hid (did_any p base N S s bn bs pv ⟨0, x, y, id⟩ w h hg hN ⟨hx, hy, hid, .inl rfl⟩ 0 x ⟨#[]⟩ id (by unfold normO; rw [if_pos rfl]))
  have hE : doE s.now ⟨0, x, y, id⟩ = if hasB s.now x then 7 else if rightB x then 0 else 1 := by unfold doE; rw [if_pos rfl]
  have HSM := Lib.hid (CDT.same h)
  have MDH := Lib.hid MD
  have HSH := Lib.hid HS
  clear h hg MD HS hid
  cases h1 : hasB s.now x with
  | true =>
    have he : doE s.now ⟨0, x, y, id⟩ = 7 := by rw [hE, h1]; rfl
    rw [doS_no (by rw [he]; omega), he]
    rw [h1] at HSH
    clear hE he h1
    go_enter Tryz.func64, Tryz.ntmps64
    go_wp2_with (first
      | (go_at_call 58; refine MDH.out.mono ?_; rintro e w9 ⟨rfl, rfl⟩)
      | (go_at_call 97; refine HSH.out.mono ?_; rintro e w9 ⟨rfl, rfl⟩))
    go_ret
    exact ⟨rfl, HSM.out⟩
  | false =>
    rw [h1] at HSH
    cases h2 : rightB x with
    | false =>
      have he : doE s.now ⟨0, x, y, id⟩ = 1 := by rw [hE, h1, h2]; rfl
      rw [doS_no (by rw [he]; omega), he]
      rw [h2] at RT
      clear hE he h1 h2
      go_enter Tryz.func64, Tryz.ntmps64
      go_wp2_with (first
        | (go_at_call 58; refine MDH.out.mono ?_; rintro e w9 ⟨rfl, rfl⟩)
        | (go_at_call 97; refine HSH.out.mono ?_; rintro e w9 ⟨rfl, rfl⟩)
        | (go_at_call 98; refine RT.out.mono ?_; rintro e w9 ⟨rfl, rfl⟩))
      go_ret
      exact ⟨rfl, HSM.out⟩
    | true =>
      have he : doE s.now ⟨0, x, y, id⟩ = 0 := by rw [hE, h1, h2]; rfl
      rw [doS_yes he, he]
      rw [h2] at RT
      clear hE he h1 h2
      go_enter Tryz.func64, Tryz.ntmps64
      go_wp2_with (first
        | (go_at_call 58; refine MDH.out.mono ?_; rintro e w9 ⟨rfl, rfl⟩)
        | (go_at_call 97; refine HSH.out.mono ?_; rintro e w9 ⟨rfl, rfl⟩)
        | (go_at_call 98; refine RT.out.mono ?_; rintro e w9 ⟨rfl, rfl⟩)
        | (go_at_call 99; go_loud (refine DD.out.mono ?_; rintro e w3 ⟨rfl, hc⟩; have HC := Lib.hid hc; clear hc)))
      go_ret
      exact ⟨rfl, HC.out⟩

set_option maxHeartbeats 1000000 in
theorem drename_any (p : Nat) (base N : Nat) (S : Nat → Prop) (s : DB) (bn bs : Nat) (pv : Value) (x y : ByteArray) (id : Int) (w : World) (h : CD w base S p s bn bs pv) (hg : GoodD s N) (hN : N ≤ 900000) (hx : x.size ≤ 200) (hy : y.size ≤ 200) (hid : (Lit.int .i64 id).wf = true) :
    Calls Tryz.prog 69 #[.pointer (some ⟨p, 0, none⟩), .string x, .string y] w fun e w' => e = .returned (.int .i64 (doE s.now ⟨1, x, y, id⟩)) ∧ CDT base S p (doS s ⟨1, x, y, id⟩) w w' := by
  obtain ⟨MD, HS⟩ := CD.held p base S s bn bs pv w h x hx
  have RT := Lib.hid (right_any y w (by unfold maxLen; omega))
  have DD := Lib.hid (did_any p base N S s bn bs pv ⟨1, x, y, id⟩ w h hg hN ⟨hx, hy, hid, .inr (.inl rfl)⟩ 1 x y 0 (by unfold normO; rw [if_neg (show ¬ (1 : Int) = 0 by omega), if_pos rfl]))
  have hE : doE s.now ⟨1, x, y, id⟩ = if hasB s.now x then (if rightB y then 0 else 1) else 6 := by unfold doE; rw [if_neg (show ¬ (1 : Int) = 0 by omega), if_pos rfl]
  have HSM := Lib.hid (CDT.same h)
  have MDH := Lib.hid MD
  have HSH := Lib.hid HS
  clear h hg MD HS hid
  cases h1 : hasB s.now x with
  | false =>
    have he : doE s.now ⟨1, x, y, id⟩ = 6 := by rw [hE, h1]; rfl
    rw [doS_no (by rw [he]; omega), he]
    rw [h1] at HSH
    clear hE he h1
    go_enter Tryz.func69, Tryz.ntmps69
    go_wp2_with (first
      | (go_at_call 58; refine MDH.out.mono ?_; rintro e w9 ⟨rfl, rfl⟩)
      | (go_at_call 97; refine HSH.out.mono ?_; rintro e w9 ⟨rfl, rfl⟩))
    go_ret
    exact ⟨rfl, HSM.out⟩
  | true =>
    rw [h1] at HSH
    cases h2 : rightB y with
    | false =>
      have he : doE s.now ⟨1, x, y, id⟩ = 1 := by rw [hE, h1, h2]; rfl
      rw [doS_no (by rw [he]; omega), he]
      rw [h2] at RT
      clear hE he h1 h2
      go_enter Tryz.func69, Tryz.ntmps69
      go_wp2_with (first
        | (go_at_call 58; refine MDH.out.mono ?_; rintro e w9 ⟨rfl, rfl⟩)
        | (go_at_call 97; refine HSH.out.mono ?_; rintro e w9 ⟨rfl, rfl⟩)
        | (go_at_call 98; refine RT.out.mono ?_; rintro e w9 ⟨rfl, rfl⟩))
      go_ret
      exact ⟨rfl, HSM.out⟩
    | true =>
      have he : doE s.now ⟨1, x, y, id⟩ = 0 := by rw [hE, h1, h2]; rfl
      rw [doS_yes he, he]
      rw [h2] at RT
      clear hE he h1 h2
      go_enter Tryz.func69, Tryz.ntmps69
      go_wp2_with (first
        | (go_at_call 58; refine MDH.out.mono ?_; rintro e w9 ⟨rfl, rfl⟩)
        | (go_at_call 97; refine HSH.out.mono ?_; rintro e w9 ⟨rfl, rfl⟩)
        | (go_at_call 98; refine RT.out.mono ?_; rintro e w9 ⟨rfl, rfl⟩)
        | (go_at_call 99; go_loud (refine DD.out.mono ?_; rintro e w3 ⟨rfl, hc⟩; have HC := Lib.hid hc; clear hc)))
      go_ret
      exact ⟨rfl, HC.out⟩

set_option maxHeartbeats 1000000 in
theorem dunlink_any (p : Nat) (base N : Nat) (S : Nat → Prop) (s : DB) (bn bs : Nat) (pv : Value) (x y : ByteArray) (id : Int) (w : World) (h : CD w base S p s bn bs pv) (hg : GoodD s N) (hN : N ≤ 900000) (hx : x.size ≤ 200) (hy : y.size ≤ 200) (hid : (Lit.int .i64 id).wf = true) :
    Calls Tryz.prog 70 #[.pointer (some ⟨p, 0, none⟩), .string x] w fun e w' => e = .returned (.int .i64 (doE s.now ⟨2, x, y, id⟩)) ∧ CDT base S p (doS s ⟨2, x, y, id⟩) w w' := by
  obtain ⟨MD, HS⟩ := CD.held p base S s bn bs pv w h x hx
  have DD := Lib.hid (did_any p base N S s bn bs pv ⟨2, x, y, id⟩ w h hg hN ⟨hx, hy, hid, .inr (.inr rfl)⟩ 2 x ⟨#[]⟩ 0 (by unfold normO; rw [if_neg (show ¬ (2 : Int) = 0 by omega), if_neg (show ¬ (2 : Int) = 1 by omega)]))
  have hE : doE s.now ⟨2, x, y, id⟩ = if hasB s.now x then 0 else 6 := by unfold doE; rw [if_neg (show ¬ (2 : Int) = 0 by omega), if_neg (show ¬ (2 : Int) = 1 by omega)]
  have HSM := Lib.hid (CDT.same h)
  have MDH := Lib.hid MD
  have HSH := Lib.hid HS
  clear h hg MD HS hid
  cases h1 : hasB s.now x with
  | false =>
    have he : doE s.now ⟨2, x, y, id⟩ = 6 := by rw [hE, h1]; rfl
    rw [doS_no (by rw [he]; omega), he]
    rw [h1] at HSH
    clear hE he h1
    go_enter Tryz.func70, Tryz.ntmps70
    go_wp2_with (first
      | (go_at_call 58; refine MDH.out.mono ?_; rintro e w9 ⟨rfl, rfl⟩)
      | (go_at_call 97; refine HSH.out.mono ?_; rintro e w9 ⟨rfl, rfl⟩))
    go_ret
    exact ⟨rfl, HSM.out⟩
  | true =>
    have he : doE s.now ⟨2, x, y, id⟩ = 0 := by rw [hE, h1]; rfl
    rw [doS_yes he, he]
    rw [h1] at HSH
    clear hE he h1
    go_enter Tryz.func70, Tryz.ntmps70
    go_wp2_with (first
      | (go_at_call 58; refine MDH.out.mono ?_; rintro e w9 ⟨rfl, rfl⟩)
      | (go_at_call 97; refine HSH.out.mono ?_; rintro e w9 ⟨rfl, rfl⟩)
      | (go_at_call 99; go_loud (refine DD.out.mono ?_; rintro e w3 ⟨rfl, hc⟩; have HC := Lib.hid hc; clear hc)))
    go_ret
    exact ⟨rfl, HC.out⟩

end Go.Proofs.YtclglbddibjenaaGreat

/-
  LAYER 7: WHAT Sync DOES: its contract.
-/
set_option linter.unusedVariables false
set_option linter.unusedSimpArgs false
namespace Go.Proofs.YtclglbddibjenaaGreat
open Go.RowKit

/-- At the head of each round: what is safe, with the first k of what is pending done to it. -/
structure SyAt (w wr : World) (base : Nat) (S : Nat → Prop) (p : Nat) (s : DB) (bn bs : Nat) (pv : Value) (k : Nat) : Prop where
  cd : CD wr base S p ⟨s.now, behind s k, s.ops⟩ bn bs pv
  chg : Chg S w wr

theorem norm_get {s : DB} {k : Nat} {o : OpB} (h : s.ops[k]? = some o) : (s.ops.map normO)[k]? = some (normO o) := by rw [List.getElem?_map, h]; rfl

/-- The k-th step, as a round loads it. -/
theorem CD.step_at {w : World} {base p bn bs : Nat} {S : Nat → Prop} {s : DB} {g q c k : Nat} (h : CD w base S p s bn bs (.slice (some ⟨g, 0, none⟩) q c)) {o : OpB} (ho : s.ops[k]? = some o) {n : OpB} (hn : normO o = n) :
    w.cell? ⟨g, k * 4, none⟩ = some (.int .i64 n.kind) ∧ w.cell? ⟨g, k * 4 + 1, none⟩ = some (.string n.a) ∧ w.cell? ⟨g, k * 4 + 2, none⟩ = some (.string n.b) ∧ w.cell? ⟨g, k * 4 + 3, none⟩ = some (.int .i64 n.id) := by
  have hg := norm_get ho
  rw [hn] at hg
  obtain ⟨h0, h1, h2, h3⟩ := opsC_get hg
  obtain ⟨_, _, e, _⟩ := own_form h.pend
  injection e with _ e2 _
  have hp := h.pend
  rw [← e2] at hp
  have c := hp.cells (g := g) rfl
  have pl : ∀ j, (⟨g, 0, none⟩ : Addr).add j = ⟨g, j, none⟩ := fun j => by unfold Addr.add; split <;> simp_all
  have c0 := c _ _ h0
  have c1 := c _ _ h1
  have c2 := c _ _ h2
  have c3 := c _ _ h3
  rw [pl] at c0 c1 c2 c3
  exact ⟨c0, c1, c2, c3⟩

set_option maxHeartbeats 2000000 in
theorem dsync_any (p : Nat) (base N : Nat) (S : Nat → Prop) (s : DB) (bn bs : Nat) (pv : Value) (w : World) (h : CD w base S p s bn bs pv) (hg : GoodD s N) (hN : N ≤ 900000) :
    Calls Tryz.prog 51 #[.pointer (some ⟨p, 0, none⟩)] w fun e w' => e = .returned (.tuple #[]) ∧ CDT base S p s.sync w w' := by
  obtain ⟨MD, -⟩ := CD.held p base S s bn bs pv w h ⟨#[]⟩ (Nat.zero_le _)
  have MDH := Lib.hid MD
  obtain ⟨Ap, cp, rfl, hqc, hcm⟩ := own_form h.pend
  obtain ⟨q, hq⟩ : ∃ q, q = s.ops.length := ⟨_, rfl⟩
  have hq9 : q ≤ 900000 := by have := hg.safe; omega
  rw [← hq] at h hqc
  obtain ⟨d0, d1, d2, f2⟩ := h.cells (Below.refl _ _)
  have HS := Lib.hid (show SyAt w w base S p s bn bs (.slice Ap q cp) 0 from ⟨h, Chg.refl _ _⟩)
  have HQ := Lib.hid hq
  have HG := Lib.hid hg
  have HF := Lib.hid (And.intro h.foot h.bas)
  clear h hq hg MD
  go_enter Tryz.func51, Tryz.ntmps51
  go_wp2_with (go_at_call 58; refine MDH.out.mono ?_; rintro e w9 ⟨rfl, rfl⟩)
  go_loopw [3, 12] (fun _ i wr => ∃ k : Nat, k ≤ q ∧ i = .int .i64 k ∧ Hid (SyAt w wr base S p s bn bs (.slice Ap q cp) k)) (fun _ i _ => q - (intOf i).toNat)
  case atStart => exact ⟨0, Nat.zero_le _, rfl, HS⟩
  case round =>
    clear HS
    obtain ⟨k, hk, rfl, H⟩ := hrel
    by_cases hlt : k < q
    · obtain ⟨o, ho⟩ : ∃ o, s.ops[k]? = some o := ⟨_, List.getElem?_eq_getElem (by rw [← HQ.out]; omega)⟩
      obtain ⟨n, hn⟩ : ∃ n, normO o = n := ⟨_, rfl⟩
      have hok := norm_ok (HG.out.oko o (List.mem_of_getElem? ho))
      rw [hn] at hok
      obtain ⟨g, cap, hv, -⟩ := (H.out.cd.pend_ HQ.out).form (by omega)
      injection hv with hv1 hv2 hv3
      subst hv1
      clear hv2 hv3
      obtain ⟨c0, c1, c2, c3⟩ := H.out.cd.step_at ho hn
      obtain ⟨e0, e1, e2, -⟩ := H.out.cd.cells (Below.refl _ _)
      have hpl := H.out.cd.blk.lt
      have hpn : ¬ p = wr.heap.size := Nat.ne_of_lt hpl
      have kq : (k : Int) < (q : Int) := by omega
      obtain ⟨hb1, hb2⟩ := behind_ok HG.out k
      obtain ⟨kd, x, y, i⟩ := n
      have DO := Lib.hid (fun (wz : World) (hb : Below wr.heap.size wr wz) => do_any ⟨kd, x, y, i⟩ bs (behind s k) wz (H.out.cd.safe.below hb) (by omega) hok hb2)
      have HD := Lib.hid (show didN cfT (behind s k) ⟨kd, x, y, i⟩ = behind s (k + 1) by rw [← hn, did_norm, behind_next ho])
      have HB0 := Lib.hid (show Below wr.heap.size wr (wr.alloc (.cells #[.int .i64 kd, .string x, .string y, .int .i64 i] 125)).drew from below_drewn ((Below.refl _ _).alloc (Nat.le_refl _) _) 1)
      have NX := Lib.hid (fun (wz w' : World) (hb : Below wr.heap.size wr wz) (hm : MapAt w' bs (didN cfT (behind s k) ⟨kd, x, y, i⟩)) (hc : Chg (fun j => j = bs) wz w') =>
        (show SyAt w w' base S p s bn bs (.slice (some ⟨g, 0, none⟩) q cp) (k + 1) from ⟨(H.out.cd.below hb).setSafe (HD.out ▸ hm) hc, (H.out.chg.trans (Chg.of_below hb (Nat.le_refl _) S) (fun _ _ h => h)).trans hc (fun j _ hj => by have hj : j = bs := hj; subst hj; exact H.out.cd.ins)⟩))
      have hbs : ¬ wr.heap.size = bs := by have := H.out.cd.safe.lt; omega
      have KP := Lib.hid (fun (w' : World) (hc : Chg (fun j => j = bs) (wr.alloc (.cells #[.int .i64 kd, .string x, .string y, .int .i64 i] 125)).drew w') =>
        (show w'.cell? ⟨wr.heap.size, 0, none⟩ = some (.int .i64 kd) ∧ w'.cell? ⟨wr.heap.size, 1, none⟩ = some (.string x) ∧ w'.cell? ⟨wr.heap.size, 2, none⟩ = some (.string y) ∧ w'.cell? ⟨wr.heap.size, 3, none⟩ = some (.int .i64 i) ∧ w'.cell? ⟨p, 1, none⟩ = some (.map (some bs)) from by
        obtain ⟨b0, b1, b2, b3⟩ := box4 wr 125 (.int .i64 kd) (.string x) (.string y) (.int .i64 i) (T := fun j => j = bs) hc.drew0 hbs
        have hp := (H.out.cd.below HB0.out).blk.chg hc (fun e => H.out.cd.sp e.symm)
        exact ⟨b0, b1, b2, b3, hp.cell 1⟩))
      have HK := Lib.hid (KP.out _ (Chg.refl _ _))
      clear ho hok hn hb1 hb2
      simp only at c0 c1 c2 c3
      go_wp2
      go_region_held3 (fun w' => w'.cell? ⟨wr.heap.size, 0, none⟩ = some (.int .i64 kd) ∧ w'.cell? ⟨wr.heap.size, 1, none⟩ = some (.string x) ∧ w'.cell? ⟨wr.heap.size, 2, none⟩ = some (.string y) ∧ w'.cell? ⟨wr.heap.size, 3, none⟩ = some (.int .i64 i) ∧ w'.cell? ⟨p, 1, none⟩ = some (.map (some bs)))
        (first | assumption | exact HK.out)
        (first | (go_at_call 85; go_loud (refine (DO.out _ HB0.out).mono ?_; rintro e w3 ⟨rfl, hm, hc⟩; have HN := Lib.hid (NX.out _ _ HB0.out hm hc); have hk3 := KP.out _ hc; clear hm hc)))
      go_wp2
      go_roundw
      case rel => exact ⟨k + 1, by omega, by go_num, HN⟩
      case measure => simp [intOf]; omega
    · obtain rfl : k = q := by omega
      have kq : ¬ (k : Int) < (k : Int) := by omega
      obtain ⟨e0, e1, e2, f2⟩ := H.out.cd.cells (Below.refl _ _)
      have hb : behind s k = s.now := by unfold behind; rw [HG.out.inv, List.take_of_length_le (by rw [← HQ.out]; exact Nat.le_refl _)]
      have HE := Lib.hid (show CDT base S p s.sync w (wr.setCell ⟨p, 2, none⟩ (.slice none 0 0)) by
        have h1 := H.out.cd.clear
        simp only at h1
        rw [hb] at h1
        exact CDT.of (H.out.chg.setCell (.inr H.out.cd.inp) _) h1 (fun _ h => .inl h) HF.out.1 HF.out.2)
      clear hb
      go_wp2
      go_end0
      exact ⟨rfl, HE.out⟩

end Go.Proofs.YtclglbddibjenaaGreat

/-
  LAYER 7: WHAT Names DOES: its contract.
-/
set_option linter.unusedVariables false
set_option linter.unusedSimpArgs false
namespace Go.Proofs.YtclglbddibjenaaGreat
open Go.RowKit Go.Maps Go.Sort Go.Shelf

theorem sortsIn (m : Nat) : AnyZ.SortsIn Tryz.prog Tryz.laySorted_ren Fence.wide m :=
  ⟨fun blk off cap ss W hH hblk hsz => callsIn_wide.2 (AnyM.slices_Sort_string Tryz.laySort blk off cap ss W hH hblk hsz),
   fun p cap W => callsIn_wide.2 (AnyM.slices_Sort_string_none Tryz.laySort p cap W)⟩

theorem keys_any (mb : Option Nat) (W : World) : CallsIn Fence.wide 5 Tryz.prog 60 #[.map mb] W fun e w' => e = .returned (.func (.func 95) #[] #[.pointer (some ⟨W.heap.size, 0, none⟩)]) ∧ w' = W.alloc (.cells #[.map mb] 100) :=
  AnyZ.keys_in Tryz.layKeys Fence.wide 5 trivial rfl mb W

set_option maxHeartbeats 1000000 in
theorem sorted_any {H : Type} (b nn : Nat) (D0 : DataW H) (R : Value → Option (DataW H × List MemPlace)) (w : World) (hown : w.ownsMap Tryz.prog 9 R b nn D0) (hmax : Maps.size D0 ≤ maxLen) (hbytes : Maps.size D0 * 16 ≤ 140737488355328) :
    CallsIn Fence.wide 5 Tryz.prog 59 #[.func (.func 95) #[] #[.pointer (some ⟨w.heap.size, 0, none⟩)]] (w.alloc (.cells #[.map (some b)] 100)) fun e w' => ∃ (v : Value) (ss : List (List UInt8)), e = .returned v ∧ ss.Perm (strKeys D0) ∧
      w'.ownsRow (w.alloc (.cells #[.map (some b)] 100)).heap.size 9 1 v ss.length ((ss.mergeSort (fun x y => decide (x ≤ y))).map encStr) ∧ (v = .slice none 0 0 ↔ ss = []) ∧ Below (w.alloc (.cells #[.map (some b)] 100)).heap.size (w.alloc (.cells #[.map (some b)] 100)) w' := by
  have hbl := hown.lt
  have hseq : SeqGives Fence.wide 2 Tryz.prog 95 #[.pointer (some ⟨w.heap.size, 0, none⟩)] encStr (fun ss => ss.Perm (strKeys D0)) (Maps.size D0) (w.alloc (.cells #[.map (some b)] 100)) :=
    AnyZ.keys_gives (ρ := Tryz.layKeys_ren) { Tryz.layKeys with } Fence.wide _ trivial rfl (by omega) w.heap.size b nn D0 _ (by simp) (by simp) (by
      obtain ⟨es, clock, hb, Ft, hs, hD⟩ := hown
      exact ⟨es, clock, (Below.heap_alloc _ _ b hbl).trans hb, Ft, hs, hD⟩)
  exact AnyZ.sorted_in Tryz.laySorted Fence.wide 5 trivial trivial trivial trivial rfl (by omega) (sortsIn _) (enters_of Tryz.func94 (by kernel_rfl) rfl) 95 #[.pointer (some ⟨w.heap.size, 0, none⟩)] trivial (enters_of Tryz.func95 (by kernel_rfl) rfl) _ _ hmax hbytes _ hseq

/-- What was sorted are the names. -/
theorem sorted_names {w : World} {b n : Nat} {D : DataW Unit} {l : NmL} (h : w.ownsMap Tryz.prog 9 intE b n D) (ht : Tells D l) {ss : List (List UInt8)} (hp : ss.Perm (strKeys D)) : ss.length = l.length ∧ (ss.mergeSort (fun x y => decide (x ≤ y))).map encStr = cellsT (namesN l) := by
  have hk := keys_perm h ht
  have hp2 : ss.Perm ((namesN l).map (·.data.toList)) := hp.trans hk.symm
  have hm := mergeSort_of_perm hp2
  refine ⟨by rw [hp2.length_eq]; simp [namesN], ?_⟩
  show (ss.mergeSort leB).map encStr = _
  rw [hm, names_sorted ht.rise, List.map_map]
  unfold cellsT
  refine List.map_congr_left fun x _ => ?_
  simp [encStr]

set_option maxHeartbeats 1000000 in
theorem dnames_any (p bn : Nat) (l : NmL) (w : World) (h : w.cell? ⟨p, 0, none⟩ = some (.map (some bn))) (hm : MapAt w bn l) (hl : l.length ≤ 1000000) (hn : ∀ q ∈ l, okN q) :
    Calls Tryz.prog 21 #[.pointer (some ⟨p, 0, none⟩)] w fun e w' => ∃ A c, e = .returned (.slice A l.length c) ∧ Txt w' w'.heap.size A l.length c (namesN l) ∧ Below w.heap.size w w' := by
  obtain ⟨D, hown, ht⟩ := hm
  have hsz := keys_size hown ht
  have hmax : Maps.size D ≤ maxLen := by rw [hsz]; unfold maxLen; omega
  have hbytes : Maps.size D * 16 ≤ 140737488355328 := by rw [hsz]; omega
  have MD := Lib.hid (callsIn_wide (n := 5) |>.2 (made_yes p bn w h))
  have SO := Lib.hid (sorted_any bn _ D intE w hown hmax hbytes)
  have HF := Lib.hid (fun (ss : List (List UInt8)) (hp : ss.Perm (strKeys D)) => sorted_names hown ht hp)
  have HN := Lib.hid hn
  clear hown ht hsz hmax hbytes hn
  refine (callsIn_wide (n := 6)).1 ?_
  have hf1 : Fence.wide.fn 58 := trivial
  have hf2 : Fence.wide.fn 60 := trivial
  have hf3 : Fence.wide.fn 59 := trivial
  refine callsIn_of_wp Tryz.func21 rfl trivial ?_ rfl
  simp only [Tryz.ntmps21, List.size_toArray, List.length_cons, List.length_nil, Nat.reduceAdd, Nat.reduceSub, Array.replicate_succ, Array.replicate_zero, List.push_toArray, List.append_toArray, List.nil_append, List.cons_append]
  gi_wp2_with (first
    | (gi_at_call 58; refine MD.out.mono ?_; rintro e w' ⟨rfl, rfl⟩)
    | (gi_at_call 60; refine (keys_any _ _).mono ?_; rintro e w' ⟨rfl, rfl⟩)
    | (gi_at_call 59; refine SO.out.mono ?_; rintro e w' ⟨v, ss, rfl, hS, hrow, hnil, hb⟩))
  go_ret
  obtain ⟨h1, h2⟩ := HF.out ss hS
  rw [h1, h2] at hrow
  obtain ⟨A, c, rfl, hc1, hc2⟩ := own_form hrow
  refine ⟨A, c, rfl, Txt.of_own hrow hc1 hc2 (fun s hs => ?_), ((Below.refl _ w).alloc (Nat.le_refl _) _).trans (hb.mono (by simp))⟩
  obtain ⟨q, hq, rfl⟩ := List.mem_map.1 hs
  have := (HN.out q hq).1
  unfold maxLen; omega

end Go.Proofs.YtclglbddibjenaaGreat

/-
  LAYER 7: WHAT Crash DOES: its contract.
-/
set_option linter.unusedVariables false
set_option linter.unusedSimpArgs false
namespace Go.Proofs.YtclglbddibjenaaGreat
open Go.RowKit

/-- A directory has been made. -/
structure NewAt (w w1 : World) (base P0 b0 b1 : Nat) : Prop where
  cd : CD w1 base (fun k => w.heap.size ≤ k ∧ k < w1.heap.size) P0 newD b0 b1 (.slice none 0 0)
  below : Below w.heap.size w w1
theorem dnew_ex (w : World) (base : Nat) (hb : base ≤ w.heap.size) : Calls Tryz.prog 33 #[] w fun e w' => ∃ P0 b0 b1, e = .returned (.pointer (some ⟨P0, 0, none⟩)) ∧ Hid (NewAt w w' base P0 b0 b1) :=
  (dnew_any w).mono fun e w' ⟨he, hw⟩ => ⟨w.heap.size + 2, w.heap.size, w.heap.size + 1, he, Lib.hid (by rw [hw.out]; exact ⟨newW_CD w base hb, newW_below w⟩)⟩

theorem dcrash_nil (v : Value) (w : World) : Calls Tryz.prog 54 #[.pointer none, v] w fun e w' => e = .returned (.pointer none) ∧ w = w' := by
  go_enter Tryz.func54, Tryz.ntmps54
  go_wp2
  go_ret
  exact ⟨rfl, rfl⟩

/-- At the head of each round: what the first k have left. -/
structure CrA (w wr : World) (base : Nat) (F : Nat → Prop) (P0 b0 b1 : Nat) (s : DB) (ks : List Bool) (k : Nat) : Prop where
  cd : CD wr base F P0 ⟨[], crashN cfT s.safe (s.ops.take k) ks, []⟩ b0 b1 (.slice none 0 0)
  below : Below w.heap.size w wr
  lo : ∀ j, F j → w.heap.size ≤ j
  bas : base ≤ w.heap.size

section
variable {w wr wz w' : World} {base P0 b0 b1 k : Nat} {F : Nat → Prop} {s : DB} {ks : List Bool}
theorem CrA.stay (h : CrA w wr base F P0 b0 b1 s ks k) (hk : k < s.ops.length) (hb : ks.getD k false = false) : CrA w wr base F P0 b0 b1 s ks (k + 1) := by
  refine ⟨?_, h.below, h.lo, h.bas⟩
  rw [crashN_next hk, hb]
  exact h.cd
theorem CrA.step (h : CrA w wr base F P0 b0 b1 s ks k) {o : OpB} (ho : s.ops[k]? = some o) (hb : ks.getD k false = true) (hz : Below wr.heap.size wr wz) (hm : MapAt w' b1 (didN cfT (crashN cfT s.safe (s.ops.take k) ks) o)) (hc : Chg (fun j => j = b1) wz w') : CrA w w' base F P0 b0 b1 s ks (k + 1) := by
  obtain ⟨hlt, he⟩ := List.getElem?_eq_some_iff.1 ho
  refine ⟨?_, (h.below.trans (hz.mono h.below.size)).trans (hc.below (Nat.le_trans h.below.size hz.size) (fun j _ hj => by have hj : j = b1 := hj; subst hj; exact h.lo _ h.cd.ins)), h.lo, h.bas⟩
  rw [crashN_next hlt, hb, if_pos rfl, he]
  exact (h.cd.below hz).setSafe hm hc
theorem CrA.out (h : CrA w wr base F P0 b0 b1 s ks k) (hk : ks.length ≤ k ∨ s.ops.length ≤ k) (hz : Below wr.heap.size wr wz) (hm : MapAt w' b0 (crashN cfT s.safe (s.ops.take k) ks)) (hc : Chg (fun j => j = b0) wz w') : CDnew base (s.crash cfT ks) w (.returned (.pointer (some ⟨P0, 0, none⟩))) w' := by
  have hcd := (h.cd.below hz).setNow hm hc
  rw [crashN_take _ _ _ _ hk] at hcd
  refine ⟨P0, b0, b1, _, rfl, (h.below.trans (hz.mono h.below.size)).trans (hc.below (Nat.le_trans h.below.size hz.size) (fun j _ hj => by have hj : j = b0 := hj; subst hj; exact h.lo _ h.cd.inn)), hcd.mono (fun j hj => ⟨h.lo j hj, (hcd.foot j hj).2⟩) (fun j hj => ⟨by have := h.bas; omega, hj.2⟩)⟩
end

theorem CrA.size {k N : Nat} {s : DB} {ks : List Bool} (hg : GoodD s N) : (crashN cfT s.safe (s.ops.take k) ks).length ≤ N ∧ ∀ p ∈ crashN cfT s.safe (s.ops.take k) ks, okN p := by
  have h1 := crashN_length (s.ops.take k) s.safe ks
  have h2 := hg.safe
  rw [List.length_take] at h1
  exact ⟨by omega, crash_ok _ _ ks hg.oks (fun o ho => hg.oko o (List.mem_of_mem_take ho))⟩

set_option maxHeartbeats 2000000 in
theorem dcrash_any (p : Nat) (K : Option Addr) (m d : Nat) (ks : List Bool) (Bk base N : Nat) (S : Nat → Prop) (s : DB) (bn bs : Nat) (pv : Value) (w : World) (h : CD w base S p s bn bs pv) (hr : Reads w Bk 1 K m (cellsB ks)) (hB : Bk ≤ w.heap.size) (hmd : m ≤ d) (hdc : d ≤ 9223372036854775807) (hg : GoodD s N) (hN : N ≤ 900000) :
    Calls Tryz.prog 54 #[.pointer (some ⟨p, 0, none⟩), .slice K m d] w (CDnew base (s.crash cfT ks) w) := by
  obtain ⟨Ap, cp, rfl, hqc, hcm⟩ := own_form h.pend
  have hlk : ks.length = m := by have := hr.1; rw [cellsB_length] at this; omega
  obtain ⟨q, hq⟩ : ∃ q, q = s.ops.length := ⟨_, rfl⟩
  have hq9 : q ≤ 900000 := by have := hg.safe; omega
  rw [← hq] at h hqc
  obtain ⟨M, hM⟩ : ∃ M, M = min m q := ⟨_, rfl⟩
  have n7 : min (m : Int) (q : Int) = (M : Int) := by omega
  have hMm : M ≤ m := by omega
  have hMq : M ≤ q := by omega
  have HKK := Lib.hid (show ks.length ≤ M ∨ s.ops.length ≤ M by omega)
  have HQ := Lib.hid hq
  have HG := Lib.hid hg
  have HR := Lib.hid hr
  have H := Lib.hid (fun (w1 : World) (hb : Below w.heap.size w w1) => h.below hb)
  have NW := Lib.hid (dnew_ex w base h.bas)
  have HBAS := Lib.hid h.bas
  have HPL := Lib.hid (And.intro h.blk.lt (And.intro h.safe.lt h.bas))
  have hsl : s.safe.length ≤ 1000000 := by have := hg.safe; omega
  clear h hq hg hr hM hlk
  go_enter Tryz.func54, Tryz.ntmps54
  go_wp2_with (go_at_call 33; refine NW.out.mono ?_; rintro e w1 ⟨P0, b0, b1, rfl, hx⟩)
  have hb1 := hx.out.below
  obtain ⟨c0, c1, -, -⟩ := hx.out.cd.cells (Below.refl _ _)
  obtain ⟨d0, d1, d2, -⟩ := (H.out w1 hb1).cells (Below.refl _ _)
  have hne : ¬ p = b1 := by have := hx.out.cd.ins; have := HPL.out.1; omega
  have hbs : ¬ bs = b1 := by have := hx.out.cd.ins; have := HPL.out.2.1; omega
  have hb0 : Below w1.heap.size w1 w1.drew := below_drewn (Below.refl _ _) 1
  have KP := Lib.hid (fun (w' : World) (hc : Chg (fun j => j = b1) w1.drew w') => (show w'.cell? ⟨P0, 1, none⟩ = some (.map (some b1)) ∧ w'.cell? ⟨p, 1, none⟩ = some (.map (some bs)) from
    ⟨((hx.out.cd.below hb0).blk.chg hc (fun e => hx.out.cd.sp e.symm)).cell 1, (((H.out w1 hb1).below hb0).blk.chg hc hne).cell 1⟩))
  have CO := Lib.hid (copy_any b1 bs s.safe w1.drew (hx.out.cd.below hb0).safe ((H.out w1 hb1).below hb0).safe (fun e => hbs e.symm) hsl)
  have HA := Lib.hid (fun (w' : World) (hm : MapAt w' b1 s.safe) (hc : Chg (fun j => j = b1) w1.drew w') => (show CrA w w' base (fun j => w.heap.size ≤ j ∧ j < w1.heap.size) P0 b0 b1 s ks 0 from
    ⟨by rw [List.take_zero]; exact (hx.out.cd.below hb0).setSafe hm hc, (hb1.trans (hb0.mono hb1.size)).trans (hc.below (Nat.le_trans hb1.size hb0.size) (fun j _ hj => by have hj : j = b1 := hj; subst hj; exact hx.out.cd.ins.1)), fun j hj => hj.1, HBAS.out⟩))
  have HK := Lib.hid (KP.out _ (Chg.refl _ _))
  clear hx hne hbs d2 d0 c0 c1 d1
  go_region_held3 (fun w' => w'.cell? ⟨P0, 1, none⟩ = some (.map (some b1)) ∧ w'.cell? ⟨p, 1, none⟩ = some (.map (some bs)))
    (first | assumption | exact HK.out)
    (first | (go_at_call 88; go_loud (refine CO.out.mono ?_; rintro e w2 ⟨rfl, hm, hc⟩; have HC0 := Lib.hid (HA.out _ hm hc); have hk2 := KP.out _ hc; clear hm hc)))
  clear HA CO KP HK hk2 hb0
  obtain ⟨d0, d1, d2, -⟩ := (H.out w2 HC0.out.below).cells (Below.refl _ _)
  generalize (fun j => w.heap.size ≤ j ∧ j < w1.heap.size) = F at HC0
  go_wp2
  clear d0 d1 d2 n7 hb1
  go_loopw [6, 27] (fun _ i wr => ∃ k : Nat, k ≤ M ∧ i = .int .i64 k ∧ Hid (CrA w wr base F P0 b0 b1 s ks k)) (fun _ i _ => M - (intOf i).toNat)
  case atStart => exact ⟨0, Nat.zero_le _, rfl, HC0⟩
  case round =>
    clear HC0
    obtain ⟨k, hk, rfl, C⟩ := hrel
    by_cases hlt : k < M
    · obtain ⟨o, ho⟩ : ∃ o, s.ops[k]? = some o := ⟨_, List.getElem?_eq_getElem (by rw [← HQ.out]; omega)⟩
      obtain ⟨b, off, rfl, hbB, hc⟩ := HR.out.bools (by omega)
      obtain ⟨bt, hbt⟩ : ∃ bt, bt = ks.getD k false := ⟨_, rfl⟩
      have ck : wr.cell? ⟨b, off + k, none⟩ = some (.bool bt) := by rw [hbt]; exact (C.out.below.cell (p := ⟨b, off + k, none⟩) (by show b < _; omega)).trans (hc k (by omega))
      have kM : (k : Int) < (M : Int) := by omega
      have kmi : (k : Int) < (m : Int) := by omega
      have kmn : k < m := by omega
      cases bt with
      | false =>
        have HN := Lib.hid (C.out.stay (by rw [← HQ.out]; omega) hbt.symm)
        clear hbt ho hc
        go_wp2
        go_roundw
        case rel => exact ⟨k + 1, by omega, by go_num, HN⟩
        case measure => simp [intOf]; omega
      | true =>
        obtain ⟨n, hn⟩ : ∃ n, normO o = n := ⟨_, rfl⟩
        have hok := norm_ok (HG.out.oko o (List.mem_of_getElem? ho))
        rw [hn] at hok
        have hw := H.out wr C.out.below
        obtain ⟨g, cap, hv, -⟩ := (hw.pend_ HQ.out).form (by omega)
        injection hv with hv1 hv2 hv3
        subst hv1
        clear hv2 hv3
        obtain ⟨c0, c1, c2, c3⟩ := hw.step_at ho hn
        obtain ⟨-, -, e2, -⟩ := hw.cells (Below.refl _ _)
        obtain ⟨-, f1, -, -⟩ := C.out.cd.cells (Below.refl _ _)
        have kq : k < q := by omega
        have kqi : (k : Int) < (q : Int) := by omega
        obtain ⟨hb1, hb2⟩ := CrA.size (k := k) (ks := ks) HG.out
        obtain ⟨kd, x, y, i⟩ := n
        have hpb : ¬ p = b1 := by have := C.out.lo _ C.out.cd.ins; have := HPL.out.1; omega
        have hgb : ¬ g = b1 := by have := C.out.lo _ C.out.cd.ins; have := hw.pend.lt g rfl; have h9 := (H.out w (Below.refl _ _)).pend.lt g rfl; omega
        have hb0 : Below wr.heap.size wr wr.drew := below_drewn (Below.refl _ _) 1
        have DO := Lib.hid (do_any ⟨kd, x, y, i⟩ b1 (crashN cfT s.safe (s.ops.take k) ks) wr.drew (C.out.cd.below hb0).safe (by omega) hok hb2)
        have NX := Lib.hid (fun (w' : World) (hm : MapAt w' b1 (didN cfT (crashN cfT s.safe (s.ops.take k) ks) ⟨kd, x, y, i⟩)) (hc : Chg (fun j => j = b1) wr.drew w') => (show CrA w w' base F P0 b0 b1 s ks (k + 1) from
          C.out.step ho hbt.symm hb0 (by rw [← hn, did_norm] at hm; exact hm) hc))
        simp only at c0 c1 c2 c3
        have KP := Lib.hid (fun (w' : World) (hc : Chg (fun j => j = b1) wr.drew w') => (show w'.cell? ⟨p, 2, none⟩ = some (.slice (some ⟨g, 0, none⟩) q cp) ∧ w'.cell? ⟨P0, 1, none⟩ = some (.map (some b1)) ∧ w'.cell? ⟨g, k * 4, none⟩ = some (.int .i64 kd) ∧ w'.cell? ⟨g, k * 4 + 1, none⟩ = some (.string x) ∧ w'.cell? ⟨g, k * 4 + 2, none⟩ = some (.string y) ∧ w'.cell? ⟨g, k * 4 + 3, none⟩ = some (.int .i64 i) from by
          have hgl := (hw.pend.lt g rfl).2
          have hg := fun o => World.cell?_of_block (w := wr.drew) (a := ⟨g, o, none⟩) (hc.block g hgl hgb)
          exact ⟨((hw.below hb0).blk.chg hc hpb).cell 2, ((C.out.cd.below hb0).blk.chg hc (fun e => C.out.cd.sp e.symm)).cell 1, (hg _).trans c0, (hg _).trans c1, (hg _).trans c2, (hg _).trans c3⟩))
        have HK := Lib.hid (KP.out _ (Chg.refl _ _))
        clear hbt ho hc hok hn hb1 hb2 hw hpb hgb hb0
        go_wp2
        clear c0 c1 c2 c3 e2 f1 ck
        go_region_held3 (fun w' => w'.cell? ⟨p, 2, none⟩ = some (.slice (some ⟨g, 0, none⟩) q cp) ∧ w'.cell? ⟨P0, 1, none⟩ = some (.map (some b1)) ∧ w'.cell? ⟨g, k * 4, none⟩ = some (.int .i64 kd) ∧ w'.cell? ⟨g, k * 4 + 1, none⟩ = some (.string x) ∧ w'.cell? ⟨g, k * 4 + 2, none⟩ = some (.string y) ∧ w'.cell? ⟨g, k * 4 + 3, none⟩ = some (.int .i64 i))
          (first | assumption | exact HK.out)
          (first | (go_at_call 85; go_loud (refine DO.out.mono ?_; rintro e w3 ⟨rfl, hm, hc⟩; have HN := Lib.hid (NX.out _ hm hc); have hk3 := KP.out _ hc; clear hm hc)))
        go_wp2
        go_roundw
        case rel => exact ⟨k + 1, by omega, by go_num, HN⟩
        case measure => simp [intOf]; omega
    · obtain rfl : k = M := by omega
      have kM : ¬ (k : Int) < (k : Int) := by omega
      have hb0 : Below wr.heap.size wr wr.drew := below_drewn (Below.refl _ _) 1
      obtain ⟨f0, f1, -, -⟩ := C.out.cd.cells (Below.refl _ _)
      have hls : (crashN cfT s.safe (s.ops.take k) ks).length ≤ 1000000 := by have := (CrA.size (k := k) (ks := ks) HG.out).1; omega
      have CO := Lib.hid (copy_any b0 b1 (crashN cfT s.safe (s.ops.take k) ks) wr.drew (C.out.cd.below hb0).now (C.out.cd.below hb0).safe C.out.cd.ne hls)
      have KP := Lib.hid (fun (w' : World) (hc : Chg (fun j => j = b0) wr.drew w') => (show w'.cell? ⟨P0, 0, none⟩ = some (.map (some b0)) ∧ w'.cell? ⟨P0, 1, none⟩ = some (.map (some b1)) from by
        have hb := (C.out.cd.below hb0).blk.chg hc (fun e => C.out.cd.np e.symm)
        exact ⟨hb.cell 0, hb.cell 1⟩))
      have HK := Lib.hid (KP.out _ (Chg.refl _ _))
      have NX := Lib.hid (fun (w' : World) (hm : MapAt w' b0 (crashN cfT s.safe (s.ops.take k) ks)) (hc : Chg (fun j => j = b0) wr.drew w') => C.out.out HKK.out hb0 hm hc)
      clear hb0 hls f0 f1
      go_wp2
      go_region_held3 (fun w' => w'.cell? ⟨P0, 0, none⟩ = some (.map (some b0)) ∧ w'.cell? ⟨P0, 1, none⟩ = some (.map (some b1)))
        (first | assumption | exact HK.out)
        (first | (go_at_call 88; go_loud (refine CO.out.mono ?_; rintro e w3 ⟨rfl, hm, hc⟩; have HN := Lib.hid (NX.out _ hm hc); have hk3 := KP.out _ hc; clear hm hc)))
      go_wp2
      go_ret
      exact HN.out

end Go.Proofs.YtclglbddibjenaaGreat
