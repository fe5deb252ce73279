/-
  LAYER 4, PLAIN: lists of texts that rise: there is one such list of given members; to sort and to drop what comes twice makes it, and so does it to put one text after another in its place. Names of fields, how a text is cut at its first sign of equality. Of no program.
-/
import Derived.Lib.SlicesCompact
import Derived.Lib.Bytealg
import Derived.Lib.IndexLaws
import Derived.Sort.Walk0
set_option linter.unusedVariables false
namespace Go.Proofs.Ytakjiklpfddooaa

/-! ### Strict total comparisons -/

/-- A comparison that tells any two apart. -/
structure TotC {α : Type} (cf : α → α → Int) : Prop where
  eq : ∀ x y, cf x y = 0 → x = y
  self : ∀ x, cf x x = 0
  anti : ∀ x y, cf x y < 0 → 0 < cf y x
  anti' : ∀ x y, 0 < cf x y → cf y x < 0
  trans : ∀ x y z, cf x y < 0 → cf y z < 0 → cf x z < 0

section
variable {α : Type} {cf : α → α → Int}

/-- A list that rises strictly. -/
def Rises (cf : α → α → Int) (l : List α) : Prop := l.Pairwise fun x y => cf x y < 0

theorem TotC.irr (h : TotC cf) (x : α) : ¬ cf x x < 0 := by rw [h.self]; omega
theorem TotC.asym (h : TotC cf) {x y : α} (h1 : cf x y < 0) : ¬ cf y x < 0 := by have := h.anti x y h1; omega
theorem TotC.tri (h : TotC cf) (x y : α) : cf x y < 0 ∨ x = y ∨ cf y x < 0 := by
  rcases Int.lt_trichotomy (cf x y) 0 with h1 | h1 | h1
  · exact .inl h1
  · exact .inr (.inl (h.eq x y h1))
  · exact .inr (.inr (h.anti' x y h1))

theorem rise_unique (h : TotC cf) : ∀ (a b : List α), Rises cf a → Rises cf b → (∀ x, x ∈ a ↔ x ∈ b) → a = b
  | [], [], _, _, _ => rfl
  | [], y :: b, _, _, e => by have := (e y).2 (by simp); simp at this
  | x :: a, [], _, _, e => by have := (e x).1 (by simp); simp at this
  | x :: a, y :: b, ha, hb, e => by
    unfold Rises at ha hb
    rw [List.pairwise_cons] at ha hb
    have hxy : x = y := by
      have h1 := (e x).1 (by simp)
      have h2 := (e y).2 (by simp)
      rw [List.mem_cons] at h1 h2
      rcases h1 with h1 | h1
      · exact h1
      · rcases h2 with h2 | h2
        · exact h2.symm
        · exact absurd (ha.1 y h2) (h.asym (hb.1 x h1))
    subst hxy
    have := rise_unique h a b ha.2 hb.2 (fun z => by
      have hz := e z
      rw [List.mem_cons, List.mem_cons] at hz
      constructor
      · intro hm
        rcases hz.1 (.inr hm) with e1 | e1
        · subst e1; exact absurd (ha.1 z hm) (h.irr z)
        · exact e1
      · intro hm
        rcases hz.2 (.inr hm) with e1 | e1
        · subst e1; exact absurd (hb.1 z hm) (h.irr z)
        · exact e1)
    rw [this]

/-! ### One text put in its place -/

/-- The document's Put, step by step: what has been laid so far, and whether s is among it. -/
def putStep (cf : α → α → Int) (s : α) (st : List α × Bool) (x : α) : List α × Bool :=
  if cf s x < 0 ∧ st.2 = false then (st.1 ++ [s] ++ [x], true) else (st.1 ++ [x], st.2)

def putRun (cf : α → α → Int) (s : α) (l : List α) : List α × Bool := l.foldl (putStep cf s) ([], false)

def putEnd (cf : α → α → Int) (s : α) (l : List α) : List α := if (putRun cf s l).2 then (putRun cf s l).1 else (putRun cf s l).1 ++ [s]

/-- The document's Put. -/
def putL [DecidableEq α] (cf : α → α → Int) (l : List α) (s : α) : List α := if s ∈ l then l else putEnd cf s l

theorem putRun_snoc (s : α) (l : List α) (x : α) : putRun cf s (l ++ [x]) = putStep cf s (putRun cf s l) x := by
  unfold putRun; rw [List.foldl_append]; rfl

theorem putRun_mem (s : α) (l : List α) : ∀ y, y ∈ (putRun cf s l).1 ↔ y ∈ l ∨ (y = s ∧ (putRun cf s l).2 = true) := by
  suffices H : ∀ (l : List α) (st : List α × Bool), ∀ y, y ∈ (l.foldl (putStep cf s) st).1 ↔ y ∈ l ∨ y ∈ st.1 ∨ (y = s ∧ st.2 = false ∧ (l.foldl (putStep cf s) st).2 = true) by
    intro y
    have := H l ([], false) y
    simpa [putRun] using this
  intro l
  induction l with
  | nil =>
    intro st y
    simp only [List.foldl_nil, List.not_mem_nil, false_or]
    constructor
    · exact .inl
    · rintro (h | ⟨_, h1, h2⟩)
      · exact h
      · rw [h1] at h2; cases h2
  | cons x l ih =>
    intro st y
    rw [List.foldl_cons, ih, List.mem_cons]
    have keep : ∀ (l : List α) (o : List α), (l.foldl (putStep cf s) (o, true)).2 = true := by
      intro l
      induction l with
      | nil => intro o; rfl
      | cons x l ih => intro o; rw [List.foldl_cons, putStep, if_neg (by simp)]; exact ih _
    by_cases hc : cf s x < 0 ∧ st.2 = false
    · have e : putStep cf s st x = (st.1 ++ [s] ++ [x], true) := by unfold putStep; rw [if_pos hc]
      rw [e, keep]
      simp only [List.mem_append, List.mem_singleton, hc.2, true_and]
      constructor
      · rintro (h | ((h | h) | h) | ⟨_, h, _⟩)
        · exact .inl (.inr h)
        · exact .inr (.inl h)
        · exact .inr (.inr ⟨h, trivial⟩)
        · exact .inl (.inl h)
        · cases h
      · rintro ((h | h) | h | ⟨h, _⟩)
        · exact .inr (.inl (.inr h))
        · exact .inl h
        · exact .inr (.inl (.inl (.inl h)))
        · exact .inr (.inl (.inl (.inr h)))
    · have e : putStep cf s st x = (st.1 ++ [x], st.2) := by unfold putStep; rw [if_neg hc]
      rw [e]
      simp only [List.mem_append, List.mem_singleton]
      constructor
      · rintro (h | (h | h) | h)
        · exact .inl (.inr h)
        · exact .inr (.inl h)
        · exact .inl (.inl h)
        · exact .inr (.inr h)
      · rintro ((h | h) | h | h)
        · exact .inr (.inl (.inr h))
        · exact .inl h
        · exact .inr (.inl (.inl h))
        · exact .inr (.inr h)

theorem putEnd_mem (s : α) (l : List α) : ∀ y, y ∈ putEnd cf s l ↔ y ∈ l ∨ y = s := by
  intro y
  unfold putEnd
  by_cases h : (putRun cf s l).2 = true
  · rw [if_pos h, putRun_mem, h]; simp
  · rw [if_neg h, List.mem_append, putRun_mem]
    simp only [Bool.not_eq_true] at h
    rw [h]; simp

/-- What has been laid rises, and ends below all that is still to come. -/
theorem putRun_rises (hT : TotC cf) (s : α) : ∀ (l : List α), Rises cf l → s ∉ l →
    Rises cf (putRun cf s l).1 ∧ ((putRun cf s l).2 = false → ∀ y ∈ l, cf y s < 0) ∧ ((putRun cf s l).2 = true → ∃ y ∈ l, cf s y < 0) := by
  suffices H : ∀ (r l : List α), Rises cf (l ++ r) → s ∉ l ++ r → Rises cf (putRun cf s l).1 ∧ ((putRun cf s l).2 = false → ∀ y ∈ l, cf y s < 0) ∧ ((putRun cf s l).2 = true → ∃ y ∈ l, cf s y < 0) by
    intro l hl hs
    exact H [] l (by simpa using hl) (by simpa using hs)
  intro r l
  generalize hn : l.length = n
  induction n generalizing l r with
  | zero =>
    intro _ _
    obtain rfl := List.eq_nil_of_length_eq_zero hn
    exact ⟨List.Pairwise.nil, fun _ y hy => by simp at hy, fun h => by simp [putRun] at h⟩
  | succ n ih =>
    intro hl hs
    obtain ⟨l', x, rfl⟩ : ∃ l' x, l = l' ++ [x] := ⟨l.dropLast, l.getLast (by intro e; subst e; simp at hn), (List.dropLast_concat_getLast _).symm⟩
    have hn' : l'.length = n := by simpa using hn
    obtain ⟨h1, h2, h3⟩ := ih (x :: r) l' hn' (by simpa using hl) (by simpa using hs)
    have hx : ∀ y ∈ l', cf y x < 0 := by
      have hp : Rises cf (l' ++ (x :: r)) := by simpa using hl
      unfold Rises at hp
      rw [List.pairwise_append] at hp
      exact fun y hy => hp.2.2 y hy x (by simp)
    have hne : s ≠ x := fun e => hs (by subst e; simp)
    rw [putRun_snoc]
    by_cases hc : cf s x < 0 ∧ (putRun cf s l').2 = false
    · have e : putStep cf s (putRun cf s l') x = ((putRun cf s l').1 ++ [s] ++ [x], true) := by unfold putStep; rw [if_pos hc]
      rw [e]
      have hm : ∀ y, y ∈ (putRun cf s l').1 → y ∈ l' := fun y hy => by
        rcases (putRun_mem s l' y).1 hy with h | ⟨_, h⟩
        · exact h
        · rw [hc.2] at h; cases h
      refine ⟨?_, (fun h => by cases h), fun _ => ⟨x, by simp, hc.1⟩⟩
      unfold Rises at h1 ⊢
      rw [List.pairwise_append, List.pairwise_append]
      refine ⟨⟨h1, by simp, fun a ha b hb => ?_⟩, by simp, fun a ha b hb => ?_⟩
      · rw [List.mem_singleton] at hb; subst hb; exact h2 hc.2 a (hm a ha)
      · rw [List.mem_singleton] at hb; subst hb
        rw [List.mem_append, List.mem_singleton] at ha
        rcases ha with ha | ha
        · exact hx a (hm a ha)
        · subst ha; exact hc.1
    · have e : putStep cf s (putRun cf s l') x = ((putRun cf s l').1 ++ [x], (putRun cf s l').2) := by unfold putStep; rw [if_neg hc]
      rw [e]
      have hsx : (putRun cf s l').2 = true → cf s x < 0 := fun h => by
        obtain ⟨y, hy, hsy⟩ := h3 h
        exact hT.trans s y x hsy (hx y hy)
      refine ⟨?_, fun hf y hy => ?_, fun ht => ?_⟩
      · unfold Rises at h1 ⊢
        rw [List.pairwise_append]
        refine ⟨h1, by simp, fun a ha b hb => ?_⟩
        rw [List.mem_singleton] at hb; subst hb
        rcases (putRun_mem s l' a).1 ha with h | ⟨rfl, h⟩
        · exact hx a h
        · exact hsx h
      · rw [List.mem_append, List.mem_singleton] at hy
        rcases hy with hy | hy
        · exact h2 hf y hy
        · subst hy
          rcases hT.tri s y with h | h | h
          · exact absurd ⟨h, hf⟩ hc
          · exact absurd h hne
          · exact h
      · obtain ⟨y, hy, hsy⟩ := h3 ht
        exact ⟨y, by simp [hy], hsy⟩

theorem putEnd_rises (h : TotC cf) (s : α) (l : List α) (hl : Rises cf l) (hs : s ∉ l) : Rises cf (putEnd cf s l) := by
  obtain ⟨h1, h2, _⟩ := putRun_rises h s l hl hs
  unfold putEnd
  by_cases hd : (putRun cf s l).2 = true
  · rw [if_pos hd]; exact h1
  · rw [if_neg hd]
    simp only [Bool.not_eq_true] at hd
    unfold Rises at h1 ⊢
    rw [List.pairwise_append]
    refine ⟨h1, by simp, fun a ha b hb => ?_⟩
    rw [List.mem_singleton] at hb; subst hb
    rcases (putRun_mem b l a).1 ha with h | ⟨_, h⟩
    · exact h2 hd a h
    · rw [hd] at h; cases h

variable [DecidableEq α]
theorem putL_mem (l : List α) (s : α) : ∀ y, y ∈ putL cf l s ↔ y ∈ l ∨ y = s := by
  intro y
  unfold putL
  by_cases h : s ∈ l
  · rw [if_pos h]
    constructor
    · exact .inl
    · rintro (h' | h')
      · exact h'
      · subst h'; exact h
  · rw [if_neg h]; exact putEnd_mem s l y
theorem putL_rises (h : TotC cf) (l : List α) (s : α) (hl : Rises cf l) : Rises cf (putL cf l s) := by
  unfold putL
  by_cases hs : s ∈ l
  · rw [if_pos hs]; exact hl
  · rw [if_neg hs]; exact putEnd_rises h s l hl hs

/-- All texts of a list, put one after the other. -/
def putAll (cf : α → α → Int) (l : List α) : List α := l.foldl (putL cf) []
theorem putAll_snoc (l : List α) (s : α) : putAll cf (l ++ [s]) = putL cf (putAll cf l) s := by unfold putAll; rw [List.foldl_append]; rfl
theorem putAll_spec (h : TotC cf) (l : List α) : Rises cf (putAll cf l) ∧ ∀ y, y ∈ putAll cf l ↔ y ∈ l := by
  suffices H : ∀ (l o : List α), Rises cf o → Rises cf (l.foldl (putL cf) o) ∧ ∀ y, y ∈ l.foldl (putL cf) o ↔ y ∈ o ∨ y ∈ l by
    have := H l [] List.Pairwise.nil
    simpa [putAll] using this
  intro l
  induction l with
  | nil => intro o ho; exact ⟨ho, fun y => by simp⟩
  | cons x l ih =>
    intro o ho
    obtain ⟨h1, h2⟩ := ih (putL cf o x) (putL_rises h o x ho)
    refine ⟨h1, fun y => ?_⟩
    rw [List.foldl_cons, h2, putL_mem, List.mem_cons]
    constructor
    · rintro ((h | h) | h)
      · exact .inl h
      · exact .inr (.inl h)
      · exact .inr (.inr h)
    · rintro (h | h | h)
      · exact .inl (.inl h)
      · exact .inl (.inr h)
      · exact .inr h
theorem putL_length (l : List α) (s : α) : (putL cf l s).length ≤ l.length + 1 := by
  have run : ∀ (l : List α) (st : List α × Bool), (l.foldl (putStep cf s) st).1.length + (if (l.foldl (putStep cf s) st).2 then 0 else 1) ≤ st.1.length + l.length + (if st.2 then 0 else 1) := by
    intro l
    induction l with
    | nil => intro st; exact Nat.le_refl _
    | cons x l ih =>
      intro st
      rw [List.foldl_cons]
      refine Nat.le_trans (ih _) ?_
      unfold putStep
      by_cases hc : cf s x < 0 ∧ st.2 = false
      · rw [if_pos hc, hc.2]; simp; omega
      · rw [if_neg hc]; simp; omega
  unfold putL
  by_cases hs : s ∈ l
  · rw [if_pos hs]; omega
  · rw [if_neg hs]
    have := run l ([], false)
    unfold putEnd putRun
    by_cases h : (l.foldl (putStep cf s) ([], false)).2 = true
    · rw [if_pos h]; rw [h] at this; simp at this; omega
    · rw [if_neg h]; simp only [Bool.not_eq_true] at h; rw [h] at this; simp at this ⊢; omega
theorem putAll_length (l : List α) : (putAll cf l).length ≤ l.length := by
  suffices H : ∀ (l o : List α), (l.foldl (putL cf) o).length ≤ o.length + l.length by
    have := H l []; simpa [putAll] using this
  intro l
  induction l with
  | nil => intro o; simp
  | cons x l ih =>
    intro o
    rw [List.foldl_cons]
    have h1 := ih (putL cf o x)
    have h2 := putL_length (cf := cf) o x
    simp; omega

/-! ### Sorted, and what comes twice dropped -/

theorem compact_spec [Inhabited α] (h : TotC cf) (d : Array α) (hs : ∀ i j, i < j → j < d.size → ¬ cf d[j]! d[i]! < 0) (m : Nat) (hm : m ≤ d.size) :
    Rises cf (Lib.compactUpTo d m) ∧ (∀ y, y ∈ Lib.compactUpTo d m ↔ ∃ i, i < m ∧ d[i]! = y) := by
  induction m with
  | zero => exact ⟨by simp [Lib.compactUpTo, Rises], fun y => by simp [Lib.compactUpTo]⟩
  | succ m ih =>
    obtain ⟨h1, h2⟩ := ih (by omega)
    rw [Lib.compactUpTo_succ]
    by_cases hk : Lib.keeps d m = true
    · rw [if_pos hk]
      refine ⟨?_, fun y => ?_⟩
      · unfold Rises at h1 ⊢
        rw [List.pairwise_append]
        refine ⟨h1, by simp, fun a ha b hb => ?_⟩
        rw [List.mem_singleton] at hb; subst hb
        obtain ⟨i, hi, rfl⟩ := (h2 a).1 ha
        have hne : d[m]! ≠ d[m - 1]! := by
          unfold Lib.keeps at hk
          rcases of_decide_eq_true hk with e | e
          · omega
          · exact e
        have hlt : cf d[m - 1]! d[m]! < 0 := by
          rcases h.tri d[m - 1]! d[m]! with e | e | e
          · exact e
          · exact absurd e.symm hne
          · exact absurd e (hs (m - 1) m (by omega) (by omega))
        by_cases hi1 : i = m - 1
        · subst hi1; exact hlt
        · rcases h.tri d[i]! d[m - 1]! with e | e | e
          · exact h.trans _ _ _ e hlt
          · rw [e]; exact hlt
          · exact absurd e (hs i (m - 1) (by omega) (by omega))
      · rw [List.mem_append, List.mem_singleton, h2]
        constructor
        · rintro (⟨i, hi, e⟩ | e)
          · exact ⟨i, by omega, e⟩
          · exact ⟨m, by omega, e.symm⟩
        · rintro ⟨i, hi, e⟩
          by_cases him : i = m
          · subst him; exact .inr e.symm
          · exact .inl ⟨i, by omega, e⟩
    · rw [if_neg hk, List.append_nil]
      refine ⟨h1, fun y => ?_⟩
      rw [h2]
      constructor
      · rintro ⟨i, hi, e⟩; exact ⟨i, by omega, e⟩
      · rintro ⟨i, hi, e⟩
        by_cases him : i = m
        · subst him
          have h0 : ¬ (i = 0 ∨ d[i]! ≠ d[i - 1]!) := by unfold Lib.keeps at hk; simpa using hk
          refine ⟨i - 1, by omega, ?_⟩
          rw [← e]
          exact (Classical.not_not.1 (fun hh => h0 (.inr hh))).symm
        · exact ⟨i, by omega, e⟩

/-- The list that a sort and a compaction leave. -/
def onceL [Inhabited α] (cf : α → α → Int) (l : List α) : List α := Lib.compact (l.mergeSort fun x y => !decide (cf y x < 0))

theorem onceL_spec [Inhabited α] (h : TotC cf) (l : List α) : Rises cf (onceL cf l) ∧ ∀ y, y ∈ onceL cf l ↔ y ∈ l := by
  have hp := List.mergeSort_perm l fun x y => !decide (cf y x < 0)
  have hs := List.pairwise_mergeSort (le := fun x y => !decide (cf y x < 0))
    (by
      intro a b c h1 h2
      simp only [Bool.not_eq_true', decide_eq_false_iff_not] at h1 h2 ⊢
      intro h3
      rcases h.tri a b with e | e | e
      · exact h2 (h.trans c a b h3 e)
      · subst e; exact h2 h3
      · exact h1 e)
    (by
      intro a b
      rcases h.tri a b with e | e | e
      · have := h.asym e; simp [this]
      · subst e; have := h.irr a; simp [this]
      · have := h.asym e; simp [this]) l
  unfold onceL Lib.compact
  generalize hq : (l.mergeSort fun x y => !decide (cf y x < 0)) = q at hp hs ⊢
  have hg : ∀ i, (hi : i < q.length) → q.toArray[i]! = q[i] := fun i hi => by simp [hi]
  obtain ⟨h1, h2⟩ := compact_spec h q.toArray (by
    intro i j hij hj
    have hj' : j < q.length := by simpa using hj
    rw [hg i (by omega), hg j hj']
    have := List.pairwise_iff_getElem.1 hs i j (by omega) hj' hij
    simpa using this) q.length (by simp)
  refine ⟨h1, fun y => ?_⟩
  rw [h2, ← hp.mem_iff]
  constructor
  · rintro ⟨i, hi, e⟩; rw [← e, hg i hi]; exact List.getElem_mem hi
  · intro hy
    obtain ⟨i, hi, e⟩ := List.getElem_of_mem hy
    exact ⟨i, hi, by rw [hg i hi, e]⟩

theorem once_put [Inhabited α] (h : TotC cf) (l : List α) : onceL cf l = putAll cf l := by
  obtain ⟨h1, h2⟩ := onceL_spec h l
  obtain ⟨h3, h4⟩ := putAll_spec h l
  exact rise_unique h _ _ h1 h3 fun x => by rw [h2, h4]

theorem onceL_fix [Inhabited α] (h : TotC cf) (l : List α) (hl : Rises cf l) : onceL cf l = l := by
  obtain ⟨h1, h2⟩ := onceL_spec h l
  exact rise_unique h _ _ h1 hl h2
end

end Go.Proofs.Ytakjiklpfddooaa
