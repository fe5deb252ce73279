/-
  PLAIN MATHEMATICS FOR LAYER 7, of no program: which texts may be names; how many names and ops there are behind any acts; what each call answers and does.
-/
import Derived.Test.YtakjiklpfddooaaDirMem
set_option linter.unusedVariables false
namespace Go.Proofs.Ytakjiklpfddooaa

/-! ### Right -/
def okR (c : Nat) : Bool := decide (33 ≤ c ∧ c ≤ 126 ∧ c ≠ 47)
def allR (s : ByteArray) : Bool := (List.range s.size).all fun i => okR (nthB s i)
def rightB (s : ByteArray) : Bool := decide (1 ≤ s.size ∧ s.size ≤ 100) && allR s
theorem allR_iff (s : ByteArray) : allR s = true ↔ ∀ i, i < s.size → okR (nthB s i) = true := by
  unfold allR
  rw [List.all_eq_true]
  simp only [List.mem_range]
theorem rightB_iff (s : ByteArray) : rightB s = true ↔ 1 ≤ s.size ∧ s.size ≤ 100 ∧ ∀ i, i < s.size → okR (nthB s i) = true := by
  unfold rightB
  rw [Bool.and_eq_true, decide_eq_true_eq, allR_iff]
  exact ⟨fun ⟨⟨a, b⟩, c⟩ => ⟨a, b, c⟩, fun ⟨a, b, c⟩ => ⟨⟨a, b⟩, c⟩⟩
theorem rightB_no {s : ByteArray} (h : ¬ (1 ≤ s.size ∧ s.size ≤ 100 ∧ ∀ i, i < s.size → okR (nthB s i) = true)) : rightB s = false := by
  cases hn : rightB s with
  | false => rfl
  | true => exact absurd ((rightB_iff s).1 hn) h
/-- Of a byte: each test that the code makes. -/
theorem cls7 (c : Nat) : (okR c = true ∧ decide ((c : Int) < 33) = false ∧ decide ((126 : Int) < c) = false ∧ ((c : Int) == 47) = false) ∨
    (okR c = false ∧ (decide ((c : Int) < 33) = true ∨ (decide ((c : Int) < 33) = false ∧ decide ((126 : Int) < c) = true) ∨ (decide ((c : Int) < 33) = false ∧ decide ((126 : Int) < c) = false ∧ ((c : Int) == 47) = true))) := by
  have h47 : ((c : Int) == 47) = decide (c = 47) := by rw [Bool.eq_iff_iff]; simp; omega
  rw [h47]
  unfold okR
  by_cases a1 : c < 33
  · exact .inr ⟨decide_eq_false (by omega), .inl (decide_eq_true (by omega))⟩
  · by_cases a2 : 126 < c
    · exact .inr ⟨decide_eq_false (by omega), .inr (.inl ⟨decide_eq_false (by omega), decide_eq_true (by omega)⟩)⟩
    · by_cases a3 : c = 47
      · exact .inr ⟨decide_eq_false (by omega), .inr (.inr ⟨decide_eq_false (by omega), decide_eq_false (by omega), decide_eq_true a3⟩)⟩
      · exact .inl ⟨decide_eq_true (by omega), decide_eq_false (by omega), decide_eq_false (by omega), decide_eq_false a3⟩

/-! ### how many, how long -/
theorem woN_length : ∀ (l : NmL) (x : ByteArray), (woN l x).length ≤ l.length
  | [], _ => Nat.le_refl _
  | p :: r, x => by
    have := woN_length r x
    unfold woN
    split
    · exact Nat.le_succ_of_le this
    · simp only [List.length_cons]; omega
theorem insN_length : ∀ (l : NmL) (x : ByteArray) (i : Int), (insN cfT l x i).length = l.length + 1
  | [], _, _ => rfl
  | p :: r, x, i => by
    unfold insN
    split
    · rfl
    · simp only [List.length_cons]; rw [insN_length r x i]
theorem withN_length (l : NmL) (x : ByteArray) (i : Int) : (withN cfT l x i).length ≤ l.length + 1 := by
  unfold withN; rw [insN_length]; have := woN_length l x; omega
theorem didN_length (l : NmL) (o : OpB) : (didN cfT l o).length ≤ l.length + 1 := by
  unfold didN
  split
  · exact withN_length _ _ _
  · split
    · omega
    · split
      · next h _ => 
        unfold withN
        rw [insN_length]
        have h1 := woN_length (woN l o.a) o.b
        have h2 := woN_length l o.a
        omega
      · have := woN_length l o.a; omega
theorem crashN_length : ∀ (ops : List OpB) (l : NmL) (ks : List Bool), (crashN cfT l ops ks).length ≤ l.length + ops.length
  | [], l, ks => by cases ks <;> simp [crashN]
  | o :: r, l, [] => by simp [crashN]
  | o :: r, l, k :: ks => by
    have h1 := crashN_length r (if k then didN cfT l o else l) ks
    have h2 := didN_length l o
    show (crashN cfT (if k then didN cfT l o else l) r ks).length ≤ _
    simp only [List.length_cons]
    cases k
    · simp only [Bool.false_eq_true, if_false] at h1 ⊢; omega
    · simp only [if_true] at h1 ⊢; omega

/-- Names that a machine holds. -/
def okN (p : ByteArray × Int) : Prop := p.1.size ≤ 200 ∧ (Lit.int .i64 p.2).wf = true
structure OkO (o : OpB) : Prop where
  a : o.a.size ≤ 200
  b : o.b.size ≤ 200
  id : (Lit.int .i64 o.id).wf = true
  kind : o.kind = 0 ∨ o.kind = 1 ∨ o.kind = 2
theorem wo_ok {l : NmL} (h : ∀ p ∈ l, okN p) (x : ByteArray) : ∀ p ∈ woN l x, okN p := fun p hp => h p (wo_mem l x p hp)
theorem with_ok {l : NmL} (h : ∀ p ∈ l, okN p) {x : ByteArray} {i : Int} (hx : okN (x, i)) : ∀ p ∈ withN cfT l x i, okN p := fun p hp => by
  rcases ins_mem _ _ _ _ hp with rfl | hp
  · exact hx
  · exact wo_ok h x p hp
theorem get_ok {l : NmL} (h : ∀ p ∈ l, okN p) {x : ByteArray} {i : Int} (hg : getN l x = some i) : (Lit.int .i64 i).wf = true := by
  induction l with
  | nil => cases hg
  | cons p r ih =>
    rw [getN_cons] at hg
    split at hg
    · injection hg with hg
      subst hg
      exact (h p (List.mem_cons_self ..)).2
    · exact ih (fun q hq => h q (List.mem_cons_of_mem _ hq)) hg
theorem did_ok {l : NmL} (h : ∀ p ∈ l, okN p) {o : OpB} (ho : OkO o) : ∀ p ∈ didN cfT l o, okN p := by
  unfold didN
  split
  · exact with_ok h ⟨ho.a, ho.id⟩
  · split
    · exact h
    · next i hi =>
      split
      · exact with_ok (wo_ok h _) ⟨ho.b, get_ok h hi⟩
      · exact wo_ok h _
theorem crash_ok : ∀ (ops : List OpB) (l : NmL) (ks : List Bool), (∀ p ∈ l, okN p) → (∀ o ∈ ops, OkO o) → ∀ p ∈ crashN cfT l ops ks, okN p
  | [], l, ks, h, _ => by cases ks <;> exact h
  | o :: r, l, [], h, _ => h
  | o :: r, l, k :: ks, h, ho => by
    show ∀ p ∈ crashN cfT (if k then didN cfT l o else l) r ks, okN p
    refine crash_ok r _ ks ?_ (fun q hq => ho q (List.mem_cons_of_mem _ hq))
    split
    · exact did_ok h (ho o (List.mem_cons_self ..))
    · exact h

/-- No more than N of anything. -/
structure GoodD (s : DB) (N : Nat) : Prop where
  riseN : RiseN cfT s.now
  riseS : RiseN cfT s.safe
  now : s.now.length ≤ N
  safe : s.safe.length + s.ops.length ≤ N
  okn : ∀ p ∈ s.now, okN p
  oks : ∀ p ∈ s.safe, okN p
  oko : ∀ o ∈ s.ops, OkO o
  inv : s.now = s.ops.foldl (didN cfT) s.safe

def newD : DB := ⟨[], [], []⟩
theorem newD_good : GoodD newD 0 := ⟨List.Pairwise.nil, List.Pairwise.nil, Nat.le_refl _, Nat.le_refl _, fun p h => (List.not_mem_nil h).elim, fun p h => (List.not_mem_nil h).elim, fun p h => (List.not_mem_nil h).elim, rfl⟩
theorem GoodD.more {s : DB} {N M : Nat} (h : GoodD s N) (hN : N ≤ M) : GoodD s M := ⟨h.riseN, h.riseS, Nat.le_trans h.now hN, Nat.le_trans h.safe hN, h.okn, h.oks, h.oko, h.inv⟩
theorem GoodD.push {s : DB} {N : Nat} (h : GoodD s N) {o : OpB} (ho : OkO o) : GoodD ⟨didN cfT s.now o, s.safe, s.ops ++ [o]⟩ (N + 1) :=
  ⟨didN_rises cfT_tot h.riseN o, h.riseS, Nat.le_trans (didN_length _ _) (Nat.succ_le_succ h.now), by have := h.safe; simp; omega, did_ok h.okn ho, h.oks, fun q hq => by
    rcases List.mem_append.1 hq with hq | hq
    · exact h.oko q hq
    · simp at hq; subst hq; exact ho, by rw [List.foldl_append, ← h.inv]; rfl⟩
theorem GoodD.sync {s : DB} {N : Nat} (h : GoodD s N) : GoodD s.sync N := ⟨h.riseN, h.riseN, h.now, by have := h.now; simp [DN.sync]; omega, h.okn, h.okn, fun q hq => (List.not_mem_nil hq).elim, rfl⟩
theorem GoodD.crash {s : DB} {N : Nat} (h : GoodD s N) (ks : List Bool) : GoodD (s.crash cfT ks) N := by
  have hl := crashN_length s.ops s.safe ks
  have := h.safe
  have hr := crashN_rises cfT_tot s.ops s.safe ks h.riseS
  have hk := crash_ok s.ops s.safe ks h.oks h.oko
  exact ⟨hr, hr, by show (crashN cfT s.safe s.ops ks).length ≤ N; omega, by show (crashN cfT s.safe s.ops ks).length + 0 ≤ N; omega, hk, hk, fun q hq => (List.not_mem_nil hq).elim, rfl⟩
theorem crash_sync (s : DB) (ks : List Bool) : s.sync.crash cfT ks = ⟨s.now, s.now, []⟩ := by
  unfold DN.crash DN.sync
  cases ks <;> rfl

/-- What is safe, with the first k of what is pending done to it. -/
def behind (s : DB) (k : Nat) : NmL := (s.ops.take k).foldl (didN cfT) s.safe
theorem behind_next {s : DB} {k : Nat} {o : OpB} (h : s.ops[k]? = some o) : behind s (k + 1) = didN cfT (behind s k) o := by
  obtain ⟨hlt, he⟩ := List.getElem?_eq_some_iff.1 h
  unfold behind
  rw [List.take_succ_eq_append_getElem hlt, List.foldl_append, he]; rfl
theorem behind_ok {s : DB} {N : Nat} (h : GoodD s N) (k : Nat) : (behind s k).length ≤ N ∧ ∀ p ∈ behind s k, okN p := by
  have hs := h.safe
  suffices H : ∀ (ops : List OpB) (l : NmL), (∀ o ∈ ops, OkO o) → (∀ p ∈ l, okN p) → (ops.foldl (didN cfT) l).length ≤ l.length + ops.length ∧ ∀ p ∈ ops.foldl (didN cfT) l, okN p by
    obtain ⟨h1, h2⟩ := H (s.ops.take k) s.safe (fun o ho => h.oko o (List.mem_of_mem_take ho)) h.oks
    refine ⟨?_, h2⟩
    rw [List.length_take] at h1
    have h3 : (behind s k).length ≤ s.safe.length + min k s.ops.length := h1
    omega
  intro ops
  induction ops with
  | nil => exact fun l _ h => ⟨Nat.le_refl _, h⟩
  | cons o r ih =>
    intro l ho hl
    obtain ⟨h1, h2⟩ := ih (didN cfT l o) (fun q hq => ho q (List.mem_cons_of_mem _ hq)) (did_ok hl (ho o (List.mem_cons_self ..)))
    have := didN_length l o
    refine ⟨?_, h2⟩
    simp only [List.foldl_cons, List.length_cons]
    omega

/-! ### what a call answers and does -/
def hasB (l : NmL) (x : ByteArray) : Bool := (getN l x).isSome
/-- What Do answers. -/
def doE (l : NmL) (o : OpB) : Int := if o.kind = 0 then (if hasB l o.a then 7 else if rightB o.a then 0 else 1) else if o.kind = 1 then (if hasB l o.a then (if rightB o.b then 0 else 1) else 6) else (if hasB l o.a then 0 else 6)
def doS (s : DB) (o : OpB) : DB := if doE s.now o = 0 then ⟨didN cfT s.now o, s.safe, s.ops ++ [o]⟩ else s
theorem GoodD.do_ {s : DB} {N : Nat} (h : GoodD s N) {o : OpB} (ho : OkO o) : GoodD (doS s o) (N + 1) := by
  unfold doS
  split
  · exact h.push ho
  · exact h.more (Nat.le_succ _)

end Go.Proofs.Ytakjiklpfddooaa
