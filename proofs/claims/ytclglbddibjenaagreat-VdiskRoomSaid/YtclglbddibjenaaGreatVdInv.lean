/-
  PLAIN MATHEMATICS FOR LAYER 8, ON: no two names of one file, whatever was done, whatever a crash keeps; which files a map must have; what holds of a disk behind any small acts. Of no program.
-/
import Derived.Test.YtclglbddibjenaaGreatGrV
set_option linter.unusedVariables false
set_option maxRecDepth 100000
namespace Go.Proofs.YtclglbddibjenaaGreat

theorem wf_nat {n : Nat} (h : n ≤ 4611686018427387904) : (Lit.int .i64 (n : Int)).wf = true := by
  show (decide (IntKind.i64.min ≤ (n : Int)) && decide ((n : Int) ≤ IntKind.i64.max)) = true
  have h1 : IntKind.i64.min = -9223372036854775808 := by decide
  have h2 : IntKind.i64.max = 9223372036854775807 := by decide
  rw [h1, h2, Bool.and_eq_true, decide_eq_true_eq, decide_eq_true_eq]
  omega

/-! ### sums -/
def sumN (f : Nat → Nat) : Nat → Nat
  | 0 => 0
  | n + 1 => sumN f n + f n
theorem sumN_congr {f g : Nat → Nat} : ∀ {n : Nat}, (∀ i, i < n → f i = g i) → sumN f n = sumN g n
  | 0, _ => rfl
  | n + 1, h => by unfold sumN; rw [sumN_congr (n := n) (fun i hi => h i (by omega)), h n (by omega)]
theorem sumN_zero {f : Nat → Nat} : ∀ {n : Nat}, (∀ i, i < n → f i = 0) → sumN f n = 0
  | 0, _ => rfl
  | n + 1, h => by unfold sumN; rw [sumN_zero (n := n) (fun i hi => h i (by omega)), h n (by omega)]
/-- One of them is less. -/
theorem sumN_one {f g : Nat → Nat} {x c : Nat} : ∀ {n : Nat}, x < n → (∀ i, i < n → i ≠ x → f i = g i) → f x = g x + c → sumN f n = sumN g n + c
  | 0, h, _, _ => by omega
  | n + 1, h, he, hx => by
    unfold sumN
    by_cases e : x = n
    · subst e
      rw [sumN_congr (g := g) (fun i hi => he i (by omega) (by omega)), hx]; omega
    · rw [sumN_one (n := n) (by omega) (fun i hi hn => he i (by omega) hn) hx, he n (by omega) (fun h => e h.symm)]; omega
theorem sumN_le {f : Nat → Nat} {c : Nat} : ∀ {n : Nat}, (∀ i, i < n → f i ≤ c) → sumN f n ≤ n * c
  | 0, _ => by simp [sumN]
  | n + 1, h => by
    have h1 := sumN_le (n := n) (fun i hi => h i (by omega))
    have h2 := h n (by omega)
    unfold sumN
    rw [Nat.add_mul]; omega

/-! ### the files that are in the map -/
abbrev OsL := List (Option FS)
def pendO : Option FS → Nat
  | none => 0
  | some f => f.ops.length
def liveB (os : OsL) (i : Int) : Prop := 0 ≤ i ∧ ∃ f, os[i.toNat]? = some (some f)
/-- The state of a name's file. -/
def liveAt (os : OsL) (i : Int) : Option FS := if 0 ≤ i then (os[i.toNat]?).join else none
theorem liveAt_some {os : OsL} {i : Int} {f : FS} (h : liveAt os i = some f) : 0 ≤ i ∧ os[i.toNat]? = some (some f) := by
  unfold liveAt at h
  split at h
  · next h0 =>
    refine ⟨h0, ?_⟩
    cases hc : os[i.toNat]? with
    | none => rw [hc] at h; cases h
    | some o => rw [hc] at h; cases o with
      | none => cases h
      | some g => simp at h; rw [h]
  · cases h
theorem liveAt_of {os : OsL} {i : Nat} {f : FS} (h : os[i]? = some (some f)) : liveAt os i = some f := by
  unfold liveAt; rw [if_pos (by omega), Int.toNat_natCast, h]; rfl
theorem liveB_some {os : OsL} {i : Int} (h : liveB os i) : ∃ (k : Nat) (f : FS), i = k ∧ os[k]? = some (some f) := by
  obtain ⟨h0, f, hf⟩ := h
  exact ⟨i.toNat, f, by omega, hf⟩
theorem liveB_mono {os os' : OsL} {i : Int} (h : liveB os i) (hm : ∀ (k : Nat) (f : FS), os[k]? = some (some f) → ∃ g, os'[k]? = some (some g)) : liveB os' i := by
  obtain ⟨h0, f, hf⟩ := h
  exact ⟨h0, hm _ f hf⟩

/-- What a crash of each leaves: the i-th by what of keep begins at its place. -/
def crashO (ks : List Bool) : Nat → OsL → OsL
  | _, [] => []
  | at_, o :: r => (o.map fun f => f.crash (ks.drop at_)) :: crashO ks (at_ + pendO o) r
/-- Those that have a name, or something pending. -/
def keepO (l : NmL) (i : Nat) : Option FS → Option FS
  | none => none
  | some f => if namedB l i || decide (0 < f.ops.length) then some f else none
theorem keepO_some {l : NmL} {i : Nat} {o : Option FS} {f : FS} (h : keepO l i o = some f) : o = some f ∧ (namedB l i = true ∨ 0 < f.ops.length) := by
  cases o with
  | none => cases h
  | some g =>
    simp only [keepO] at h
    split at h
    · next hn =>
      injection h with h
      subst h
      refine ⟨rfl, ?_⟩
      rcases Bool.or_eq_true _ _ ▸ hn with h1 | h1
      · exact .inl h1
      · exact .inr (by simpa using h1)
    · cases h
theorem keepO_none {l : NmL} {i : Nat} {g : FS} (h : keepO l i (some g) = none) : namedB l i = false ∧ g.ops = [] := by
  simp only [keepO] at h
  split at h
  · cases h
  · next hn =>
    simp only [Bool.or_eq_true, decide_eq_true_eq, not_or] at hn
    exact ⟨by simpa using hn.1, List.eq_nil_of_length_eq_zero (by omega)⟩
def dropO (l : NmL) : Nat → OsL → OsL
  | _, [] => []
  | i, o :: r => keepO l i o :: dropO l (i + 1) r
theorem dropO_length (l : NmL) : ∀ (os : OsL) (i : Nat), (dropO l i os).length = os.length
  | [], i => rfl
  | o :: r, i => by simp only [dropO, List.length_cons]; rw [dropO_length l r]
theorem dropO_get (l : NmL) : ∀ (os : OsL) (i k : Nat), (dropO l i os)[k]? = (os[k]?).map (keepO l (i + k))
  | [], i, k => by simp [dropO]
  | o :: r, i, 0 => by simp [dropO]
  | o :: r, i, k + 1 => by
    simp only [dropO, List.getElem?_cons_succ]
    rw [dropO_get l r (i + 1) k, show i + 1 + k = i + (k + 1) by omega]
theorem crashO_length (ks : List Bool) : ∀ (os : OsL) (at_ : Nat), (crashO ks at_ os).length = os.length
  | [], _ => rfl
  | o :: r, at_ => by simp only [crashO, List.length_cons]; rw [crashO_length ks r]
def looseO (os : OsL) : Nat := sumN (fun i => pendO (os.getD i none)) os.length
theorem getD_cons_succ {α : Type} (a d : α) (r : List α) (i : Nat) : (a :: r).getD (i + 1) d = r.getD i d := by simp
theorem sumN_shift (f : Nat → Nat) : ∀ n, sumN f (n + 1) = f 0 + sumN (fun i => f (i + 1)) n
  | 0 => by simp [sumN]
  | n + 1 => by rw [sumN, sumN_shift f n, sumN]; omega
theorem looseO_cons (o : Option FS) (r : OsL) : looseO (o :: r) = pendO o + looseO r := by
  unfold looseO
  rw [List.length_cons, sumN_shift]
  simp
theorem crashO_get (ks : List Bool) : ∀ (os : OsL) (at_ k : Nat), (crashO ks at_ os)[k]? = (os[k]?).map (fun o => o.map fun f => f.crash (ks.drop (at_ + looseO (os.take k))))
  | [], at_, k => by simp [crashO]
  | o :: r, at_, 0 => by simp [crashO, looseO, sumN]
  | o :: r, at_, k + 1 => by
    simp only [crashO, List.getElem?_cons_succ, List.take_succ_cons]
    rw [crashO_get ks r, looseO_cons, Nat.add_assoc]

/-! ### no two names of one file -/
structure FreshD (d : DB) : Prop where
  uq : Uniq d.safe
  apart : ∀ o ∈ d.ops, o.kind = 0 → ∀ p ∈ d.safe, p.2 ≠ o.id
  ops : d.ops.Pairwise fun o o' => o.kind = 0 → o'.kind = 0 → o.id ≠ o'.id
theorem didN_ids {l : NmL} {o : OpB} {p : ByteArray × Int} (h : p ∈ didN cfT l o) : (∃ q ∈ l, q.2 = p.2) ∨ (o.kind = 0 ∧ p.2 = o.id) := by
  have := IdsP.did (P := fun i => (∃ q ∈ l, q.2 = i) ∨ (o.kind = 0 ∧ i = o.id)) (l := l) (o := o) (fun q hq => .inl ⟨q, hq, rfl⟩) (fun hk => .inr ⟨hk, rfl⟩)
  exact this p h
theorem get_mem : ∀ {l : NmL} {x : ByteArray} {i : Int}, getN l x = some i → (x, i) ∈ l
  | [], x, i, h => by cases h
  | p :: r, x, i, h => by
    rw [getN_cons] at h
    split at h
    · next e => injection h with h; subst h; subst e; exact List.mem_cons_self ..
    · exact List.mem_cons_of_mem _ (get_mem h)
theorem wo_ne : ∀ {l : NmL} {x : ByteArray} {i : Int}, Uniq l → getN l x = some i → ∀ p ∈ woN l x, p.2 ≠ i
  | [], x, i, _, h, _, _ => by cases h
  | q :: r, x, i, hu, h, p, hp => by
    obtain ⟨h1, h2⟩ := List.pairwise_cons.1 hu
    rw [getN_cons] at h
    unfold woN at hp
    by_cases e : q.1 = x
    · rw [if_pos e] at h hp
      injection h with h
      subst h
      exact fun e2 => h1 p (wo_mem r x p hp) e2.symm
    · rw [if_neg e] at h hp
      rcases List.mem_cons.1 hp with rfl | hp
      · exact h1 (x, i) (get_mem h)
      · exact wo_ne h2 h p hp
theorem Uniq.did {l : NmL} (h : Uniq l) {o : OpB} (ho : o.kind = 0 → ∀ p ∈ l, p.2 ≠ o.id) : Uniq (didN cfT l o) := by
  unfold didN
  split
  · next hk =>
    exact Uniq.ins (h.wo o.a) o.a (fun p hp => ho hk p (wo_mem _ _ _ hp))
  · split
    · exact h
    · next i hi =>
      split
      · exact Uniq.ins ((h.wo o.a).wo o.b) o.b (fun p hp => wo_ne h hi p (wo_mem _ _ _ hp))
      · exact h.wo _
theorem Uniq.crash : ∀ {ops : List OpB} {l : NmL} {ks : List Bool}, Uniq l → (∀ o ∈ ops, o.kind = 0 → ∀ p ∈ l, p.2 ≠ o.id) → ops.Pairwise (fun o o' => o.kind = 0 → o'.kind = 0 → o.id ≠ o'.id) → Uniq (crashN cfT l ops ks)
  | [], l, ks, h, _, _ => by cases ks <;> exact h
  | o :: r, l, [], h, _, _ => h
  | o :: r, l, k :: ks, h, ha, hp => by
    obtain ⟨h1, h2⟩ := List.pairwise_cons.1 hp
    show Uniq (crashN cfT (if k then didN cfT l o else l) r ks)
    cases k with
    | false => exact Uniq.crash h (fun q hq => ha q (List.mem_cons_of_mem _ hq)) h2
    | true =>
      refine Uniq.crash (h.did (ha o (List.mem_cons_self ..))) (fun q hq hk p hpm => ?_) h2
      rcases didN_ids hpm with ⟨z, hz, e⟩ | ⟨ho, e⟩
      · rw [← e]; exact ha q (List.mem_cons_of_mem _ hq) hk z hz
      · rw [e]; exact h1 q hq ho hk
theorem Uniq.all : ∀ {ops : List OpB} {l : NmL}, Uniq l → (∀ o ∈ ops, o.kind = 0 → ∀ p ∈ l, p.2 ≠ o.id) → ops.Pairwise (fun o o' => o.kind = 0 → o'.kind = 0 → o.id ≠ o'.id) → Uniq (ops.foldl (didN cfT) l)
  | [], l, h, _, _ => h
  | o :: r, l, h, ha, hp => by
    obtain ⟨h1, h2⟩ := List.pairwise_cons.1 hp
    rw [List.foldl_cons]
    refine Uniq.all (h.did (ha o (List.mem_cons_self ..))) (fun q hq hk p hpm => ?_) h2
    rcases didN_ids hpm with ⟨z, hz, e⟩ | ⟨ho, e⟩
    · rw [← e]; exact ha q (List.mem_cons_of_mem _ hq) hk z hz
    · rw [e]; exact h1 q hq ho hk
theorem IdsP.all {P : Int → Prop} : ∀ {ops : List OpB} {l : NmL}, IdsP P l → (∀ o ∈ ops, o.kind = 0 → P o.id) → IdsP P (ops.foldl (didN cfT) l)
  | [], l, h, _ => h
  | o :: r, l, h, ho => by
    rw [List.foldl_cons]
    exact IdsP.all (h.did (ho o (List.mem_cons_self ..))) (fun q hq => ho q (List.mem_cons_of_mem _ hq))

/-! ### what holds of a disk -/
/-- Behind n small acts. -/
structure GoodV (v : VS) (os : OsL) (N : Nat) : Prop where
  d : GoodD v.d N
  fresh : FreshD v.d
  len : os.length = v.fs.length
  few : v.fs.length ≤ N
  fs : ∀ f ∈ v.fs, f.Good (N * 10)
  live : ∀ (i : Nat) (f : FS), os[i]? = some (some f) → v.fs[i]? = some f
  gone : ∀ (i : Nat) (f : FS), os[i]? = some none → v.fs[i]? = some f → f.ops = []
  safe : IdsP (liveB os) v.d.safe
  ops : ∀ o ∈ v.d.ops, o.kind = 0 → liveB os o.id
  r0 : 0 ≤ v.room
  r1 : v.room ≤ 9223372036854775807
  f0 : 0 ≤ v.fuse
  f1 : v.fuse ≤ 9223372036854775807
section
variable {v : VS} {os : OsL} {N : Nat}
theorem GoodV.now (h : GoodV v os N) : IdsP (liveB os) v.d.now := by rw [h.d.inv]; exact IdsP.all h.safe h.ops
theorem GoodV.uq (h : GoodV v os N) : Uniq v.d.now := by rw [h.d.inv]; exact Uniq.all h.fresh.uq h.fresh.apart h.fresh.ops
theorem live_lt (h : GoodV v os N) {i : Int} (hi : liveB os i) : InR v.fs.length i := by
  obtain ⟨h0, f, hf⟩ := hi
  have := (List.getElem?_eq_some_iff.1 hf).1
  have := h.len
  exact ⟨h0, by omega⟩
theorem GoodV.inR (h : GoodV v os N) : IdsP (InR v.fs.length) v.d.now := h.now.mono fun i hi => live_lt h hi
theorem GoodV.at_ (h : GoodV v os N) {x : ByteArray} {i : Int} (hx : getN v.d.now x = some i) : ∃ (k : Nat) (f : FS), i = k ∧ os[k]? = some (some f) ∧ v.fs[k]? = some f ∧ fileAt v.fs i = f ∧ f.Good (N * 10) := by
  obtain ⟨k, f, rfl, hf⟩ := liveB_some (h.now.get hx)
  have hl := h.live k f hf
  exact ⟨k, f, rfl, hf, hl, by unfold fileAt; rw [List.getD_eq_getElem?_getD, Int.toNat_natCast, hl]; rfl, h.fs f (List.mem_of_getElem? hl)⟩
theorem fileAt_some {fs : List FS} {k : Nat} {f : FS} (h : fs[k]? = some f) : fileAt fs k = f := by unfold fileAt; rw [List.getD_eq_getElem?_getD, Int.toNat_natCast, h]; rfl
theorem GoodV.more (h : GoodV v os N) {M : Nat} (hN : N ≤ M) : GoodV v os M :=
  ⟨h.d.more hN, h.fresh, h.len, Nat.le_trans h.few hN, fun f hf => (h.fs f hf).more (by omega), h.live, h.gone, h.safe, h.ops, h.r0, h.r1, h.f0, h.f1⟩
theorem GoodV.new (room : Int) (hr : room ≤ 9223372036854775807) : GoodV (VS.new room) [] 0 :=
  ⟨newD_good, ⟨List.Pairwise.nil, fun o h => (List.not_mem_nil h).elim, List.Pairwise.nil⟩, rfl, Nat.le_refl _, fun f h => (List.not_mem_nil h).elim, fun i f h => by simp at h, fun i f h => by simp at h, fun p h => (List.not_mem_nil h).elim, fun o h => (List.not_mem_nil h).elim,
    by show 0 ≤ (if room < 0 then 0 else room); split <;> omega, by show (if room < 0 then 0 else room) ≤ _; split <;> omega, Int.le_refl _, by show (0 : Int) ≤ _; omega⟩
theorem GoodV.tick (h : GoodV v os N) : GoodV v.tick os N := by
  unfold VS.tick
  split
  · exact ⟨h.d, h.fresh, h.len, h.few, h.fs, h.live, h.gone, h.safe, h.ops, h.r0, h.r1, h.f0, h.f1⟩
  · next hs =>
    split
    · next ha =>
      have : v.fuse ≠ 0 := fun e => hs (by unfold VS.stops; simp [ha, e])
      have := h.f0; have := h.f1
      exact ⟨h.d, h.fresh, h.len, h.few, h.fs, h.live, h.gone, h.safe, h.ops, h.r0, h.r1, by show 0 ≤ v.fuse - 1; omega, by show v.fuse - 1 ≤ _; omega⟩
    · exact h
theorem GoodV.arm (h : GoodV v os N) {n : Int} (hn : n ≤ 9223372036854775807) : GoodV (v.arm n) os N :=
  ⟨h.d, h.fresh, h.len, h.few, h.fs, h.live, h.gone, h.safe, h.ops, h.r0, h.r1, by show 0 ≤ (if n < 0 then 0 else n); split <;> omega, by show (if n < 0 then 0 else n) ≤ _; split <;> omega⟩
/-- An op that makes no file. -/
theorem GoodV.name (h : GoodV v os N) {o : OpB} (ho : OkO o) (hk : o.kind ≠ 0) : GoodV { v with d := doS v.d o } os (N + 1) := by
  have hd := h.d.do_ ho
  refine ⟨hd, ?_, h.len, Nat.le_succ_of_le h.few, fun f hf => (h.fs f hf).more (by omega), h.live, h.gone, ?_, ?_, h.r0, h.r1, h.f0, h.f1⟩
  · show FreshD (doS v.d o)
    unfold doS
    split
    · refine ⟨h.fresh.uq, fun q hq hk2 => ?_, ?_⟩
      · rcases List.mem_append.1 hq with hq | hq
        · exact h.fresh.apart q hq hk2
        · simp at hq; subst hq; exact absurd hk2 hk
      · show (v.d.ops ++ [o]).Pairwise _
        refine List.pairwise_append.2 ⟨h.fresh.ops, List.pairwise_singleton _ _, fun a ha b hb => ?_⟩
        simp at hb; subst hb
        exact fun _ hk2 => absurd hk2 hk
    · exact h.fresh
  · show IdsP _ (doS v.d o).safe
    unfold doS
    split
    · exact h.safe
    · exact h.safe
  · show ∀ q ∈ (doS v.d o).ops, _
    unfold doS
    split
    · intro q hq hk2
      rcases List.mem_append.1 hq with hq | hq
      · exact h.ops q hq hk2
      · simp at hq; subst hq; exact absurd hk2 hk
    · exact h.ops
/-- A file has come. -/
theorem GoodV.create (h : GoodV v os N) {x : ByteArray} (hx : x.size ≤ 200) (hN : N ≤ 900000) (he : doE v.d.now (createO v x) = 0) : GoodV { v with d := doS v.d (createO v x), fs := v.fs ++ [FS.new] } (os ++ [some FS.new]) (N + 1) := by
  have hf := h.few
  have hok : OkO (createO v x) := ⟨hx, by show (0 : Nat) ≤ _; omega, wf_nat (by omega), .inl rfl⟩
  have hd := h.d.do_ hok
  have hl := h.len
  have hs : doS v.d (createO v x) = ⟨didN cfT v.d.now (createO v x), v.d.safe, v.d.ops ++ [createO v x]⟩ := by unfold doS; rw [if_pos he]
  have old : ∀ i, liveB os i → i ≠ (createO v x).id := fun i hi e => by
    have := live_lt h hi
    have e2 : i = (v.fs.length : Int) := e
    have := this.2; omega
  have mono : ∀ (k : Nat) (f : FS), os[k]? = some (some f) → ∃ g, (os ++ [some FS.new])[k]? = some (some g) := fun k f hk => ⟨f, by rw [List.getElem?_append_left (List.getElem?_eq_some_iff.1 hk).1]; exact hk⟩
  have last : liveB (os ++ [some FS.new]) (createO v x).id := ⟨by show (0 : Int) ≤ (v.fs.length : Int); omega, FS.new, by
    show (os ++ [some FS.new])[((v.fs.length : Int)).toNat]? = _
    rw [Int.toNat_natCast, ← hl, List.getElem?_append_right (Nat.le_refl _)]; simp⟩
  refine ⟨hd, ?_, by simp [hl], by simp; omega, ?_, ?_, ?_, ?_, ?_, h.r0, h.r1, h.f0, h.f1⟩
  · show FreshD (doS v.d (createO v x))
    rw [hs]
    refine ⟨h.fresh.uq, fun q hq hk p hp => ?_, ?_⟩
    · rcases List.mem_append.1 hq with hq | hq
      · exact h.fresh.apart q hq hk p hp
      · simp at hq; subst hq; exact old _ (h.safe p hp)
    · show (v.d.ops ++ [createO v x]).Pairwise _
      refine List.pairwise_append.2 ⟨h.fresh.ops, List.pairwise_singleton _ _, fun a ha b hb => ?_⟩
      simp at hb; subst hb
      exact fun hk _ => old _ (h.ops a ha hk)
  · intro f hf2
    rcases List.mem_append.1 hf2 with hf2 | hf2
    · exact (h.fs f hf2).more (by omega)
    · simp at hf2; subst hf2; exact FS.new_good.more (by omega)
  · intro i f hi
    rcases Nat.lt_or_ge i os.length with e | e
    · rw [List.getElem?_append_left e] at hi
      show (v.fs ++ [FS.new])[i]? = _
      rw [List.getElem?_append_left (by omega)]
      exact h.live i f hi
    · rw [List.getElem?_append_right e] at hi
      show (v.fs ++ [FS.new])[i]? = _
      rw [List.getElem?_append_right (by omega), ← hl]
      rcases Nat.eq_zero_or_pos (i - os.length) with z | z
      · rw [z] at hi ⊢; simp at hi ⊢; exact hi
      · rw [List.getElem?_eq_none (by simp; omega)] at hi; cases hi
  · intro i f hi hif
    have hi2 : (os ++ [some FS.new])[i]? = some none := hi
    rcases Nat.lt_or_ge i os.length with e | e
    · rw [List.getElem?_append_left e] at hi2
      have : (v.fs ++ [FS.new])[i]? = some f := hif
      rw [List.getElem?_append_left (by omega)] at this
      exact h.gone i f hi2 this
    · rw [List.getElem?_append_right e] at hi2
      rcases Nat.eq_zero_or_pos (i - os.length) with z | z
      · rw [z] at hi2; simp at hi2
      · rw [List.getElem?_eq_none (by simp; omega)] at hi2; cases hi2
  · show IdsP _ (doS v.d (createO v x)).safe
    rw [hs]
    exact h.safe.mono fun i hi => liveB_mono hi mono
  · show ∀ q ∈ (doS v.d (createO v x)).ops, _
    rw [hs]
    intro q hq hk
    rcases List.mem_append.1 hq with hq | hq
    · exact liveB_mono (h.ops q hq hk) mono
    · simp at hq; subst hq; exact last
theorem GoodV.createS (h : GoodV v os N) {x : ByteArray} (hx : x.size ≤ 200) (hN : N ≤ 900000) : GoodV (v.create x) (if doE v.d.now (createO v x) = 0 then os ++ [some FS.new] else os) (N + 1) := by
  unfold VS.create
  by_cases he : doE v.d.now (createO v x) = 0
  · rw [if_pos he, if_pos he]; exact h.create hx hN he
  · rw [if_neg he, if_neg he]; exact h.more (Nat.le_succ _)
/-- A file that is in the map has turned. -/
theorem GoodV.put (h : GoodV v os N) {k : Nat} {f g : FS} (hk : os[k]? = some (some f)) (hg : g.Good ((N + 1) * 10)) : GoodV (v.put k g) (os.set k (some g)) (N + 1) := by
  have hkl := (List.getElem?_eq_some_iff.1 hk).1
  have hl := h.len
  have mono : ∀ (j : Nat) (f : FS), os[j]? = some (some f) → ∃ g2, (os.set k (some g))[j]? = some (some g2) := fun j f hj => by
    by_cases e : k = j
    · subst e; exact ⟨g, by rw [List.getElem?_set_self hkl]⟩
    · exact ⟨f, by rw [List.getElem?_set_ne e]; exact hj⟩
  have hp : (v.put k g).fs = v.fs.set k g := by unfold VS.put; simp
  refine ⟨h.d.more (Nat.le_succ _), h.fresh, by rw [hp]; simp [hl], by rw [hp]; simp; have := h.few; omega, ?_, ?_, ?_, h.safe.mono fun i hi => liveB_mono hi mono, fun o ho hk => liveB_mono (h.ops o ho hk) mono, h.r0, h.r1, h.f0, h.f1⟩
  · rw [hp]
    intro z hz
    rcases List.mem_or_eq_of_mem_set hz with hz | rfl
    · exact (h.fs z hz).more (by omega)
    · exact hg
  · rw [hp]
    intro i z hi
    by_cases e : k = i
    · subst e
      rw [List.getElem?_set_self hkl] at hi
      injection hi with hi; injection hi with hi; subst hi
      exact List.getElem?_set_self (by omega)
    · rw [List.getElem?_set_ne e] at hi ⊢
      exact h.live i z hi
  · rw [hp]
    intro i z hi hif
    by_cases e : k = i
    · subst e
      rw [List.getElem?_set_self hkl] at hi
      injection hi with hi; cases hi
    · rw [List.getElem?_set_ne e] at hi hif
      exact h.gone i z hi hif
theorem namedB_of {l : NmL} {p : ByteArray × Int} {k : Nat} (hp : p ∈ l) (e : p.2 = k) : namedB l k = true := by
  unfold namedB
  rw [List.any_eq_true]
  exact ⟨p, hp, by simp [e]⟩
theorem keep_named {l : NmL} {os : OsL} {p : ByteArray × Int} (hp : p ∈ l) (h : liveB os p.2) : liveB (dropO l 0 os) p.2 := by
  obtain ⟨k, f, e, hf⟩ := liveB_some h
  refine ⟨h.1, f, ?_⟩
  rw [e, Int.toNat_natCast, dropO_get, hf]
  simp only [Option.map_some, keepO, Nat.zero_add]
  rw [namedB_of hp e]; rfl
theorem GoodV.syncDir (h : GoodV v os N) : GoodV v.syncDir (dropO v.d.now 0 os) N := by
  have hl := h.len
  have un : ∀ (i : Nat) (o : Option FS), (dropO v.d.now 0 os)[i]? = some o → ∃ o0, os[i]? = some o0 ∧ keepO v.d.now i o0 = o := fun i o hi => by
    rw [dropO_get, Nat.zero_add] at hi
    cases hc : os[i]? with
    | none => rw [hc] at hi; cases hi
    | some o0 => rw [hc] at hi; injection hi with hi; exact ⟨o0, rfl, hi⟩
  refine ⟨h.d.sync, ⟨h.uq, fun o ho => (List.not_mem_nil ho).elim, List.Pairwise.nil⟩, by rw [dropO_length]; exact hl, h.few, h.fs, ?_, ?_, ?_, fun o ho => (List.not_mem_nil ho).elim, h.r0, h.r1, h.f0, h.f1⟩
  · intro i f hi
    obtain ⟨o0, h0, hk⟩ := un i _ hi
    obtain ⟨rfl, -⟩ := keepO_some hk
    exact h.live i f h0
  · intro i f hi hif
    obtain ⟨o0, h0, hk⟩ := un i _ hi
    cases o0 with
    | none => exact h.gone i f h0 hif
    | some g =>
      have hg := h.live i g h0
      have hif2 : v.fs[i]? = some f := hif
      rw [hg] at hif2
      injection hif2 with e
      subst e
      exact (keepO_none hk).2
  · intro p hp
    exact keep_named hp (h.now p hp)
theorem crashO_some {ks : List Bool} {os : OsL} {at_ i : Nat} {f : FS} (h : (crashO ks at_ os)[i]? = some (some f)) : ∃ g, os[i]? = some (some g) ∧ f = g.crash (ks.drop (at_ + looseO (os.take i))) := by
  rw [crashO_get] at h
  cases hc : os[i]? with
  | none => rw [hc] at h; cases h
  | some o =>
    cases o with
    | none => rw [hc] at h; simp at h
    | some g => rw [hc] at h; simp at h; exact ⟨g, rfl, h.symm⟩
/-- As many are pending of those in the map as of all. -/
theorem loose_take (h : GoodV v os N) : ∀ i, i ≤ os.length → looseO (os.take i) = looseF (v.fs.take i)
  | 0, _ => by simp [looseO, looseF, sumN]
  | i + 1, hi => by
    have hl := h.len
    have ih := loose_take h i (by omega)
    have hiv : i < v.fs.length := by omega
    rw [looseF_next hiv, ← ih]
    unfold looseO
    rw [List.length_take, List.length_take, Nat.min_eq_left hi, Nat.min_eq_left (by omega)]
    show sumN _ i + _ = _
    have e1 : sumN (fun j => pendO ((os.take (i + 1)).getD j none)) i = sumN (fun j => pendO ((os.take i).getD j none)) i := sumN_congr fun j hj => by
      rw [List.getD_eq_getElem?_getD, List.getD_eq_getElem?_getD, List.getElem?_take_of_lt (by omega), List.getElem?_take_of_lt hj]
    rw [e1]
    congr 1
    show pendO ((os.take (i + 1)).getD i none) = _
    rw [List.getD_eq_getElem?_getD, List.getElem?_take_of_lt (by omega)]
    have hoi := List.getElem?_eq_getElem (show i < os.length by omega)
    have hfi := List.getElem?_eq_getElem hiv
    cases ho : os[i]'(by omega) with
    | none =>
      rw [ho] at hoi
      rw [hoi, h.gone i _ hoi hfi]; rfl
    | some f =>
      rw [ho] at hoi
      have := h.live i f hoi
      rw [hfi] at this
      injection this with this
      rw [hoi, this]; rfl
theorem GoodV.loose (h : GoodV v os N) : looseO os = looseF v.fs := by
  have := loose_take h os.length (Nat.le_refl _)
  rw [List.take_length] at this
  rw [this, h.len, List.take_length]
theorem GoodV.crash (h : GoodV v os N) (ks : List Bool) : GoodV (v.crash ks) (dropO (v.d.crash cfT ks).now 0 (crashO ks v.d.ops.length os)) N := by
  have hl := h.len
  have hlive : IdsP (liveB os) (v.d.crash cfT ks).now := IdsP.crash h.safe h.ops
  have huq : Uniq (v.d.crash cfT ks).now := Uniq.crash h.fresh.uq h.fresh.apart h.fresh.ops
  have hcl : (v.crash ks).fs.length = v.fs.length := crashF_length _ _ _ _ _
  have un : ∀ (i : Nat) (o : Option FS), (dropO (v.d.crash cfT ks).now 0 (crashO ks v.d.ops.length os))[i]? = some o → ∃ o0, (crashO ks v.d.ops.length os)[i]? = some o0 ∧ keepO (v.d.crash cfT ks).now i o0 = o := fun i o hi => by
    rw [dropO_get, Nat.zero_add] at hi
    cases hc : (crashO ks v.d.ops.length os)[i]? with
    | none => rw [hc] at hi; cases hi
    | some o0 => rw [hc] at hi; injection hi with hi; exact ⟨o0, rfl, hi⟩
  have cget : ∀ (i : Nat) (f : FS), v.fs[i]? = some f → (v.crash ks).fs[i]? = some (if namedB (v.d.crash cfT ks).now i then f.crash (ks.drop (v.d.ops.length + looseF (v.fs.take i))) else FS.new) := fun i f hf => by
    have := crashF_get (v.d.crash cfT ks).now ks v.fs 0 v.d.ops.length i f hf
    rw [Nat.zero_add] at this
    exact this
  refine ⟨h.d.crash ks, ⟨huq, fun o ho => (List.not_mem_nil ho).elim, List.Pairwise.nil⟩, by rw [dropO_length, crashO_length, hcl]; exact hl, by rw [hcl]; exact h.few, ?_, ?_, ?_, ?_, fun o ho => (List.not_mem_nil ho).elim, h.r0, h.r1, Int.le_refl _, by show (0 : Int) ≤ _; omega⟩
  · intro f hf
    obtain ⟨i, hi, e⟩ := List.mem_iff_getElem.1 hf
    have hi2 : i < v.fs.length := by rw [← hcl]; exact hi
    have hc := cget i _ (List.getElem?_eq_getElem hi2)
    rw [List.getElem?_eq_getElem hi, e] at hc
    injection hc with hc
    rw [hc]
    split
    · exact ((h.fs _ (List.getElem_mem hi2)).crash _).more (by omega)
    · exact FS.new_good.more (by omega)
  · intro i f hi
    obtain ⟨o0, h0, hk⟩ := un i _ hi
    obtain ⟨rfl, hn⟩ := keepO_some hk
    obtain ⟨g0, hg0, rfl⟩ := crashO_some h0
    have hgf := h.live i g0 hg0
    have hil := (List.getElem?_eq_some_iff.1 hg0).1
    have hnm : namedB (v.d.crash cfT ks).now i = true := by
      rcases hn with hn | hn
      · exact hn
      · exact absurd hn (by show ¬ 0 < 0; omega)
    rw [cget i g0 hgf, hnm, if_pos rfl, loose_take h i (by omega)]
  · intro i f hi hif
    obtain ⟨o0, h0, hk⟩ := un i _ hi
    have hi2 : i < v.fs.length := by rw [← hcl]; exact (List.getElem?_eq_some_iff.1 hif).1
    rw [cget i _ (List.getElem?_eq_getElem hi2)] at hif
    injection hif with hif
    rw [← hif]
    split
    · rfl
    · rfl
  · intro p hp
    have h1 := hlive p hp
    refine keep_named hp ?_
    refine liveB_mono h1 fun k f hf => ?_
    exact ⟨_, by rw [crashO_get, hf]; rfl⟩
end

end Go.Proofs.YtclglbddibjenaaGreat
