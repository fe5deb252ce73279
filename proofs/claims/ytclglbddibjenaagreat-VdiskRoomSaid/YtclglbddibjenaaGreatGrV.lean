/-
  MERGED BY PROGRAM out of the texts VdMath.
-/
import Derived.Test.YtclglbddibjenaaGreatGrD
import Derived.Test.YtclglbddibjenaaGreatGrF

/-
  PLAIN MATHEMATICS FOR LAYER 8: a disk as its directory, its files by their numbers, its room, and what lets it stop; what each call answers and does; what holds behind any acts.
-/
set_option linter.unusedVariables false
namespace Go.Proofs.YtclglbddibjenaaGreat

/-! ### the numbers of files -/
section
variable {P : Int → Prop}
def IdsP (P : Int → Prop) (l : NmL) : Prop := ∀ p ∈ l, P p.2
theorem IdsP.wo {l : NmL} (h : IdsP P l) (x : ByteArray) : IdsP P (woN l x) := fun p hp => h p (wo_mem l x p hp)
theorem IdsP.with {l : NmL} (h : IdsP P l) (x : ByteArray) {i : Int} (hi : P i) : IdsP P (withN cfT l x i) := fun p hp => by
  rcases ins_mem _ _ _ _ hp with rfl | hp
  · exact hi
  · exact h.wo x p hp
theorem IdsP.get {l : NmL} (h : IdsP P l) {x : ByteArray} {i : Int} (hg : getN l x = some i) : P i := by
  induction l with
  | nil => cases hg
  | cons p r ih =>
    rw [getN_cons] at hg
    split at hg
    · injection hg with hg
      subst hg
      exact h p (List.mem_cons_self ..)
    · exact ih (fun q hq => h q (List.mem_cons_of_mem _ hq)) hg
theorem IdsP.did {l : NmL} (h : IdsP P l) {o : OpB} (ho : o.kind = 0 → P o.id) : IdsP P (didN cfT l o) := by
  unfold didN
  split
  · next hk => exact h.with _ (ho hk)
  · split
    · exact h
    · next i hi =>
      split
      · exact (h.wo _).with _ (h.get hi)
      · exact h.wo _
theorem IdsP.crash : ∀ {ops : List OpB} {l : NmL} {ks : List Bool}, IdsP P l → (∀ o ∈ ops, o.kind = 0 → P o.id) → IdsP P (crashN cfT l ops ks)
  | [], l, ks, h, _ => by cases ks <;> exact h
  | o :: r, l, [], h, _ => h
  | o :: r, l, k :: ks, h, ho => by
    show IdsP P (crashN cfT (if k then didN cfT l o else l) r ks)
    refine IdsP.crash ?_ (fun q hq => ho q (List.mem_cons_of_mem _ hq))
    split
    · exact h.did (ho o (List.mem_cons_self ..))
    · exact h
theorem IdsP.mono {Q : Int → Prop} {l : NmL} (h : IdsP P l) (hq : ∀ i, P i → Q i) : IdsP Q l := fun p hp => hq _ (h p hp)
end

/-! ### how much room is used -/
def fileAt (fs : List FS) (i : Int) : FS := fs.getD i.toNat FS.new
def usedL (fs : List FS) : NmL → Nat
  | [] => 0
  | p :: r => cntN (fileAt fs p.2).now.length + usedL fs r
theorem usedL_append (fs : List FS) (a b : NmL) : usedL fs (a ++ b) = usedL fs a + usedL fs b := by
  induction a with
  | nil => simp [usedL]
  | cons p r ih => simp only [List.cons_append, usedL, ih]; omega
theorem usedL_next (fs : List FS) {l : NmL} {k : Nat} (h : k < l.length) : usedL fs (l.take (k + 1)) = usedL fs (l.take k) + cntN (fileAt fs l[k].2).now.length := by
  rw [List.take_succ_eq_append_getElem h, usedL_append]; simp [usedL]
theorem usedL_wo (fs : List FS) : ∀ (l : NmL) (x : ByteArray), usedL fs (woN l x) ≤ usedL fs l
  | [], x => Nat.le_refl _
  | p :: r, x => by
    have := usedL_wo fs r x
    unfold woN
    split
    · simp only [usedL]; omega
    · simp only [usedL]; omega
theorem usedL_ins (fs : List FS) : ∀ (l : NmL) (x : ByteArray) (i : Int), usedL fs (insN cfT l x i) = usedL fs l + cntN (fileAt fs i).now.length
  | [], x, i => by simp [insN, usedL]
  | p :: r, x, i => by
    have := usedL_ins fs r x i
    unfold insN
    split
    · simp only [usedL]; omega
    · simp only [usedL]; omega
theorem usedL_le (fs : List FS) (l : NmL) (h : ∀ f ∈ fs, f.now.length ≤ 1048576) : usedL fs l ≤ l.length * 16384 := by
  induction l with
  | nil => simp [usedL]
  | cons p r ih =>
    simp only [usedL, List.length_cons]
    have h1 : cntN (fileAt fs p.2).now.length ≤ 16384 := by
      have h2 : (fileAt fs p.2).now.length ≤ 1048576 := by
        unfold fileAt
        rw [List.getD_eq_getElem?_getD]
        cases hc : fs[p.2.toNat]? with
        | none => exact Nat.zero_le _
        | some f => exact h f (List.mem_of_getElem? hc)
      unfold cntN; omega
    omega
theorem fileAt_append {fs : List FS} {g : FS} {i : Int} (h0 : 0 ≤ i) (h : i < fs.length) : fileAt (fs ++ [g]) i = fileAt fs i := by
  unfold fileAt
  rw [List.getD_eq_getElem?_getD, List.getD_eq_getElem?_getD, List.getElem?_append_left (by omega)]
theorem fileAt_last (fs : List FS) (g : FS) : fileAt (fs ++ [g]) fs.length = g := by
  unfold fileAt
  rw [Int.toNat_natCast, List.getD_eq_getElem?_getD, List.getElem?_append_right (Nat.le_refl _)]; simp
theorem fileAt_set {fs : List FS} {i j : Int} {g : FS} (h0 : 0 ≤ i) (h : i < fs.length) (hj : 0 ≤ j) : fileAt (fs.set i.toNat g) j = if j = i then g else fileAt fs j := by
  unfold fileAt
  rw [List.getD_eq_getElem?_getD, List.getD_eq_getElem?_getD, List.getElem?_set]
  by_cases e : j = i
  · subst e; rw [if_pos rfl, if_pos rfl, if_pos (by omega)]; rfl
  · rw [if_neg (by omega), if_neg e]
def InR (n : Nat) (i : Int) : Prop := 0 ≤ i ∧ i < n
theorem usedL_more {fs : List FS} {g : FS} : ∀ {l : NmL}, IdsP (InR fs.length) l → usedL (fs ++ [g]) l = usedL fs l
  | [], _ => rfl
  | p :: r, h => by
    have hp := h p (List.mem_cons_self ..)
    simp only [usedL]
    rw [fileAt_append hp.1 hp.2, usedL_more (fun q hq => h q (List.mem_cons_of_mem _ hq))]
/-- Of a file that no name of a list has. -/
theorem usedL_set_no {fs : List FS} {i : Int} {g : FS} (h0 : 0 ≤ i) (h : i < fs.length) : ∀ {l : NmL}, IdsP (InR fs.length) l → (∀ p ∈ l, p.2 ≠ i) → usedL (fs.set i.toNat g) l = usedL fs l
  | [], _, _ => rfl
  | p :: r, hp, hn => by
    have h1 := hp p (List.mem_cons_self ..)
    simp only [usedL]
    rw [fileAt_set h0 h h1.1, if_neg (hn p (List.mem_cons_self ..)), usedL_set_no h0 h (fun q hq => hp q (List.mem_cons_of_mem _ hq)) (fun q hq => hn q (List.mem_cons_of_mem _ hq))]
/-- No two names of one file. -/
def Uniq (l : NmL) : Prop := l.Pairwise fun p q => p.2 ≠ q.2
theorem Uniq.wo : ∀ {l : NmL}, Uniq l → ∀ x, Uniq (woN l x)
  | [], _, _ => List.Pairwise.nil
  | p :: r, h, x => by
    obtain ⟨h1, h2⟩ := List.pairwise_cons.1 h
    have ih := Uniq.wo (l := r) h2 x
    unfold woN
    split
    · exact ih
    · exact List.pairwise_cons.2 ⟨fun q hq => h1 q (wo_mem r x q hq), ih⟩
theorem Uniq.ins : ∀ {l : NmL}, Uniq l → ∀ (x : ByteArray) {i : Int}, (∀ p ∈ l, p.2 ≠ i) → Uniq (insN cfT l x i)
  | [], _, x, i, _ => List.pairwise_singleton _ _
  | p :: r, h, x, i, hn => by
    obtain ⟨h1, h2⟩ := List.pairwise_cons.1 h
    unfold insN
    split
    · exact List.pairwise_cons.2 ⟨fun q hq => (fun e => hn q hq e.symm), h⟩
    · refine List.pairwise_cons.2 ⟨fun q hq => ?_, Uniq.ins h2 x (fun q hq => hn q (List.mem_cons_of_mem _ hq))⟩
      rcases ins_mem _ _ _ _ hq with rfl | hq
      · exact hn p (List.mem_cons_self ..)
      · exact h1 q hq
/-- One file has turned, and one name has it. -/
theorem usedL_set {fs : List FS} {i : Int} {g : FS} (h0 : 0 ≤ i) (h : i < fs.length) : ∀ {l : NmL} {x : ByteArray}, IdsP (InR fs.length) l → Uniq l → getN l x = some i → usedL (fs.set i.toNat g) l + cntN (fileAt fs i).now.length = usedL fs l + cntN g.now.length
  | [], x, _, _, hg => by cases hg
  | p :: r, x, hp, hu, hg => by
    obtain ⟨u1, u2⟩ := List.pairwise_cons.1 hu
    have h1 := hp p (List.mem_cons_self ..)
    have hr : IdsP (InR fs.length) r := fun q hq => hp q (List.mem_cons_of_mem _ hq)
    rw [getN_cons] at hg
    simp only [usedL]
    split at hg
    · injection hg with hg
      subst hg
      rw [fileAt_set h0 h h0, if_pos rfl, usedL_set_no h0 h hr (fun q hq e => u1 q hq e.symm)]
      omega
    · have ih := usedL_set (g := g) h0 h hr u2 hg
      have hne : p.2 ≠ i := fun e => by
        have hm : ∃ q ∈ r, q.2 = i := by
          clear ih u1 u2 hr h1 hu hp
          induction r with
          | nil => cases hg
          | cons q r ih2 =>
            rw [getN_cons] at hg
            split at hg
            · injection hg with hg; exact ⟨q, List.mem_cons_self .., hg⟩
            · obtain ⟨z, hz, e2⟩ := ih2 hg; exact ⟨z, List.mem_cons_of_mem _ hz, e2⟩
        obtain ⟨q, hq, e2⟩ := hm
        exact u1 q hq (e.trans e2.symm)
      rw [fileAt_set h0 h h1.1, if_neg hne]
      omega

/-! ### a disk -/
structure VS where
  d : DB
  fs : List FS
  room : Int
  fuse : Int
  armed : Bool
  dead : Bool
def VS.new (room : Int) : VS := ⟨newD, [], if room < 0 then 0 else room, 0, false, false⟩
def VS.used (v : VS) : Nat := usedL v.fs v.d.now
def looseF (fs : List FS) : Nat := fs.foldl (fun n f => n + f.ops.length) 0
def VS.loose (v : VS) : Nat := v.d.ops.length + looseF v.fs
def VS.arm (v : VS) (n : Int) : VS := { v with fuse := if n < 0 then 0 else n, armed := true }
/-- Has it stopped, or does it at this change? -/
def VS.stops (v : VS) : Bool := v.dead || (v.armed && decide (v.fuse = 0))
/-- A change is counted. -/
def VS.tick (v : VS) : VS := if v.stops then { v with dead := true } else if v.armed then { v with fuse := v.fuse - 1 } else v
/-- An op on the names. -/
def VS.name (v : VS) (o : OpB) : VS := { v with d := doS v.d o }
def createO (v : VS) (x : ByteArray) : OpB := ⟨0, x, ⟨#[]⟩, v.fs.length⟩
def VS.create (v : VS) (x : ByteArray) : VS := if doE v.d.now (createO v x) = 0 then { v with d := doS v.d (createO v x), fs := v.fs ++ [FS.new] } else v
/-- Would a file of that size, in the place of another one, have room? -/
def VS.fits (v : VS) (f : FS) (size : Nat) : Bool := decide (cntN size ≤ cntN f.now.length) || decide ((v.used : Int) - cntN f.now.length + cntN size ≤ v.room)
def VS.put (v : VS) (i : Int) (f : FS) : VS := { v with fs := v.fs.set i.toNat f }
def VS.writeE (v : VS) (x : ByteArray) (a : Int) (bs : List Int) : Int :=
  match getN v.d.now x with
  | none => 6
  | some i => if a < 0 ∨ 1048576 < a + bs.length then 1 else if 0 < bs.length ∧ v.fits (fileAt v.fs i) (max (fileAt v.fs i).now.length (a.toNat + bs.length)) = false then 20 else 0
def VS.write (v : VS) (x : ByteArray) (a : Int) (bs : List Int) : VS :=
  if v.writeE x a bs = 0 then match getN v.d.now x with
    | none => v
    | some i => v.put i ((fileAt v.fs i).writeI a bs)
  else v
def VS.truncE (v : VS) (x : ByteArray) (n : Int) : Int :=
  match getN v.d.now x with
  | none => 6
  | some i => if n < 0 ∨ 1048576 < n then 1 else if v.fits (fileAt v.fs i) n.toNat = false then 20 else 0
def VS.trunc (v : VS) (x : ByteArray) (n : Int) : VS :=
  if v.truncE x n = 0 then match getN v.d.now x with
    | none => v
    | some i => v.put i ((fileAt v.fs i).truncI n)
  else v
def VS.syncE (v : VS) (x : ByteArray) : Int := if hasB v.d.now x then 0 else 6
def VS.sync (v : VS) (x : ByteArray) : VS := match getN v.d.now x with
  | none => v
  | some i => v.put i (fileAt v.fs i).sync
def VS.syncDir (v : VS) : VS := { v with d := v.d.sync }
def namedB (l : NmL) (i : Nat) : Bool := l.any fun p => p.2 == (i : Int)
/-- The files, one by one: the i-th by what of keep begins at its place. -/
def crashF (l : NmL) (ks : List Bool) : Nat → Nat → List FS → List FS
  | _, _, [] => []
  | i, at_, f :: r => (if namedB l i then f.crash (ks.drop at_) else FS.new) :: crashF l ks (i + 1) (at_ + f.ops.length) r
def VS.crash (v : VS) (ks : List Bool) : VS := ⟨v.d.crash cfT ks, crashF (v.d.crash cfT ks).now ks 0 v.d.ops.length v.fs, v.room, 0, false, false⟩

theorem crashF_length (l : NmL) (ks : List Bool) : ∀ (fs : List FS) (i at_ : Nat), (crashF l ks i at_ fs).length = fs.length
  | [], _, _ => rfl
  | f :: r, i, at_ => by simp only [crashF, List.length_cons]; rw [crashF_length l ks r]
theorem looseF_snoc (fs : List FS) (f : FS) : looseF (fs ++ [f]) = looseF fs + f.ops.length := by unfold looseF; rw [List.foldl_append]; rfl
theorem looseF_next {fs : List FS} {k : Nat} (h : k < fs.length) : looseF (fs.take (k + 1)) = looseF (fs.take k) + fs[k].ops.length := by rw [List.take_succ_eq_append_getElem h, looseF_snoc]
theorem crashF_get (l : NmL) (ks : List Bool) : ∀ (fs : List FS) (i at_ k : Nat) (f : FS), fs[k]? = some f → (crashF l ks i at_ fs)[k]? = some (if namedB l (i + k) then f.crash (ks.drop (at_ + looseF (fs.take k))) else FS.new)
  | [], i, at_, k, f, h => by simp at h
  | g :: r, i, at_, 0, f, h => by
    simp at h; subst h
    simp [crashF, looseF]
  | g :: r, i, at_, k + 1, f, h => by
    have hr : r[k]? = some f := by simpa using h
    have ih := crashF_get l ks r (i + 1) (at_ + g.ops.length) k f hr
    have hl : looseF ((g :: r).take (k + 1)) = g.ops.length + looseF (r.take k) := by
      rw [List.take_succ_cons]
      have run : ∀ (m : List FS) (n : Nat), m.foldl (fun n f => n + f.ops.length) n = n + looseF m := by
        intro m
        induction m with
        | nil => intro n; simp [looseF]
        | cons z m ih => intro n; unfold looseF; rw [List.foldl_cons, List.foldl_cons, ih, ih (0 + z.ops.length)]; omega
      unfold looseF
      rw [List.foldl_cons, run]
      unfold looseF; omega
    simp only [crashF, List.getElem?_cons_succ]
    rw [ih, hl, show i + 1 + k = i + (k + 1) by omega, Nat.add_assoc]
theorem named_of_get {l : NmL} {x : ByteArray} {i : Nat} (h : getN l x = some (i : Int)) : namedB l i = true := by
  induction l with
  | nil => cases h
  | cons p r ih =>
    rw [getN_cons] at h
    unfold namedB
    rw [List.any_cons]
    split at h
    · injection h with h; rw [h]; simp
    · have := ih h
      unfold namedB at this
      rw [this]; simp
/-- What was synced is left by every crash. -/
theorem crash_synced {v : VS} {ks : List Bool} {x : ByteArray} {i : Nat} {f : FS} (hx : getN v.d.now x = some (i : Int)) (hf : v.fs[i]? = some f.sync) : fileAt (v.syncDir.crash ks).fs i = (f.sync).crash (ks.drop (looseF (v.fs.take i))) ∧ (fileAt (v.syncDir.crash ks).fs i).now = f.now := by
  have hd : (v.syncDir.d.crash cfT ks).now = v.d.now := by
    show (v.d.sync.crash cfT ks).now = _
    rw [crash_sync]
  have h := crashF_get v.d.now ks v.fs 0 0 i f.sync hf
  rw [Nat.zero_add, Nat.zero_add, named_of_get hx, if_pos rfl] at h
  have he : fileAt (v.syncDir.crash ks).fs i = (f.sync).crash (ks.drop (looseF (v.fs.take i))) := by
    unfold fileAt
    show (crashF (v.syncDir.d.crash cfT ks).now ks 0 0 v.fs).getD _ _ = _
    rw [hd, List.getD_eq_getElem?_getD, Int.toNat_natCast, h]; rfl
  exact ⟨he, by rw [he]; rfl⟩

end Go.Proofs.YtclglbddibjenaaGreat
