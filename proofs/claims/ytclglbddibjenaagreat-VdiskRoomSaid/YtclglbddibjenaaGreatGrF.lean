/-
  MERGED BY PROGRAM out of the texts FileMath FileMath2 FileMem FileRMem FileFn FileFn2 FileFn3 FileFn4 FileFn5 FileFn6 FileFn7 FileFn8 FileFn9 FileFnX.
-/
import Derived.Test.YtclglbddibjenaaGreatGrS
import Derived.Test.YtclglbddibjenaaGreatChecked
import Derived.Test.YtclglbddibjenaaGreatGrA
import Derived.Test.YtclglbddibjenaaGreatGrB
import Derived.WalkKit
import Derived.WalkSpells
import Derived.Lib.Hide
import Derived.Deep.RegionHeld3
import Derived.StillTailTactics

/-
  PLAIN MATHEMATICS FOR LAYER 6, of no program: a file as what it is now, what of it is safe, and what was done since; what each call does to it, and what a crash leaves.
-/
set_option linter.unusedVariables false
set_option maxRecDepth 100000
namespace Go.Proofs.YtclglbddibjenaaGreat
open Go.RowKit

/-- What was done and isn't safe: a size, or a sector's bytes. -/
structure OpV where
  sz : Bool
  n : Nat
  data : List Int

structure FS where
  now : List Int
  safe : List Int
  ops : List OpV

/-- What is done by one of them. -/
def opDo (z : List Int) (o : OpV) : List Int := if o.sz then sizeL z o.n else setL z o.n o.data
/-- What a crash leaves: of those that have a true at their place. -/
def crashL : List Int → List OpV → List Bool → List Int
  | z, [], _ => z
  | z, _ :: _, [] => z
  | z, o :: r, k :: ks => crashL (if k then opDo z o else z) r ks
/-- The bit at a place: false behind the end. -/
def keepAt (ks : List Bool) (i : Nat) : Bool := ks.getD i false
theorem crashL_nil (z : List Int) (ops : List OpV) : crashL z ops [] = z := by cases ops <;> rfl
theorem keepAt_out {ks : List Bool} {i : Nat} (h : ks.length ≤ i) : keepAt ks i = false := by
  unfold keepAt; rw [List.getD_eq_getElem?_getD, List.getElem?_eq_none h]; rfl

/-- One more of what was done. -/
theorem crashL_snoc (ops : List OpV) (o : OpV) : ∀ (z : List Int) (ks : List Bool), crashL z (ops ++ [o]) ks = if keepAt ks ops.length then opDo (crashL z ops ks) o else crashL z ops ks := by
  induction ops with
  | nil =>
    intro z ks
    cases ks with
    | nil => rfl
    | cons k r => cases k <;> simp [crashL, keepAt]
  | cons p r ih =>
    intro z ks
    cases ks with
    | nil => simp [crashL, keepAt]
    | cons k s =>
      simp only [List.cons_append, crashL, List.length_cons]
      rw [ih]
      have : keepAt (k :: s) (r.length + 1) = keepAt s r.length := by unfold keepAt; simp
      simp only [this]
/-- By the first i of them. -/
theorem crashL_next {ops : List OpV} {i : Nat} (h : i < ops.length) (z : List Int) (ks : List Bool) : crashL z (ops.take (i + 1)) ks = if keepAt ks i then opDo (crashL z (ops.take i) ks) ops[i] else crashL z (ops.take i) ks := by
  rw [List.take_succ_eq_append_getElem h, crashL_snoc, List.length_take, Nat.min_eq_left (by omega)]

/-- All of them. -/
def allL (z : List Int) (ops : List OpV) : List Int := ops.foldl opDo z
theorem allL_append (z : List Int) (a b : List OpV) : allL z (a ++ b) = allL (allL z a) b := by unfold allL; rw [List.foldl_append]
theorem crashL_all (ops : List OpV) : ∀ (z : List Int) (ks : List Bool), (∀ i, i < ops.length → keepAt ks i = true) → crashL z ops ks = allL z ops := by
  induction ops with
  | nil => intro z ks _; rfl
  | cons o r ih =>
    intro z ks h
    cases ks with
    | nil => have := h 0 (by simp); simp [keepAt] at this
    | cons k s =>
      have h0 : k = true := by have := h 0 (by simp); simpa [keepAt] using this
      subst h0
      have := ih (opDo z o) s (fun i hi => by have := h (i + 1) (by simpa using hi); simpa [keepAt] using this)
      show crashL (opDo z o) r s = _
      rw [this]; rfl

/-! ### Write -/
def growL (z : List Int) (m : Nat) : List Int := if z.length < m then sizeL z m else z
def growO (z : List Int) (m : Nat) : List OpV := if z.length < m then [⟨true, m, []⟩] else []
theorem growL_length (z : List Int) (m : Nat) : (growL z m).length = max z.length m := by
  unfold growL; split
  · rw [sizeL_length]; omega
  · omega
theorem growL_bytes {z : List Int} (h : AreB z) (m : Nat) : AreB (growL z m) := by
  unfold growL; split
  · exact sizeL_bytes h _
  · exact h
theorem growL_sizeL (z : List Int) (m : Nat) : growL z m = sizeL z (max z.length m) := by
  unfold growL; split
  · rw [Nat.max_eq_right (by omega)]
  · rw [Nat.max_eq_left (by omega), sizeL_self]
theorem allL_grow (z : List Int) (m : Nat) : allL z (growO z m) = growL z m := by
  unfold growO growL; split <;> rfl

/-- What is written into each sector: its bytes as they are behind it all. -/
def wrO (a : Nat) (xs : List Int) (z : List Int) : List OpV := (List.range (pcN (a % 64) xs.length)).map fun i => ⟨false, a / 64 + i, secL z ((a / 64 + i : Nat) : Int)⟩
theorem wrO_length (a : Nat) (xs z : List Int) : (wrO a xs z).length = pcN (a % 64) xs.length := by unfold wrO; simp

theorem nz_wrL {z xs : List Int} {a : Nat} (h : a + xs.length ≤ z.length) (n j : Nat) : nz (wrL z a (xs.take n)) j = if a ≤ j ∧ j < a + min n xs.length then nz xs (j - a) else nz z j := by
  unfold wrL
  rw [nz_splice _ _ _ _ (by omega), List.length_take, nz_take]
  by_cases hc : a ≤ j ∧ j < a + min n xs.length
  · rw [if_pos hc, if_pos (by omega), if_pos hc]
  · rw [if_neg hc, if_neg hc]
theorem wrL_take_length {z xs : List Int} {a : Nat} (h : a + xs.length ≤ z.length) (n : Nat) : (wrL z a (xs.take n)).length = z.length := wrL_length (by rw [List.length_take]; omega)

/-- A piece's sector is told alike behind that piece and behind all. -/
theorem secL_later {z xs : List Int} {a i : Nat} (h : a + xs.length ≤ z.length) (hi : i < pcN (a % 64) xs.length) :
    secL (wrL z a (xs.take (64 * (i + 1) - a % 64))) ((a / 64 + i : Nat) : Int) = secL (wrL z a xs) ((a / 64 + i : Nat) : Int) := by
  have hi' := (pcN_lt (Nat.mod_lt a (by omega))).1 hi
  have hf := Nat.mod_lt a (show 0 < 64 by omega)
  have hd := Nat.div_add_mod a 64
  have hx : wrL z a xs = wrL z a (xs.take xs.length) := by rw [List.take_length]
  refine ext_nz (by rw [secL_length, secL_length]) fun j hj => ?_
  rw [secL_length] at hj
  have hh : ∀ y : List Int, y.length = z.length → hasL y ((a / 64 + i : Nat) : Int) = true := fun y hy => by
    unfold hasL cntN; rw [hy]; simp; omega
  rw [nz_secL hj, nz_secL hj, if_pos (hh _ (wrL_take_length h _)), hx, if_pos (hh _ (wrL_take_length h _)), nz_wrL h, nz_wrL h, Int.toNat_natCast]
  by_cases h1 : a ≤ 64 * (a / 64 + i) + j ∧ 64 * (a / 64 + i) + j < a + min (64 * (i + 1) - a % 64) xs.length
  · rw [if_pos h1, if_pos (by omega)]
  · rw [if_neg h1, if_neg (by omega)]
/-- .. and is what the piece laid over the elder sector gives. -/
theorem layL_sec {z xs : List Int} {a i : Nat} (h : a + xs.length ≤ z.length) (hi : i < pcN (a % 64) xs.length) :
    layL (secL (wrL z a (xs.take (64 * i - a % 64))) ((a / 64 + i : Nat) : Int)) ((a % 64 - 64 * i : Nat) : Int) (pcD (a % 64) xs i) = secL (wrL z a (xs.take (64 * (i + 1) - a % 64))) ((a / 64 + i : Nat) : Int) := by
  have hi' := (pcN_lt (Nat.mod_lt a (by omega))).1 hi
  have hf := Nat.mod_lt a (show 0 < 64 by omega)
  have hd := Nat.div_add_mod a 64
  refine ext_nz (by rw [layL_length, secL_length]) fun j hj => ?_
  rw [layL_length] at hj
  have hh : ∀ y : List Int, y.length = z.length → hasL y ((a / 64 + i : Nat) : Int) = true := fun y hy => by
    unfold hasL cntN; rw [hy]; simp; omega
  rw [nz_layL _ _ _ hj, nz_secL hj, nz_secL hj, if_pos (hh _ (wrL_take_length h _)), if_pos (hh _ (wrL_take_length h _)), nz_wrL h, nz_wrL h, pcD_length]
  simp only [Int.toNat_natCast]
  by_cases h2 : a % 64 - 64 * i ≤ j ∧ j < a % 64 - 64 * i + (min (64 * (i + 1) - a % 64) xs.length - (64 * i - a % 64))
  · rw [if_pos ⟨by omega, by omega, h2⟩, if_pos (by omega), nz_pcD _ _ _ _ (by rw [pcD_length]; omega)]
    congr 1
    omega
  · rw [if_neg (fun hx => h2 hx.2.2)]
    by_cases h3 : a ≤ 64 * (a / 64 + i) + j ∧ 64 * (a / 64 + i) + j < a + min (64 * i - a % 64) xs.length
    · rw [if_pos h3, if_pos (by omega)]
    · rw [if_neg h3, if_neg (by omega)]

/-- The sectors, each set behind the other: all that was written. -/
theorem allL_wr {z xs : List Int} {a : Nat} (h : a + xs.length ≤ z.length) (hx : xs ≠ []) : allL z (wrO a xs (wrL z a xs)) = wrL z a xs := by
  have hf := Nat.mod_lt a (show 0 < 64 by omega)
  have hlen : 0 < xs.length := List.length_pos_iff.2 hx
  have part : ∀ i, i ≤ pcN (a % 64) xs.length → allL z ((wrO a xs (wrL z a xs)).take i) = wrL z a (xs.take (64 * i - a % 64)) := by
    intro i
    induction i with
    | zero => intro _; rw [show 64 * 0 - a % 64 = 0 by omega]; simp [allL, wrL_none]
    | succ i ih =>
      intro hi
      have hlt : i < (wrO a xs (wrL z a xs)).length := by rw [wrO_length]; omega
      rw [List.take_succ_eq_append_getElem hlt, allL_append, ih (by omega)]
      have hg : (wrO a xs (wrL z a xs))[i] = ⟨false, a / 64 + i, secL (wrL z a xs) ((a / 64 + i : Nat) : Int)⟩ := by simp [wrO]
      rw [hg]
      unfold allL
      rw [List.foldl_cons, List.foldl_nil]
      show opDo (wrL z a (xs.take (64 * i - a % 64))) ⟨false, a / 64 + i, _⟩ = _
      unfold opDo
      rw [if_neg (by simp), ← secL_later h (by omega), ← layL_sec h (by omega)]
      exact wrL_step h (by omega)
  have := part _ (Nat.le_refl _)
  rw [List.take_of_length_le (by rw [wrO_length]; omega)] at this
  rw [this, List.take_of_length_le]
  have := fun hh => (pcN_lt (f := a % 64) (len := xs.length) (i := pcN (a % 64) xs.length) hf).2 hh
  omega

def FS.write (s : FS) (a : Nat) (xs : List Int) : FS :=
  if xs = [] then s else ⟨wrL (growL s.now (a + xs.length)) a xs, s.safe, s.ops ++ growO s.now (a + xs.length) ++ wrO a xs (wrL (growL s.now (a + xs.length)) a xs)⟩
def FS.trunc (s : FS) (n : Nat) : FS := if n = s.now.length then s else ⟨sizeL s.now n, s.safe, s.ops ++ [⟨true, n, []⟩]⟩
def FS.sync (s : FS) : FS := ⟨s.now, s.now, []⟩
def FS.crash (s : FS) (ks : List Bool) : FS := ⟨crashL s.safe s.ops ks, crashL s.safe s.ops ks, []⟩
def FS.new : FS := ⟨[], [], []⟩
def FS.read (s : FS) (at_ n : Int) : List Int := if 0 ≤ at_ ∧ 0 < n then (s.now.drop at_.toNat).take n.toNat else []

/-- What holds of every file: what was done, done to what is safe, gives what there is; all are bytes, and not too many. -/
structure FS.Ok (s : FS) : Prop where
  all : allL s.safe s.ops = s.now
  now : AreB s.now
  safe : AreB s.safe
  data : ∀ o ∈ s.ops, AreB o.data
  size : s.now.length ≤ 1048576
  sizeS : s.safe.length ≤ 1048576
  n : ∀ o ∈ s.ops, o.n ≤ 1048576

theorem opDo_bytes {z : List Int} {o : OpV} (h : AreB z) (ho : AreB o.data) : AreB (opDo z o) := by
  unfold opDo; split
  · exact sizeL_bytes h _
  · exact setL_bytes h ho _
theorem opDo_size {z : List Int} {o : OpV} (h : z.length ≤ 1048576) (ho : o.n ≤ 1048576) : (opDo z o).length ≤ 1048576 := by
  unfold opDo; split
  · rw [sizeL_length]; exact ho
  · rw [setL_length]; exact h
theorem crashL_ok : ∀ (ops : List OpV) (z : List Int) (ks : List Bool), AreB z → z.length ≤ 1048576 → (∀ o ∈ ops, AreB o.data) → (∀ o ∈ ops, o.n ≤ 1048576) → AreB (crashL z ops ks) ∧ (crashL z ops ks).length ≤ 1048576
  | [], z, _, h1, h2, _, _ => ⟨h1, h2⟩
  | _ :: _, z, [], h1, h2, _, _ => ⟨h1, h2⟩
  | o :: r, z, k :: ks, h1, h2, h3, h4 => by
    show AreB (crashL (if k then opDo z o else z) r ks) ∧ _
    refine crashL_ok r _ ks ?_ ?_ (fun p hp => h3 p (by simp [hp])) (fun p hp => h4 p (by simp [hp]))
    · split
      · exact opDo_bytes h1 (h3 o (by simp))
      · exact h1
    · split
      · exact opDo_size h2 (h4 o (by simp))
      · exact h2

theorem FS.new_ok : FS.new.Ok := ⟨rfl, AreB.nil, AreB.nil, (fun o h => by cases h), Nat.zero_le _, Nat.zero_le _, (fun o h => by cases h)⟩
theorem FS.Ok.write {s : FS} (h : s.Ok) {a : Nat} {xs : List Int} (hx : AreB xs) (ha : a + xs.length ≤ 1048576) : (s.write a xs).Ok := by
  unfold FS.write
  split
  · exact h
  · next hne =>
    have hgl := growL_length s.now (a + xs.length)
    have hb : AreB (wrL (growL s.now (a + xs.length)) a xs) := wrL_bytes (growL_bytes h.now _) hx a
    refine ⟨?_, hb, h.safe, ?_, ?_, h.sizeS, ?_⟩
    · show allL s.safe _ = _
      rw [allL_append, allL_append, h.all, allL_grow]
      exact allL_wr (by omega) hne
    · intro o ho
      rcases List.mem_append.1 ho with ho | ho
      · rcases List.mem_append.1 ho with ho | ho
        · exact h.data o ho
        · unfold growO at ho
          split at ho
          · rw [List.mem_singleton] at ho; subst ho; exact AreB.nil
          · cases ho
      · unfold wrO at ho
        obtain ⟨i, _, rfl⟩ := List.mem_map.1 ho
        exact secL_bytes hb _
    · show (wrL _ a xs).length ≤ _
      rw [wrL_length (by omega), hgl]
      have := h.size
      omega
    · intro o ho
      rcases List.mem_append.1 ho with ho | ho
      · rcases List.mem_append.1 ho with ho | ho
        · exact h.n o ho
        · unfold growO at ho
          split at ho
          · rw [List.mem_singleton] at ho; subst ho; exact ha
          · cases ho
      · unfold wrO at ho
        obtain ⟨i, hi, rfl⟩ := List.mem_map.1 ho
        have hi2 := (pcN_lt (Nat.mod_lt a (by omega))).1 (List.mem_range.1 hi)
        show a / 64 + i ≤ 1048576
        omega
theorem FS.Ok.trunc {s : FS} (h : s.Ok) {n : Nat} (hn : n ≤ 1048576) : (s.trunc n).Ok := by
  unfold FS.trunc
  split
  · exact h
  · refine ⟨?_, sizeL_bytes h.now n, h.safe, ?_, by show (sizeL _ _).length ≤ _; rw [sizeL_length]; exact hn, h.sizeS, ?_⟩
    · show allL s.safe (s.ops ++ _) = _
      rw [allL_append, h.all]; rfl
    · intro o ho
      rcases List.mem_append.1 ho with ho | ho
      · exact h.data o ho
      · rw [List.mem_singleton] at ho; subst ho; exact AreB.nil
    · intro o ho
      rcases List.mem_append.1 ho with ho | ho
      · exact h.n o ho
      · rw [List.mem_singleton] at ho; subst ho; exact hn
theorem FS.Ok.sync {s : FS} (h : s.Ok) : s.sync.Ok := ⟨rfl, h.now, h.now, (fun o h => by cases h), h.size, h.size, (fun o h => by cases h)⟩
theorem FS.Ok.crash {s : FS} (h : s.Ok) (ks : List Bool) : (s.crash ks).Ok := by
  obtain ⟨h1, h2⟩ := crashL_ok s.ops s.safe ks h.safe h.sizeS h.data h.n
  exact ⟨rfl, h1, h1, (fun o h => by cases h), h2, h2, (fun o h => by cases h)⟩
/-- With all kept a crash leaves what there is now. -/
theorem FS.Ok.kept {s : FS} (h : s.Ok) {ks : List Bool} (hk : ∀ i, i < s.ops.length → keepAt ks i = true) : (s.crash ks).now = s.now := by
  show crashL s.safe s.ops ks = s.now
  rw [crashL_all _ _ _ hk, h.all]
/-- What was synced is left by every crash. -/
theorem FS.sync_crash (s : FS) (ks : List Bool) : (s.sync.crash ks).now = s.now := rfl

/-- How many things are pending at most, if each call is small. -/
theorem FS.write_ops (s : FS) (a : Nat) (xs : List Int) : (s.write a xs).ops.length ≤ s.ops.length + 1 + (xs.length / 64 + 2) := by
  unfold FS.write
  split
  · omega
  · have h1 := pcN_le (a % 64) xs.length (Nat.mod_lt _ (by omega))
    have h2 : (growO s.now (a + xs.length)).length ≤ 1 := by unfold growO; split <;> simp
    simp only [List.length_append, wrO_length]
    omega
theorem FS.trunc_ops (s : FS) (n : Nat) : (s.trunc n).ops.length ≤ s.ops.length + 1 := by
  unfold FS.trunc; split
  · omega
  · simp

theorem FS.read_length (s : FS) (at_ n : Int) : (s.read at_ n).length ≤ s.now.length := by
  unfold FS.read; split
  · rw [List.length_take, List.length_drop]; omega
  · simp
theorem FS.read_bytes {s : FS} (h : AreB s.now) (at_ n : Int) : AreB (s.read at_ n) := by
  unfold FS.read; split
  · exact (h.drop _).take _
  · exact AreB.nil
theorem FS.read_all (s : FS) {n : Int} (h : (s.now.length : Int) ≤ n) : s.read 0 n = s.now := by
  unfold FS.read
  by_cases h0 : 0 < n
  · rw [if_pos ⟨by omega, h0⟩]
    show (s.now.drop 0).take n.toNat = _
    rw [List.drop_zero, List.take_of_length_le (by omega)]
  · rw [if_neg (fun hh => h0 hh.2)]
    have : s.now.length = 0 := by omega
    exact (List.eq_nil_of_length_eq_zero this).symm

end Go.Proofs.YtclglbddibjenaaGreat

/-
  PLAIN MATHEMATICS FOR LAYER 6, ON: what a crash leaves by the first ones alone; what holds of every file that small calls have made. Of no program.
-/
set_option linter.unusedVariables false
set_option maxRecDepth 100000
namespace Go.Proofs.YtclglbddibjenaaGreat
open Go.RowKit

theorem crashL_take : ∀ (ops : List OpV) (z : List Int) (ks : List Bool) (n : Nat), ks.length ≤ n ∨ ops.length ≤ n → crashL z (ops.take n) ks = crashL z ops ks
  | [], z, ks, n, _ => by simp
  | o :: r, z, [], n, _ => by rw [crashL_nil, crashL_nil]
  | o :: r, z, k :: s, 0, h => by simp at h
  | o :: r, z, k :: s, n + 1, h => by
    rw [List.take_succ_cons]
    simp only [crashL]
    exact crashL_take r _ s n (by simpa using h)

def truncE (n : Int) : Int := if n < 0 ∨ 1048576 < n then 1 else 0
def FS.truncI (s : FS) (n : Int) : FS := if n < 0 ∨ 1048576 < n then s else s.trunc n.toNat
def writeE (a : Int) (m : Nat) : Int := if a < 0 ∨ 1048576 < a + m then 1 else 0
def FS.writeI (s : FS) (a : Int) (bs : List Int) : FS := if a < 0 ∨ 1048576 < a + bs.length then s else s.write a.toNat bs

/-- What holds of a file behind small calls; not more than n things are pending. -/
structure FS.Good (s : FS) (n : Nat) : Prop where
  ok : s.Ok
  whole : ∀ o ∈ s.ops, o.sz = false → o.data.length = 64
  empty : ∀ o ∈ s.ops, o.sz = true → o.data = []
  few : s.ops.length ≤ n

theorem FS.new_good : FS.new.Good 0 := ⟨FS.new_ok, (fun o h => by cases h), (fun o h => by cases h), Nat.zero_le _⟩
theorem FS.Good.more {s : FS} {n m : Nat} (h : s.Good n) (hn : n ≤ m) : s.Good m := ⟨h.ok, h.whole, h.empty, Nat.le_trans h.few hn⟩
theorem FS.Good.trunc {s : FS} {n k : Nat} (h : s.Good n) (hk : k ≤ 1048576) : (s.trunc k).Good (n + 1) := by
  have hops : ∀ o ∈ (s.trunc k).ops, o ∈ s.ops ∨ o = ⟨true, k, []⟩ := fun o ho => by
    unfold FS.trunc at ho
    split at ho
    · exact .inl ho
    · rcases List.mem_append.1 ho with h | h
      · exact .inl h
      · exact .inr (by simpa using h)
  refine ⟨h.ok.trunc hk, fun o ho hs => ?_, fun o ho hs => ?_, by have := FS.trunc_ops s k; have := h.few; omega⟩
  · rcases hops o ho with h1 | rfl
    · exact h.whole o h1 hs
    · cases hs
  · rcases hops o ho with h1 | rfl
    · exact h.empty o h1 hs
    · rfl
theorem FS.Good.write {s : FS} {n a : Nat} {xs : List Int} (h : s.Good n) (hx : AreB xs) (ha : a + xs.length ≤ 1048576) : (s.write a xs).Good (n + 1 + (xs.length / 64 + 2)) := by
  have hops : ∀ o ∈ (s.write a xs).ops, o ∈ s.ops ∨ (∃ k, o = ⟨true, k, []⟩) ∨ ∃ k z i, o = ⟨false, k, secL z i⟩ := fun o ho => by
    unfold FS.write at ho
    split at ho
    · exact .inl ho
    · rcases List.mem_append.1 ho with ho | ho
      · rcases List.mem_append.1 ho with ho | ho
        · exact .inl ho
        · unfold growO at ho
          split at ho
          · exact .inr (.inl ⟨_, by simpa using ho⟩)
          · cases ho
      · unfold wrO at ho
        obtain ⟨i, _, rfl⟩ := List.mem_map.1 ho
        exact .inr (.inr ⟨_, _, _, rfl⟩)
  refine ⟨h.ok.write hx ha, fun o ho hs => ?_, fun o ho hs => ?_, by have := FS.write_ops s a xs; have := h.few; omega⟩
  · rcases hops o ho with h1 | ⟨k, rfl⟩ | ⟨k, z, i, rfl⟩
    · exact h.whole o h1 hs
    · cases hs
    · exact secL_length _ _
  · rcases hops o ho with h1 | ⟨k, rfl⟩ | ⟨k, z, i, rfl⟩
    · exact h.empty o h1 hs
    · rfl
    · cases hs
theorem FS.Good.sync {s : FS} {n : Nat} (h : s.Good n) : s.sync.Good 0 := ⟨h.ok.sync, (fun o h => by cases h), (fun o h => by cases h), Nat.zero_le _⟩
theorem FS.Good.crash {s : FS} {n : Nat} (h : s.Good n) (ks : List Bool) : (s.crash ks).Good 0 := ⟨h.ok.crash ks, (fun o h => by cases h), (fun o h => by cases h), Nat.zero_le _⟩
theorem FS.Good.truncI {s : FS} {n : Nat} (h : s.Good n) (k : Int) : (s.truncI k).Good (n + 1) := by
  unfold FS.truncI; split
  · exact h.more (by omega)
  · exact h.trunc (by omega)
theorem FS.Good.writeI {s : FS} {n : Nat} (h : s.Good n) (a : Int) {xs : List Int} (hx : AreB xs) : (s.writeI a xs).Good (n + 1 + (xs.length / 64 + 2)) := by
  unfold FS.writeI; split
  · exact h.more (by omega)
  · exact h.write hx (by omega)

end Go.Proofs.YtclglbddibjenaaGreat

/-
  LAYER 6: HOW A FILE LIES IN MEMORY, the program's and the document's: a block of three cells, and the rows that they hold; what each of them keeps when something else turns.
-/
set_option linter.unusedVariables false
set_option maxRecDepth 100000
set_option linter.unusedSimpArgs false
namespace Go.Proofs.YtclglbddibjenaaGreat
open Go.RowKit

/-! ### rows -/
theorem own_blk {w : World} {b : Nat} {e : TypeId} {size n : Nat} {v : Value} {xs : List Value} {g : Nat} {t : TypeId} {cs : Array Value} (h : w.ownsRow b e size v n xs) (hb : Blk w g t cs) (hne : e ≠ t) : v.ownBlock ≠ some g := own_blk_ne h hb hne

/-- A row of the call's own, laid open: its block is known whole. -/
theorem own_open {w : World} {base n : Nat} {e : TypeId} {size : Nat} {A : Option Addr} {c : Nat} {xs : List Value} (h : w.ownsRow base e size (.slice A n c) n xs) (hn : 0 < n) :
    ∃ (g : Nat) (cur : List Value), A = some ⟨g, 0, none⟩ ∧ base ≤ g ∧ Blk w g e cur.toArray ∧ n ≤ c ∧ c ≤ maxLen ∧ cur.length = c * size ∧ cur.take (n * size) = xs := by
  rcases h.2 with ⟨_, h0⟩ | ⟨g, cap, cur, hv, hb, hg, hnc, hcm, hcs, ht⟩
  · omega
  · injection hv with h1 _ h3
    subst h1; subst h3
    exact ⟨g, cur.toList, rfl, hb, hg, hnc, hcm, by simpa using hcs, ht⟩
theorem own_shut {w : World} {base n c g : Nat} {e : TypeId} {size : Nat} {cur xs : List Value} (hb : base ≤ g) (hg : Blk w g e cur.toArray) (hnc : n ≤ c) (hcm : c ≤ maxLen) (hl : cur.length = c * size) (ht : cur.take (n * size) = xs) (hx : xs.length = n * size) :
    w.ownsRow base e size (.slice (some ⟨g, 0, none⟩) n c) n xs := ⟨hx, .inr ⟨g, c, _, rfl, hb, hg, hnc, hcm, by simpa using hl, by simpa using ht⟩⟩

/-- What a call has told in place of a row of the call's own: that row alone has turned; the new one lies where it lay, or in a new block. -/
def Reown (base : Nat) (v : Value) (zs : List Int) (w : World) (e : Ending) (w' : World) : Prop :=
  ∃ A c, e = .returned (.slice A zs.length c) ∧ w'.ownsRow base 5 1 (.slice A zs.length c) zs.length (cellsOf .u8 zs) ∧ Chg (fun k => v.ownBlock = some k) w w' ∧ Moved w v (.slice A zs.length c)

theorem Gives.moved {zs : List Int} {w w' : World} {e : Ending} (h : Gives zs w e w') {base : Nat} (hb : base ≤ w.heap.size) (v : Value) : v = .slice none 0 0 ∨ 0 < zs.length ∨ (∃ A c, e = .returned (.slice A zs.length c) ∧ A ≠ none) → Reown base v zs w e w' := fun hn => by
  obtain ⟨A, c, rfl, hown, hw⟩ := h
  refine ⟨A, c, rfl, own_base hown hb, Chg.of_below hw (Nat.le_refl _) _, ?_⟩
  cases hA : A with
  | some ad =>
    subst hA
    refine .inr ⟨ad.block, rfl, (hown.lt ad.block rfl).1⟩
  | none =>
    subst hA
    rcases hn with rfl | hn | ⟨A', c', he, hA'⟩
    · exact .inl rfl
    · obtain ⟨g, cap, hv, _⟩ := hown.form hn
      injection hv with hv
      cases hv
    · injection he with he
      injection he with he
      exact absurd he.symm hA'

/-! ### a step of the program's: 66 cells -/
def stepC (o : OpV) : List Value := .bool o.sz :: .int .i64 o.n :: cellsOf .u8 (sizeL o.data 64)
theorem stepC_length (o : OpV) : (stepC o).length = 66 := by unfold stepC; simp [cellsOf_length, sizeL_length]
def stepsC (ops : List OpV) : List Value := (ops.map stepC).flatten
theorem stepsC_append (a b : List OpV) : stepsC (a ++ b) = stepsC a ++ stepsC b := by unfold stepsC; rw [List.map_append, List.flatten_append]
theorem stepsC_one (o : OpV) : stepsC [o] = stepC o := by unfold stepsC; simp
theorem stepsC_length (ops : List OpV) : (stepsC ops).length = ops.length * 66 := by
  induction ops with
  | nil => rfl
  | cons o r ih =>
    show (stepsC ([o] ++ r)).length = _
    rw [stepsC_append, stepsC_one, List.length_append, stepC_length, ih, List.length_cons]; omega
theorem stepsC_get : ∀ (ops : List OpV) (i : Nat) (o : OpV) (j : Nat), ops[i]? = some o → j < 66 → (stepsC ops)[i * 66 + j]? = (stepC o)[j]?
  | [], i, o, j, h, _ => by simp at h
  | p :: r, 0, o, j, h, hj => by
    simp at h; subst h
    show (stepsC ([p] ++ r))[_]? = _
    rw [stepsC_append, stepsC_one, List.getElem?_append_left (by rw [stepC_length]; omega)]
    congr 1; omega
  | p :: r, i + 1, o, j, h, hj => by
    show (stepsC ([p] ++ r))[_]? = _
    rw [stepsC_append, stepsC_one, List.getElem?_append_right (by rw [stepC_length]; omega), stepC_length]
    rw [show (i + 1) * 66 + j - 66 = i * 66 + j by omega]
    exact stepsC_get r i o j (by simpa using h) hj
theorem stepC_oneCell (o : OpV) : ∀ u ∈ stepC o, u.oneCell' = true := fun u hu => by
  unfold stepC at hu
  rcases List.mem_cons.1 hu with rfl | hu
  · rfl
  rcases List.mem_cons.1 hu with rfl | hu
  · rfl
  exact cellsOf_one _ _ u hu

/-! ### the blocks of a file, and those that have come since -/
/-- The program's file. -/
structure CF (w : World) (base : Nat) (S : Nat → Prop) (p : Nat) (s : FS) (nv sv pv : Value) : Prop where
  foot : ∀ k, S k → base ≤ k ∧ k < w.heap.size
  bas : base ≤ w.heap.size
  inp : S p
  blk : Blk w p 122 #[nv, sv, pv]
  now : w.ownsRow base 5 1 nv s.now.length (cellsOf .u8 s.now)
  safe : w.ownsRow base 5 1 sv s.safe.length (cellsOf .u8 s.safe)
  pend : w.ownsRow base 135 66 pv s.ops.length (stepsC s.ops)
  inn : ∀ g, nv.ownBlock = some g → S g
  ins : ∀ g, sv.ownBlock = some g → S g
  ino : ∀ g, pv.ownBlock = some g → S g
  ne : ∀ g, nv.ownBlock = some g → sv.ownBlock ≠ some g

/-- An op of the document's. -/
def OpAt (w : World) (S : Nat → Prop) (nv : Value) (xs : List Value) (j : Nat) (o : OpV) : Prop :=
  ∃ A m c, xs[j * 3]? = some (.bool o.sz) ∧ xs[j * 3 + 1]? = some (.int .i64 o.n) ∧ xs[j * 3 + 2]? = some (.slice A m c) ∧ Reads w w.heap.size 1 A m (cellsOf .u8 o.data) ∧ m ≤ c ∧ c ≤ maxLen ∧
    (∀ ad, A = some ad → S ad.block ∧ nv.ownBlock ≠ some ad.block ∧ ∃ cs, Blk w ad.block 5 cs)

/-- The document's file. -/
structure RF (w : World) (base : Nat) (S : Nat → Prop) (p : Nat) (s : FS) (nv sv ov : Value) (xs : List Value) : Prop where
  foot : ∀ k, S k → base ≤ k ∧ k < w.heap.size
  bas : base ≤ w.heap.size
  inp : S p
  blk : Blk w p 64 #[nv, sv, ov]
  now : w.ownsRow base 5 1 nv s.now.length (cellsOf .u8 s.now)
  safe : w.ownsRow base 5 1 sv s.safe.length (cellsOf .u8 s.safe)
  pend : w.ownsRow base 146 3 ov s.ops.length xs
  ops : ∀ j o, s.ops[j]? = some o → OpAt w S nv xs j o
  inn : ∀ g, nv.ownBlock = some g → S g
  ins : ∀ g, sv.ownBlock = some g → S g
  ino : ∀ g, ov.ownBlock = some g → S g
  ne : ∀ g, nv.ownBlock = some g → sv.ownBlock ≠ some g

section
variable {w w1 w' : World} {base p : Nat} {S T : Nat → Prop} {s : FS} {nv sv pv v' : Value}

theorem CF.keep (h : CF w base S p s nv sv pv) (hc : Chg T w w') (hT : ∀ k, S k → ¬ T k) : CF w' base S p s nv sv pv :=
  ⟨fun k hk => by have := h.foot k hk; have := hc.size; omega, by have := h.bas; have := hc.size; omega, h.inp, h.blk.chg hc (hT p h.inp), own_chg h.now hc (fun g hg => hT g (h.inn g hg)), own_chg h.safe hc (fun g hg => hT g (h.ins g hg)),
    own_chg h.pend hc (fun g hg => hT g (h.ino g hg)), h.inn, h.ins, h.ino, h.ne⟩
theorem CF.below (h : CF w base S p s nv sv pv) (hb : Below w.heap.size w w') : CF w' base S p s nv sv pv := h.keep (Chg.of_below hb (Nat.le_refl _) (fun _ => False)) (fun _ _ h => h)
theorem CF.mono (h : CF w base S p s nv sv pv) (hS : ∀ k, S k → T k) (hT : ∀ k, T k → base ≤ k ∧ k < w.heap.size) : CF w base T p s nv sv pv :=
  ⟨hT, h.bas, hS p h.inp, h.blk, h.now, h.safe, h.pend, fun g hg => hS g (h.inn g hg), fun g hg => hS g (h.ins g hg), fun g hg => hS g (h.ino g hg), h.ne⟩
theorem CF.drewN (h : CF w base S p s nv sv pv) (n : Nat) : CF (w.drewN n) base S p s nv sv pv := ⟨h.foot, h.bas, h.inp, h.blk, h.now, h.safe, h.pend, h.inn, h.ins, h.ino, h.ne⟩
theorem CF.drew (h : CF w base S p s nv sv pv) : CF w.drew base S p s nv sv pv := ⟨h.foot, h.bas, h.inp, h.blk, h.now, h.safe, h.pend, h.inn, h.ins, h.ino, h.ne⟩
theorem CF.pn (h : CF w base S p s nv sv pv) : nv.ownBlock ≠ some p := own_blk_ne h.now h.blk (by decide)
theorem CF.ps (h : CF w base S p s nv sv pv) : sv.ownBlock ≠ some p := own_blk_ne h.safe h.blk (by decide)
theorem CF.pp (h : CF w base S p s nv sv pv) : pv.ownBlock ≠ some p := own_blk_ne h.pend h.blk (by decide)

/-- Other bytes. -/
theorem CF.setNow (h : CF w base S p s nv sv pv) {zs : List Int} (hown : w1.ownsRow base 5 1 v' zs.length (cellsOf .u8 zs)) (hc : Chg (fun k => nv.ownBlock = some k) w w1) (hm : Moved w nv v') :
    CF (w1.setCell ⟨p, 0, none⟩ v') base (grow S w w1) p ⟨zs, s.safe, s.ops⟩ v' sv pv := by
  have hb1 : Blk w1 p 122 #[nv, sv, pv] := h.blk.chg hc (fun e => h.pn e)
  have hs1 := own_chg h.safe hc (fun g hg e => h.ne g e hg)
  have hp1 := own_chg h.pend hc (fun g hg e => own_ne h.now h.pend (by decide) g e hg)
  have far : ∀ {e : TypeId} {size n : Nat} {u : Value} {ys : List Value}, w1.ownsRow base e size u n ys → e ≠ 122 → (w1.setCell ⟨p, 0, none⟩ v').ownsRow base e size u n ys := fun hu hne => ownsRow_setCell_other hu (own_blk_ne hu hb1 hne) _
  have hsz : (w1.setCell ⟨p, 0, none⟩ v').heap.size = w1.heap.size := by simp [World.setCell]
  have hv : ∀ g, v'.ownBlock = some g → g < w1.heap.size := fun g hg => (hown.lt g hg).2
  have hmv : ∀ g, v'.ownBlock = some g → nv.ownBlock = some g ∨ w.heap.size ≤ g := fun g hg => by
    rcases hm with e | ⟨k, e, hk⟩
    · exact .inl (by rw [← e]; exact hg)
    · rw [hg] at e; injection e with e; exact .inr (by omega)
  refine ⟨by rw [hsz]; exact chg_lt h.foot hc h.bas, by rw [hsz]; have := hc.size; have := h.bas; omega, .inl h.inp, by have := hb1.set_ 0 v'; simpa using this, far hown (by decide), far hs1 (by decide), far hp1 (by decide), ?_, fun g hg => .inl (h.ins g hg), fun g hg => .inl (h.ino g hg), ?_⟩
  · intro g hg
    rcases hmv g hg with e | e
    · exact .inl (h.inn g e)
    · exact .inr ⟨e, hv g hg⟩
  · intro g hg hs
    rcases hmv g hg with e | e
    · exact h.ne g e hs
    · have := (h.safe.lt g hs).2; omega

/-- One more of what was done. -/
theorem CF.push (h : CF w base S p s nv sv pv) {o : OpV} (hown : w1.ownsRow base 135 66 v' (s.ops.length + 1) (stepsC s.ops ++ stepC o)) (hc : Chg (fun k => pv.ownBlock = some k) w w1) (hm : Moved w pv v') :
    CF (w1.setCell ⟨p, 2, none⟩ v') base (grow S w w1) p ⟨s.now, s.safe, s.ops ++ [o]⟩ nv sv v' := by
  have hb1 : Blk w1 p 122 #[nv, sv, pv] := h.blk.chg hc (fun e => h.pp e)
  have hs1 := own_chg h.safe hc (fun g hg e => own_ne h.safe h.pend (by decide) g hg e)
  have hn1 := own_chg h.now hc (fun g hg e => own_ne h.now h.pend (by decide) g hg e)
  have far : ∀ {e : TypeId} {size n : Nat} {u : Value} {ys : List Value}, w1.ownsRow base e size u n ys → e ≠ 122 → (w1.setCell ⟨p, 2, none⟩ v').ownsRow base e size u n ys := fun hu hne => ownsRow_setCell_other hu (own_blk_ne hu hb1 hne) _
  have hsz : (w1.setCell ⟨p, 2, none⟩ v').heap.size = w1.heap.size := by simp [World.setCell]
  refine ⟨by rw [hsz]; exact chg_lt h.foot hc h.bas, by rw [hsz]; have := hc.size; have := h.bas; omega, .inl h.inp, by have := hb1.set_ 2 v'; simpa using this, far hn1 (by decide), far hs1 (by decide), ?_, fun g hg => .inl (h.inn g hg), fun g hg => .inl (h.ins g hg), ?_, h.ne⟩
  · rw [List.length_append, stepsC_append, stepsC_one]
    exact far hown (by decide)
  · intro g hg
    rcases hm with e | ⟨k, e, hk⟩
    · exact .inl (h.ino g (by rw [← e]; exact hg))
    · rw [hg] at e; injection e with e; subst e
      exact .inr ⟨hk, (hown.lt g hg).2⟩

/-- What there is is safe. -/
theorem CF.setSync (h : CF w base S p s nv sv pv) (hown : w1.ownsRow w.heap.size 5 1 v' s.now.length (cellsOf .u8 s.now)) (hc : Below w.heap.size w w1) :
    CF ((w1.setCell ⟨p, 1, none⟩ v').setCell ⟨p, 2, none⟩ (.slice none 0 0)) base (grow S w w1) p s.sync nv v' (.slice none 0 0) := by
  have h1 := h.below hc
  have hb1 := h1.blk
  have hb2 := (hb1.set_ 1 v').set_ 2 (.slice none 0 0)
  have far : ∀ {e : TypeId} {size n b : Nat} {u : Value} {ys : List Value}, w1.ownsRow b e size u n ys → e ≠ 122 → ((w1.setCell ⟨p, 1, none⟩ v').setCell ⟨p, 2, none⟩ (.slice none 0 0)).ownsRow b e size u n ys := fun hu hne =>
    ownsRow_setCell_other (ownsRow_setCell_other hu (own_blk_ne hu hb1 hne) _) (own_blk_ne (ownsRow_setCell_other hu (own_blk_ne hu hb1 hne) _) (hb1.set_ 1 v') hne) _
  have hsz : ((w1.setCell ⟨p, 1, none⟩ v').setCell ⟨p, 2, none⟩ (.slice none 0 0)).heap.size = w1.heap.size := by simp [World.setCell]
  refine ⟨by rw [hsz]; exact chg_lt h.foot (Chg.of_below hc (Nat.le_refl _) (fun _ => False)) h.bas, by rw [hsz]; exact h1.bas, .inl h.inp, by simpa using hb2, far h1.now (by decide), own_base (far hown (by decide)) h.bas, World.ownsRow_nil _ _ _ _, fun g hg => .inl (h.inn g hg), ?_, fun g hg => by simp [Value.ownBlock] at hg, ?_⟩
  · intro g hg
    have := hown.lt g hg
    exact .inr this
  · intro g hg hs
    have := hown.lt g hs
    have := h.now.lt g hg
    omega
end

end Go.Proofs.YtclglbddibjenaaGreat

/-
  LAYER 6: THE DOCUMENT'S FILE IN MEMORY: what it keeps when something turns.
-/
set_option linter.unusedVariables false
set_option maxRecDepth 100000
set_option linter.unusedSimpArgs false
namespace Go.Proofs.YtclglbddibjenaaGreat
open Go.RowKit

section
variable {w w1 w' : World} {base p : Nat} {S S' T : Nat → Prop} {s : FS} {nv nv' sv ov v' : Value} {xs xs' : List Value}

theorem OpAt.on {j : Nat} {o : OpV} (h : OpAt w S nv xs j o) (hf : ∀ k, S k → k < w.heap.size) (hc : Chg T w w') (hk : ∀ g cs, S g → nv.ownBlock ≠ some g → Blk w g 5 cs → ¬ T g) (hS : ∀ k, S k → S' k)
    (hv : ∀ g, S g → nv.ownBlock ≠ some g → nv'.ownBlock ≠ some g) (hx : ∀ (i : Nat) (u : Value), xs[i]? = some u → xs'[i]? = some u) : OpAt w' S' nv' xs' j o := by
  obtain ⟨A, m, c, h1, h2, h3, h4, h5, h6, h7⟩ := h
  refine ⟨A, m, c, hx _ _ h1, hx _ _ h2, hx _ _ h3, (h4.chg hc (Nat.le_refl _) ?_).more hc.size, h5, h6, ?_⟩
  · intro _ ad e
    obtain ⟨a1, a2, cs, a3⟩ := h7 ad e
    exact hk _ cs a1 a2 a3
  · intro ad e
    obtain ⟨a1, a2, cs, a3⟩ := h7 ad e
    exact ⟨hS _ a1, hv _ a1 a2, cs, a3.chg hc (hk _ cs a1 a2 a3)⟩

theorem RF.keep (h : RF w base S p s nv sv ov xs) (hc : Chg T w w') (hT : ∀ k, S k → ¬ T k) : RF w' base S p s nv sv ov xs :=
  ⟨fun k hk => by have := h.foot k hk; have := hc.size; omega, by have := h.bas; have := hc.size; omega, h.inp, h.blk.chg hc (hT p h.inp), own_chg h.now hc (fun g hg => hT g (h.inn g hg)), own_chg h.safe hc (fun g hg => hT g (h.ins g hg)),
    own_chg h.pend hc (fun g hg => hT g (h.ino g hg)), fun j o ho => (h.ops j o ho).on (fun k hk => (h.foot k hk).2) hc (fun g _ hg _ _ => hT g hg) (fun _ h => h) (fun _ _ h => h) (fun _ _ h => h), h.inn, h.ins, h.ino, h.ne⟩
theorem RF.below (h : RF w base S p s nv sv ov xs) (hb : Below w.heap.size w w') : RF w' base S p s nv sv ov xs := h.keep (Chg.of_below hb (Nat.le_refl _) (fun _ => False)) (fun _ _ h => h)
theorem RF.mono (h : RF w base S p s nv sv ov xs) (hS : ∀ k, S k → T k) (hT : ∀ k, T k → base ≤ k ∧ k < w.heap.size) : RF w base T p s nv sv ov xs :=
  ⟨hT, h.bas, hS p h.inp, h.blk, h.now, h.safe, h.pend, fun j o ho => (h.ops j o ho).on (fun k hk => (h.foot k hk).2) (Chg.refl (fun _ => False) w) (fun _ _ _ _ _ h => h) hS (fun _ _ h => h) (fun _ _ h => h), fun g hg => hS g (h.inn g hg), fun g hg => hS g (h.ins g hg), fun g hg => hS g (h.ino g hg), h.ne⟩
theorem RF.drewN (h : RF w base S p s nv sv ov xs) (n : Nat) : RF (w.drewN n) base S p s nv sv ov xs := ⟨h.foot, h.bas, h.inp, h.blk, h.now, h.safe, h.pend, h.ops, h.inn, h.ins, h.ino, h.ne⟩
theorem RF.drew (h : RF w base S p s nv sv ov xs) : RF w.drew base S p s nv sv ov xs := ⟨h.foot, h.bas, h.inp, h.blk, h.now, h.safe, h.pend, h.ops, h.inn, h.ins, h.ino, h.ne⟩
theorem RF.pn (h : RF w base S p s nv sv ov xs) : nv.ownBlock ≠ some p := own_blk_ne h.now h.blk (by decide)
theorem RF.ps (h : RF w base S p s nv sv ov xs) : sv.ownBlock ≠ some p := own_blk_ne h.safe h.blk (by decide)
theorem RF.pp (h : RF w base S p s nv sv ov xs) : ov.ownBlock ≠ some p := own_blk_ne h.pend h.blk (by decide)

/-- Other bytes, in a row that has been made. -/
theorem RF.setNow (h : RF w base S p s nv sv ov xs) {zs : List Int} (hown : w1.ownsRow w.heap.size 5 1 v' zs.length (cellsOf .u8 zs)) (hc : Below w.heap.size w w1) :
    RF (w1.setCell ⟨p, 0, none⟩ v') base (grow S w w1) p ⟨zs, s.safe, s.ops⟩ v' sv ov xs := by
  have h1 := h.below hc
  have far : ∀ {e : TypeId} {b size n : Nat} {u : Value} {ys : List Value}, w1.ownsRow b e size u n ys → e ≠ 64 → (w1.setCell ⟨p, 0, none⟩ v').ownsRow b e size u n ys := fun hu hne => ownsRow_setCell_other hu (own_blk_ne hu h1.blk hne) _
  have hsz : (w1.setCell ⟨p, 0, none⟩ v').heap.size = w1.heap.size := by simp [World.setCell]
  have hft := chg_lt h.foot (Chg.of_below hc (Nat.le_refl _) (fun _ => False)) h.bas
  refine ⟨by rw [hsz]; exact hft, by rw [hsz]; exact h1.bas, .inl h.inp, by have := h1.blk.set_ 0 v'; simpa using this, own_base (far hown (by decide)) h.bas, far h1.safe (by decide), far h1.pend (by decide), ?_, fun g hg => .inr (hown.lt g hg), fun g hg => .inl (h.ins g hg), fun g hg => .inl (h.ino g hg), ?_⟩
  · intro j o ho
    refine (h1.ops j o ho).on (fun k hk => (h1.foot k hk).2) (chg_set _ _ _) (fun g cs _ _ hb e => by subst e; exact blk_one hb h1.blk (by decide)) (fun _ h => .inl h) (fun g hg _ e => ?_) (fun _ _ h => h)
    have := (hown.lt g e).1
    have := (h.foot g hg).2
    omega
  · intro g hg hs
    have := (hown.lt g hg).1
    have := (h.safe.lt g hs).2
    omega

/-- One byte is put down. -/
theorem RF.store (h : RF w base S p s nv sv ov xs) {g n c i : Nat} (hv : nv = .slice (some ⟨g, 0, none⟩) n c) (x : Int) : RF (w.setCell ⟨g, i, none⟩ (.int .u8 x)) base S p ⟨s.now.set i x, s.safe, s.ops⟩ nv sv ov xs := by
  have hg : nv.ownBlock = some g := by rw [hv]; rfl
  have hp := h.pn
  have hn : n = s.now.length := by
    have := h.now
    rw [hv] at this
    obtain ⟨_, _, e, _⟩ := own_form this
    injection e
  subst hn
  have hown := h.now
  rw [hv] at hown
  have hst := (hown.stored i (.int .u8 x)).1
  have hsz : (w.setCell ⟨g, i, none⟩ (.int .u8 x)).heap.size = w.heap.size := by simp [World.setCell]
  have hgp : p ≠ g := fun e => hp (by rw [hg, e])
  refine ⟨by rw [hsz]; exact h.foot, by rw [hsz]; exact h.bas, h.inp, h.blk.far hgp _, ?_, ownsRow_setCell_other h.safe (h.ne g hg) _, ownsRow_setCell_other h.pend (fun e => own_ne h.pend h.now (by decide) g e hg) _, ?_, h.inn, h.ins, h.ino, h.ne⟩
  · rw [hv, List.length_set, ← cellsOf_set]; exact hst
  · intro j o ho
    exact (h.ops j o ho).on (fun k hk => (h.foot k hk).2) (chg_set _ _ _) (fun g' cs _ hne _ e => by subst e; exact hne hg) (fun _ h => h) (fun _ _ h => h) (fun _ _ h => h)

/-- One more of what was done. -/
theorem RF.push (h : RF w base S p s nv sv ov xs) {o : OpV} {A : Option Addr} {m c : Nat} (hown : w1.ownsRow base 146 3 v' (s.ops.length + 1) (xs ++ [.bool o.sz, .int .i64 o.n, .slice A m c])) (hc : Chg (fun k => ov.ownBlock = some k) w w1) (hm : Moved w ov v')
    (hd : Reads w1 w1.heap.size 1 A m (cellsOf .u8 o.data)) (hmc : m ≤ c) (hcm : c ≤ maxLen) (ha : ∀ ad, A = some ad → grow S w w1 ad.block ∧ nv.ownBlock ≠ some ad.block ∧ ∃ cs, Blk w1 ad.block 5 cs) :
    RF (w1.setCell ⟨p, 2, none⟩ v') base (grow S w w1) p ⟨s.now, s.safe, s.ops ++ [o]⟩ nv sv v' (xs ++ [.bool o.sz, .int .i64 o.n, .slice A m c]) := by
  have hxl := h.pend.1
  have hb1 : Blk w1 p 64 #[nv, sv, ov] := h.blk.chg hc (fun e => h.pp e)
  have hs1 := own_chg h.safe hc (fun g hg e => own_ne h.safe h.pend (by decide) g hg e)
  have hn1 := own_chg h.now hc (fun g hg e => own_ne h.now h.pend (by decide) g hg e)
  have far : ∀ {e : TypeId} {size n : Nat} {u : Value} {ys : List Value}, w1.ownsRow base e size u n ys → e ≠ 64 → (w1.setCell ⟨p, 2, none⟩ v').ownsRow base e size u n ys := fun hu hne => ownsRow_setCell_other hu (own_blk_ne hu hb1 hne) _
  have hsz : (w1.setCell ⟨p, 2, none⟩ v').heap.size = w1.heap.size := by simp [World.setCell]
  refine ⟨by rw [hsz]; exact chg_lt h.foot hc h.bas, by rw [hsz]; have := hc.size; have := h.bas; omega, .inl h.inp, by have := hb1.set_ 2 v'; simpa using this, far hn1 (by decide), far hs1 (by decide), ?_, ?_, fun g hg => .inl (h.inn g hg), fun g hg => .inl (h.ins g hg), ?_, h.ne⟩
  · rw [List.length_append]
    exact far hown (by decide)
  · intro j o' ho
    by_cases hj : j < s.ops.length
    · rw [List.getElem?_append_left hj] at ho
      have k1 := (h.ops j o' ho).on (S' := grow S w w1) (nv' := nv) (xs' := xs ++ [.bool o.sz, .int .i64 o.n, .slice A m c]) (fun k hk => (h.foot k hk).2) hc (fun g cs _ _ hb e => by
        obtain ⟨cs', hb'⟩ := own_isblk h.pend e
        exact blk_one hb hb' (by decide)) (fun _ h => .inl h) (fun _ _ h => h) (fun i u hi => by rw [List.getElem?_append_left (List.getElem?_eq_some_iff.1 hi).1]; exact hi)
      have hlt : ∀ k, grow S w w1 k → k < w1.heap.size := fun k hk => (chg_lt h.foot hc h.bas k hk).2
      exact k1.on hlt (chg_set _ _ _) (fun g cs _ _ hb e => by subst e; exact blk_one hb hb1 (by decide)) (fun _ h => h) (fun _ _ h => h) (fun _ _ h => h)
    · have hje : j = s.ops.length := by
        have := (List.getElem?_eq_some_iff.1 ho).1
        simp at this; omega
      subst hje
      rw [List.getElem?_append_right (Nat.le_refl _), Nat.sub_self] at ho
      obtain rfl : o = o' := by simpa using ho
      refine ⟨A, m, c, ?_, ?_, ?_, ?_, hmc, hcm, ?_⟩
      · rw [List.getElem?_append_right (by omega), show s.ops.length * 3 - xs.length = 0 by omega]; rfl
      · rw [List.getElem?_append_right (by omega), show s.ops.length * 3 + 1 - xs.length = 1 by omega]; rfl
      · rw [List.getElem?_append_right (by omega), show s.ops.length * 3 + 2 - xs.length = 2 by omega]; rfl
      · refine (hd.chg (chg_set w1 ⟨p, 2, none⟩ v') (Nat.le_refl _) (fun _ ad e hp => ?_)).more (by rw [hsz]; exact Nat.le_refl _)
        obtain ⟨_, _, cs, hb⟩ := ha ad e
        rw [hp] at hb; exact blk_one hb hb1 (by decide)
      · intro ad e
        obtain ⟨a1, a2, cs, a3⟩ := ha ad e
        exact ⟨a1, a2, cs, a3.far (fun hp => by rw [hp] at a3; exact blk_one a3 hb1 (by decide)) _⟩
  · intro g hg
    rcases hm with e | ⟨k, e, hk⟩
    · exact .inl (h.ino g (by rw [← e]; exact hg))
    · rw [hg] at e; injection e with e; subst e
      exact .inr ⟨hk, (hown.lt g hg).2⟩

/-- What there is is safe; nothing is pending. -/
theorem RF.setSync (h : RF w base S p s nv sv ov xs) (hown : w1.ownsRow w.heap.size 5 1 v' s.now.length (cellsOf .u8 s.now)) (hc : Below w.heap.size w w1) :
    RF ((w1.setCell ⟨p, 1, none⟩ v').setCell ⟨p, 2, none⟩ (.slice none 0 0)) base (grow S w w1) p s.sync nv v' (.slice none 0 0) [] := by
  have h1 := h.below hc
  have hb1 := h1.blk
  have hb2 := (hb1.set_ 1 v').set_ 2 (.slice none 0 0)
  have far : ∀ {e : TypeId} {size n b : Nat} {u : Value} {ys : List Value}, w1.ownsRow b e size u n ys → e ≠ 64 → ((w1.setCell ⟨p, 1, none⟩ v').setCell ⟨p, 2, none⟩ (.slice none 0 0)).ownsRow b e size u n ys := fun hu hne =>
    ownsRow_setCell_other (ownsRow_setCell_other hu (own_blk_ne hu hb1 hne) _) (own_blk_ne (ownsRow_setCell_other hu (own_blk_ne hu hb1 hne) _) (hb1.set_ 1 v') hne) _
  have hsz : ((w1.setCell ⟨p, 1, none⟩ v').setCell ⟨p, 2, none⟩ (.slice none 0 0)).heap.size = w1.heap.size := by simp [World.setCell]
  refine ⟨by rw [hsz]; exact chg_lt h.foot (Chg.of_below hc (Nat.le_refl _) (fun _ => False)) h.bas, by rw [hsz]; exact h1.bas, .inl h.inp, by simpa using hb2, far h1.now (by decide), own_base (far hown (by decide)) h.bas, World.ownsRow_nil _ _ _ _, fun j o ho => by simp [FS.sync] at ho, fun g hg => .inl (h.inn g hg), ?_, fun g hg => by simp [Value.ownBlock] at hg, ?_⟩
  · intro g hg
    have := hown.lt g hg
    exact .inr this
  · intro g hg hs
    have := hown.lt g hs
    have := h.now.lt g hg
    omega
end

end Go.Proofs.YtclglbddibjenaaGreat

/-
  LAYER 6: WHAT New, Len, Pending, bytes.Clone AND resized DO: contracts.
-/
set_option linter.unusedVariables false
set_option maxRecDepth 100000
set_option linter.unusedSimpArgs false
namespace Go.Proofs.YtclglbddibjenaaGreat
open Go.RowKit

theorem flen_any (p n : Nat) (A : Option Addr) (c : Nat) (w : World) (h : w.cell? ⟨p, 0, none⟩ = some (.slice A n c)) :
    Calls Tryz.prog 45 #[.pointer (some ⟨p, 0, none⟩)] w fun e w' => e = .returned (.int .i64 n) ∧ w = w' := by
  go_enter Tryz.func45, Tryz.ntmps45
  go_wp2
  go_ret
  exact ⟨rfl, rfl⟩
theorem flen_nil (w : World) :
    Calls Tryz.prog 45 #[.pointer none] w fun e w' => e = .returned (.int .i64 0) ∧ w = w' := by
  go_enter Tryz.func45, Tryz.ntmps45
  go_wp2
  go_ret
  exact ⟨rfl, rfl⟩
theorem fpend_any (p n : Nat) (A : Option Addr) (c : Nat) (w : World) (h : w.cell? ⟨p, 2, none⟩ = some (.slice A n c)) :
    Calls Tryz.prog 47 #[.pointer (some ⟨p, 0, none⟩)] w fun e w' => e = .returned (.int .i64 n) ∧ w = w' := by
  go_enter Tryz.func47, Tryz.ntmps47
  go_wp2
  go_ret
  exact ⟨rfl, rfl⟩
theorem fpend_nil (w : World) :
    Calls Tryz.prog 47 #[.pointer none] w fun e w' => e = .returned (.int .i64 0) ∧ w = w' := by
  go_enter Tryz.func47, Tryz.ntmps47
  go_wp2
  go_ret
  exact ⟨rfl, rfl⟩

/-- A new file. -/
theorem fnew_any (w : World) :
    Calls Tryz.prog 65 #[] w fun e w' => e = .returned (.pointer (some ⟨w.heap.size, 0, none⟩)) ∧ Hid (w' = w.alloc (.cells #[.slice none 0 0, .slice none 0 0, .slice none 0 0] 122)) := by
  go_enter Tryz.func65, Tryz.ntmps65
  go_wp2
  go_ret
  exact ⟨rfl, rfl⟩

theorem CF.new (w : World) (base : Nat) (hb : base ≤ w.heap.size) : CF (w.alloc (.cells #[.slice none 0 0, .slice none 0 0, .slice none 0 0] 122)) base (fun k => k = w.heap.size) w.heap.size FS.new (.slice none 0 0) (.slice none 0 0) (.slice none 0 0) :=
  ⟨fun k hk => by subst hk; simp; exact hb, by simp; omega, rfl, Blk.new _ _ _, World.ownsRow_nil _ _ _ _, World.ownsRow_nil _ _ _ _, World.ownsRow_nil _ _ _ _, fun g hg => by simp [Value.ownBlock] at hg, fun g hg => by simp [Value.ownBlock] at hg, fun g hg => by simp [Value.ownBlock] at hg, fun g hg => by simp [Value.ownBlock] at hg⟩

/-- An empty row of the call's own, and what is put behind it. -/
theorem below_lit0 {w w1 : World} {t : TypeId} {n c : Nat} (hg : (w.alloc (.cells #[] t)).grownBy w1 (Value.ownBlock (.slice (some ⟨w.heap.size, 0, none⟩) n c))) : Below w.heap.size w w1 :=
  ((Below.refl _ _).alloc (Nat.le_refl _) _).grown hg (by simp) (fun k hk => by simp [Value.ownBlock] at hk; omega)

theorem reads_nil {w : World} {B size n : Nat} {xs : List Value} (h : Reads w B size none n xs) : n = 0 := by
  rcases Nat.eq_zero_or_pos n with h0 | h0
  · exact h0
  · obtain ⟨ad, e, _⟩ := h.2 h0; cases e

/-- bytes.Clone. -/
theorem clone_any (A : Option Addr) (len cap : Nat) (zs : List Int) (B : Nat) (w : World) (hr : Reads w B 1 A len (cellsOf .u8 zs)) (hB : B ≤ w.heap.size) (hn : len ≤ 140737488355328) :
    Calls Tryz.prog 83 #[.slice A len cap] w (Gives zs w) := by
  obtain ⟨i0, hi, hz0, hz1, hz2⟩ := info_parts byteInfo
  have hlen := hr.len
  cases A with
  | none =>
    obtain rfl := reads_nil hr
    have hz : zs = [] := List.eq_nil_of_length_eq_zero hlen
    have hq := fun w1 : World => Lib.run_eql_slice_nil (P := Tryz.prog) w1 29 5 none 0 cap 0 0 Tryz.underlying29
    clear hr
    go_enter Tryz.func83, Tryz.ntmps83
    go_wp2
    go_ret
    subst hz
    exact ⟨none, 0, rfl, World.ownsRow_nil _ _ _ _, Below.refl _ _⟩
  | some ad =>
    have h1 : len ≤ maxLen := by unfold maxLen; omega
    have h2 : 0 + len ≤ maxLen := by omega
    have h3 : (0 + len) * 1 ≤ 140737488355328 := by omega
    have HR := Lib.hid hr
    have HL := Lib.hid hlen
    have hq := fun w1 : World => Lib.run_eql_slice_nil (P := Tryz.prog) w1 29 5 (some ad) len cap 0 0 Tryz.underlying29
    clear hr hlen
    go_enter Tryz.func83, Tryz.ntmps83
    go_wp2_with (at_builtin; refine wpList_append_any _ rfl _ _ _ rfl w.heap.size 5 i0 (.int .u8 0) 1 1 Tryz.underlying29 hi hz0 hz1 hz2 rfl (Nat.lt_succ_self 0) _ 0 [] rfl (World.ownsRow_lit w #[] 0 (Nat.le_refl _) (Nat.zero_le _) rfl) B (some ad) len cap (cellsOf .u8 zs) rfl (HR.out.alloc hB _) (cellsOf_one _ _) h2 h3 (by simp) ?_; intro v1 w1 hown1 hg1 hat1; rw [Nat.zero_add, List.nil_append] at hown1; obtain ⟨A1, c1, rfl, hc1, hc2⟩ := own_form hown1; have hb1 := below_lit0 hg1; clear hg1 hat1)
    go_ret
    rw [← HL.out] at hown1 ⊢
    exact ⟨A1, c1, rfl, hown1, hb1⟩

/-- A row with nothing more. -/
theorem run_append_zero0 {P : Program} (w : World) (base : Nat) (t tn ty e : TypeId) (i : TypeInfo) (z : Value) (kq kn : IntKind) (ht : P.underlying t = some (.slice e)) (htn : P.underlying tn = some (.int kn)) (hi : P.info? e = some i) (hz : i.zero = some z)
    (v : Value) (n size : Nat) (xs : List Value) (hown : w.ownsRow base e size v n xs) : (Builtin.append_ #[t, tn] ty #[v, .int kq 0]).run P w = .ok v w := by
  obtain ⟨A, c, rfl, hc1, hc2⟩ := own_form hown
  have hw : IntKind.i64.wrap (0 : Int) = 0 := rfl
  simp [Builtin.append_, run_underlying ht, run_underlying htn, sizeOf, typeInfo, zeroValue, hi, hz, asInt, asIntOf, hw]
  rw [if_pos hc1]
  cases A <;> simp [storeCells]

end Go.Proofs.YtclglbddibjenaaGreat

/-
  LAYER 6: WHAT resized DOES: its contract; a step as 66 cells of the program's.
-/
set_option linter.unusedVariables false
set_option maxRecDepth 100000
set_option linter.unusedSimpArgs false
namespace Go.Proofs.YtclglbddibjenaaGreat
open Go.RowKit

theorem sizeL_more {zs : List Int} {n : Nat} (h : zs.length ≤ n) : cellsOf .u8 (sizeL zs n) = cellsOf .u8 zs ++ List.replicate (n - zs.length) (Value.int .u8 0) := by
  unfold sizeL
  rw [List.take_of_length_le h, cellsOf_append]
  simp [cellsOf]

theorem resized_any (A : Option Addr) (len cap n : Nat) (zs : List Int) (base : Nat) (w : World) (hown : w.ownsRow base 5 1 (.slice A len cap) len (cellsOf .u8 zs)) (hB : base ≤ w.heap.size) (hn : n ≤ 2147483647) (hl : len ≤ 2147483647) :
    Calls Tryz.prog 112 #[.slice A len cap, .int .i64 n] w (Reown base (.slice A len cap) (sizeL zs n) w) := by
  obtain ⟨i0, hi, hz0, hz1, hz2⟩ := info_parts byteInfo
  have hlen : zs.length = len := by have := hown.1; rw [cellsOf_length] at this; omega
  obtain ⟨A', c', e, hc1, hc2⟩ := own_form hown
  injection e with e1 _ e3
  subst e1; subst e3
  have hsl := sizeL_length zs n
  rcases Nat.lt_trichotomy n len with h | h | h
  · have HS := Lib.hid (size_any A len cap n zs w.heap.size w (Reads.of_own hown) (Nat.le_refl _) hn hc1)
    have HSL := Lib.hid hsl
    have HO := Lib.hid hown
    clear hown hsl
    have hlt : (n : Int) < (len : Int) := by omega
    go_enter Tryz.func112, Tryz.ntmps112
    go_wp2_with (go_at_call 96; refine HS.out.mono ?_; rintro e w1 ⟨g, hg, rfl, hb, hw⟩; rw [HSL.out])
    go_ret
    refine ⟨some ⟨g, 0, none⟩, n, by rw [HSL.out]; rfl, by rw [HSL.out]; exact own_of_blk hb (by rw [cellsOf_length]; exact HSL.out) (by omega) (by unfold maxLen; omega), Chg.of_below hw (Nat.le_refl _) _, .inr ⟨g, rfl, hg⟩⟩
  · subst h
    have hr := run_append_zero0 (P := Tryz.prog) w base 29 3 29 5 i0 (.int .u8 0) .i64 .i64 Tryz.underlying29 Tryz.underlying3 hi hz0 (.slice A n cap) n 1 _ hown
    have HR := Lib.hid hr
    have hself : sizeL zs n = zs := by rw [← hlen]; exact sizeL_self zs
    have HSELF := Lib.hid hself
    have HSL := Lib.hid hsl
    have HO := Lib.hid hown
    have HL := Lib.hid hlen
    clear hr hself hown hsl hlen
    go_enter Tryz.func112, Tryz.ntmps112
    go_wp2_with (at_builtin; refine Lib.wpList_append_run _ rfl _ _ _ _ rfl _ _ rfl rfl _ _ HR.out ?_)
    go_ret
    refine ⟨A, cap, by rw [HSELF.out, HL.out]; rfl, by rw [HSELF.out, HL.out]; exact HO.out, Chg.refl _ _, by rw [HSL.out]; exact Moved.refl _ _⟩
  · obtain ⟨k, hk⟩ : ∃ k, k = n - len := ⟨_, rfl⟩
    obtain ⟨v2, w2, hr, hown2, hg2, hat2⟩ := run_append_zeros_own (P := Tryz.prog) w base 29 3 29 5 i0 (.int .u8 0) .i64 .i64 Tryz.underlying29 Tryz.underlying3 hi hz0 hz1 hz2 rfl rfl (.slice A len cap) len _ hown k (by omega) (by omega) hB
    have hki : (k : Int) = (n : Int) - (len : Int) := by omega
    rw [hki] at hr
    have hx : cellsOf .u8 (sizeL zs n) = cellsOf .u8 zs ++ List.replicate k (Value.int .u8 0) := by rw [sizeL_more (by omega), hlen, hk]
    rw [← hx, show len + k = n by omega] at hown2
    have HR := Lib.hid hr
    have HSL := Lib.hid hsl
    have HO := Lib.hid hown
    have hlt : ¬ (n : Int) < (len : Int) := by omega
    have HMV := Lib.hid (show Moved w (.slice A len cap) v2 by
      rcases hat2 with e | e
      · exact .inl e
      · exact .inr ⟨_, e, Nat.le_refl _⟩)
    obtain ⟨A2, c2, rfl, _, _⟩ := own_form hown2
    clear hr hx hown hsl hlen hki hk hat2
    go_enter Tryz.func112, Tryz.ntmps112
    go_wp2_with (at_builtin; refine Lib.wpList_append_run _ rfl _ _ _ _ rfl _ _ rfl rfl _ _ HR.out ?_)
    go_ret
    exact ⟨A2, c2, by rw [HSL.out]; rfl, by rw [HSL.out]; exact hown2, Chg.of_grown hg2, by rw [HSL.out]; exact HMV.out⟩

/-! ### a step -/
def stepA (b : Bool) (n : Int) : Array Value := ⟨.bool b :: .int .i64 n :: List.replicate 64 (.int .u8 0)⟩
theorem run_step1 (n : Int) (w : World) : (Instr.build 135 #[(1, .int .i64 n)]).run Tryz.prog w = .ok (.agg (stepA false n)) w := by kernel_rfl
theorem run_step2 (n : Int) (w : World) : (Instr.build 135 #[(0, .bool true), (1, .int .i64 n)]).run Tryz.prog w = .ok (.agg (stepA true n)) w := by kernel_rfl
theorem run_zeroS (w : World) : Sem.run Tryz.prog (zeroValue 135) w = .ok (.agg (stepA false 0)) w := by kernel_rfl
theorem stepInfo : (Tryz.prog.info? 135).map (fun i => (i.zero, i.size, i.bytes)) = some (some (.agg (stepA false 0)), 66, 80) := by kernel_rfl
theorem stepSize : (Tryz.prog.info? 135).map (·.size) = some 66 := by kernel_rfl
theorem stepA_toList (b : Bool) (n : Int) : (stepA b n).toList = .bool b :: .int .i64 n :: cellsOf .u8 (List.replicate 64 0) := by
  unfold stepA; simp [cellsOf]
theorem stepA_size (b : Bool) (n : Int) : (stepA b n).size = 66 := by simp [stepA]
theorem stepC_size (n : Nat) : stepC ⟨true, n, []⟩ = (stepA true n).toList := by rw [stepA_toList]; unfold stepC sizeL; simp
theorem stepC_sec (n : Nat) (zs : List Int) (h : zs.length = 64) : stepC ⟨false, n, zs⟩ = splice (stepA false n).toList 2 (cellsOf .u8 zs) := by
  have e : sizeL zs 64 = zs := by rw [← h]; exact sizeL_self zs
  rw [stepA_toList]
  unfold stepC splice
  rw [e, cellsOf_length, h]
  simp [cellsOf]

end Go.Proofs.YtclglbddibjenaaGreat

/-
  LAYER 6: WHAT resize DOES: its contract.
-/
set_option linter.unusedVariables false
set_option maxRecDepth 100000
set_option linter.unusedSimpArgs false
namespace Go.Proofs.YtclglbddibjenaaGreat
open Go.RowKit

/-- The program's file has turned: of the blocks that were there its own alone have. -/
def CFT (base : Nat) (S : Nat → Prop) (p : Nat) (s' : FS) (w w' : World) : Prop := Chg S w w' ∧ ∃ nv sv pv, CF w' base (grow S w w') p s' nv sv pv

theorem CFT.of {base p : Nat} {S S' : Nat → Prop} {s : FS} {w w' : World} {nv sv pv : Value} (hc : Chg S w w') (h : CF w' base S' p s nv sv pv) (hS : ∀ k, S' k → S k ∨ w.heap.size ≤ k) (hf : ∀ k, S k → base ≤ k ∧ k < w.heap.size) (hb : base ≤ w.heap.size) : CFT base S p s w w' :=
  ⟨hc, nv, sv, pv, h.mono (fun k hk => by
    have := (h.foot k hk).2
    rcases hS k hk with h1 | h1
    · exact .inl h1
    · exact .inr ⟨h1, this⟩) (chg_lt hf hc hb)⟩

theorem CFT.same {base p : Nat} {S : Nat → Prop} {s : FS} {w : World} {nv sv pv : Value} (h : CF w base S p s nv sv pv) : CFT base S p s w w := CFT.of (Chg.refl _ _) h (fun _ h => .inl h) h.foot h.bas

theorem stepA_one (b : Bool) (n : Int) : ∀ u ∈ (stepA b n).toList, u.oneCell' = true := fun u hu => by
  rw [stepA_toList] at hu
  rcases List.mem_cons.1 hu with rfl | hu
  · rfl
  rcases List.mem_cons.1 hu with rfl | hu
  · rfl
  exact cellsOf_one _ _ u hu

theorem run_slice66 (cs : Array Value) (hc : cs.size = 66) (w : World) : (Instr.buildSlice 120 1 #[(0, .agg cs)]).run Tryz.prog w = .ok (.slice (some ⟨w.heap.size, 0, none⟩) 1 1) (w.alloc (.cells cs 135)) := by
  obtain ⟨i0, hi, hz0, hz1, hz2⟩ := info_parts stepInfo
  exact run_slice1 _ _ i0 _ 66 Tryz.underlying120 hi hz0 hz1 (by show (stepA false 0).size = 66; exact stepA_size _ _) (by omega) (by omega) cs hc w

section
variable {w w1 w2 w4 : World} {base p : Nat} {S S2 : Nat → Prop} {s : FS} {nv sv pv v' : Value}

/-- The cells of a file behind a call that has made its bytes anew. -/
theorem CF.cells (h : CF w base S p s nv sv pv) (hc : Chg (fun k => nv.ownBlock = some k) w w1) : w1.cell? ⟨p, 0, none⟩ = some nv ∧ w1.cell? ⟨p, 2, none⟩ = some pv ∧ w1.frozen? ⟨p, 0, none⟩ = false ∧ w1.frozen? ⟨p, 2, none⟩ = false := by
  have hb : Blk w1 p 122 #[nv, sv, pv] := h.blk.chg hc (fun e => h.pn e)
  exact ⟨hb.cell 0, hb.cell 2, hb.frozen 0, hb.frozen 2⟩
theorem CF.pcells (h : CF w base S p s nv sv pv) {o : Obj} (hg : (w.alloc o).grownBy w1 pv.ownBlock) : w1.cell? ⟨p, 2, none⟩ = some pv ∧ w1.frozen? ⟨p, 2, none⟩ = false := by
  have hb : Blk w1 p 122 #[nv, sv, pv] := (h.blk.alloc o).chg (Chg.of_grown hg) (fun e => h.pp e)
  exact ⟨hb.cell 2, hb.frozen 2⟩

theorem CF.pend_ (h : CF w base S p s nv sv pv) {q : Nat} (hq : q = s.ops.length) : w.ownsRow base 135 66 pv q (stepsC s.ops) := hq ▸ h.pend

theorem CF.pushed (h : CF w2 base S2 p s nv sv pv) {o : Obj} {op : OpV} {q : Nat} (hq : q = s.ops.length) (hg : (w2.alloc o).grownBy w4 pv.ownBlock) (hown : w4.ownsRow base 135 66 v' (q + 1) (stepsC s.ops ++ stepC op)) (hat : v'.ownBlock = pv.ownBlock ∨ v'.ownBlock = some (w2.alloc o).heap.size) :
    Chg S2 w2 (w4.setCell ⟨p, 2, none⟩ v') ∧ CF (w4.setCell ⟨p, 2, none⟩ v') base (grow S2 w2 w4) p ⟨s.now, s.safe, s.ops ++ [op]⟩ nv sv v' := by
  have hc : Chg (fun k => pv.ownBlock = some k) w2 w4 := ((Chg.refl (fun k => pv.ownBlock = some k) w2).alloc o).trans (Chg.of_grown hg) (fun _ _ e => e)
  subst hq
  refine ⟨(hc.mono (fun k _ e => h.ino k e)).setCell (.inr h.inp) _, h.push hown hc ?_⟩
  rcases hat with e | e
  · exact .inl e
  · exact .inr ⟨_, e, by simp⟩

theorem CFT.step {s' : FS} {w5 : World} {nv' sv' pv' : Value} (h : CF w base S p s nv sv pv) (hc1 : Chg S w w2) (hg : ∀ k, S2 k → S k ∨ w.heap.size ≤ k) (hc2 : Chg S2 w2 w5) (h5 : CF w5 base (grow S2 w2 w4) p s' nv' sv' pv') : CFT base S p s' w w5 :=
  CFT.of (hc1.trans hc2 (fun k hk hs => by
    rcases hg k hs with h | h
    · exact h
    · omega)) h5 (fun k hk => by
    have := hc1.size
    rcases hk with h | ⟨h, _⟩
    · exact hg k h
    · exact .inr (by omega)) h.foot h.bas

theorem CF.renowed (h : CF w base S p s nv sv pv) {zs : List Int} (hown : w1.ownsRow base 5 1 v' zs.length (cellsOf .u8 zs)) (hc : Chg (fun k => nv.ownBlock = some k) w w1) : Chg S w (w1.setCell ⟨p, 0, none⟩ v') :=
  (hc.mono (fun k _ e => h.inn k e)).setCell (.inr h.inp) _
end

set_option maxHeartbeats 1000000 in
theorem resize_any (p n : Nat) (base : Nat) (S : Nat → Prop) (s : FS) (nv sv pv : Value) (w : World) (h : CF w base S p s nv sv pv) (hn : n ≤ 1048576) (hl : s.now.length ≤ 1048576) (ho : s.ops.length ≤ 1000000) :
    Calls Tryz.prog 101 #[.pointer (some ⟨p, 0, none⟩), .int .i64 n] w fun e w' => e = .returned (.tuple #[]) ∧ CFT base S p (s.trunc n) w w' := by
  obtain ⟨A, c, rfl, hc1, hc2⟩ := own_form h.now
  obtain ⟨Ap, cp, rfl, hp1, hp2⟩ := own_form h.pend
  have c0 := h.blk.cell 0
  simp at c0
  by_cases hne : n = s.now.length
  · have ht : s.trunc n = s := by unfold FS.trunc; rw [if_pos hne]
    rw [ht]
    have HC := Lib.hid (CFT.same h)
    obtain ⟨m, hm⟩ : ∃ m, m = s.now.length := ⟨_, rfl⟩
    rw [← hm] at c0 hne
    subst hne
    clear h ht hm
    go_enter Tryz.func101, Tryz.ntmps101
    go_wp2_with (go_at_call 45; refine (flen_any p n A c w c0).mono ?_; rintro e w1 ⟨rfl, rfl⟩)
    refine bodyPost_ret (results_none rfl _ _ _) rfl ?_
    exact ⟨rfl, HC.out⟩
  · obtain ⟨i0, hi, hz0, hz1, hz2⟩ := info_parts stepInfo
    have ht : s.trunc n = ⟨sizeL s.now n, s.safe, s.ops ++ [⟨true, n, []⟩]⟩ := by unfold FS.trunc; rw [if_neg hne]
    rw [ht]
    have hRS := resized_any A s.now.length c n s.now base w h.now h.bas (by omega) (by omega)
    unfold Reown at hRS
    rw [sizeL_length] at hRS
    have RS := Lib.hid hRS
    have hneI : ((n : Int) == ((s.now.length : Nat) : Int)) = false := by simp; omega
    have H := Lib.hid h
    have s2 : s.ops.length + 1 ≤ maxLen := by unfold maxLen; omega
    have s3 : (s.ops.length + 1) * 80 ≤ 140737488355328 := by omega
    obtain ⟨m, hm⟩ : ∃ m, m = s.now.length := ⟨_, rfl⟩
    obtain ⟨q, hq⟩ : ∃ q, q = s.ops.length := ⟨_, rfl⟩
    rw [← hm] at c0 hneI RS H
    rw [← hq] at s2 s3 H ho
    have HM := Lib.hid hm
    have HQ := Lib.hid hq
    clear h ht hRS hne hl hc1 hp1 hm hq
    go_enter Tryz.func101, Tryz.ntmps101
    go_wp2_with (first
      | (go_at_call 45; refine (flen_any p m A c w c0).mono ?_; rintro e w1 ⟨rfl, rfl⟩)
      | (go_at_call 112; refine RS.out.mono ?_; rintro e w1 ⟨A1, c1, rfl, hown1, hch1, hm1⟩; obtain ⟨d0, d2, f0, f2⟩ := H.out.cells hch1; have H1 := Lib.hid (H.out.setNow (by rw [sizeL_length]; exact hown1) hch1 hm1))
      | (show wpList _ _ _ (Oper.mk _ (.build 135 _) _ _ _ _ :: _) _ _; go_loud (refine wpList_build_run rfl _ _ rfl _ _ _ (run_step2 n _) (by kernel_rfl) ?_))
      | (show wpList _ _ _ (Oper.mk _ (.buildSlice 120 1 _) _ _ _ _ :: _) _ _; go_loud (refine wpList_slice_run rfl _ _ _ rfl _ _ _ (run_slice66 (stepA true n) (stepA_size _ _) _) (by kernel_rfl) ?_))
      | (at_builtin; go_loud (refine wpList_append_any _ rfl _ _ _ rfl base 135 i0 _ 66 80 Tryz.underlying120 hi hz0 hz1 hz2 (stepA_size false 0) (Nat.zero_lt_succ 65) (.slice Ap q cp) q (stepsC s.ops) rfl ((H1.out.pend_ HQ.out).alloc _) _ _ 1 1 (stepA true n).toList rfl (new66 _ _ _ 66 (stepA_size _ _)) (stepA_one _ _) s2 s3 (by have := H1.out.bas; simp at this ⊢; omega) ?_; intro v4 w4 hown4 hg4 hat4; obtain ⟨A4, c4, rfl, -, -⟩ := own_form hown4; obtain ⟨g2, gf2⟩ := H1.out.pcells hg4; have HP := Lib.hid (H1.out.pushed (op := ⟨true, n, []⟩) HQ.out hg4 (by rw [stepC_size]; exact hown4) (by simpa using hat4)); have HC1 := Lib.hid (H.out.renowed (zs := sizeL s.now n) (by rw [sizeL_length]; exact hown1) hch1); clear hown4 hg4 hat4 hown1 hch1 hm1)))
    go_end0
    exact ⟨rfl, CFT.step H.out HC1.out (fun k hk => hk.imp id (fun x => x.1)) HP.out.1 HP.out.2⟩

end Go.Proofs.YtclglbddibjenaaGreat

/-
  LAYER 6: WHAT touched DOES: its contract.
-/
set_option linter.unusedVariables false
set_option maxRecDepth 100000
set_option linter.unusedSimpArgs false
namespace Go.Proofs.YtclglbddibjenaaGreat
open Go.RowKit

theorem splice_whole (l cs : List Value) (h : cs.length = l.length) : splice l 0 cs = cs := by unfold splice; simp [h]
theorem stepA_len (b : Bool) (n : Int) : (stepA b n).toList.length = 66 := by rw [Array.length_toList]; exact stepA_size _ _

/-- A block that has come, and has turned alone. -/
theorem new_turned {w w1 : World} {o : Obj} (hc : Chg (fun k => k = w.heap.size) (w.alloc o) w1) : Below w.heap.size w w1 :=
  ((Below.refl _ _).alloc (Nat.le_refl _) _).trans (hc.below (by simp) (fun k _ e => by omega))

theorem CF.nowR {w : World} {base p m c : Nat} {S : Nat → Prop} {s : FS} {A : Option Addr} {sv pv : Value} (h : CF w base S p s (.slice A m c) sv pv) (hm : m = s.now.length) : Reads w w.heap.size 1 A m (cellsOf .u8 s.now) ∧ m ≤ c ∧ c ≤ 9223372036854775807 := by
  subst hm
  obtain ⟨A', c', e, h1, h2⟩ := own_form h.now
  injection e with e1 _ e3
  subst e1; subst e3
  exact ⟨Reads.of_own h.now, h1, by unfold maxLen at h2; omega⟩
theorem CF.safeR {w : World} {base p m c : Nat} {S : Nat → Prop} {s : FS} {A : Option Addr} {nv pv : Value} (h : CF w base S p s nv (.slice A m c) pv) (hm : m = s.safe.length) : Reads w w.heap.size 1 A m (cellsOf .u8 s.safe) ∧ m ≤ c ∧ c ≤ 9223372036854775807 := by
  subst hm
  obtain ⟨A', c', e, h1, h2⟩ := own_form h.safe
  injection e with e1 _ e3
  subst e1; subst e3
  exact ⟨Reads.of_own h.safe, h1, by unfold maxLen at h2; omega⟩

set_option maxHeartbeats 1000000 in
theorem touched_any (p n : Nat) (base : Nat) (S : Nat → Prop) (s : FS) (nv sv pv : Value) (w : World) (h : CF w base S p s nv sv pv) (hn : n ≤ 1048576) (hl : s.now.length ≤ 1048576) (ho : s.ops.length ≤ 1000000) :
    Calls Tryz.prog 103 #[.pointer (some ⟨p, 0, none⟩), .int .i64 n] w fun e w' => e = .returned (.tuple #[]) ∧ CFT base S p ⟨s.now, s.safe, s.ops ++ [⟨false, n, secL s.now n⟩]⟩ w w' := by
  obtain ⟨A, c, rfl, hc1, hc2⟩ := own_form h.now
  obtain ⟨Ap, cp, rfl, hp1, hp2⟩ := own_form h.pend
  obtain ⟨i0, hi, hz0, hz1, hz2⟩ := info_parts stepInfo
  have s2 : s.ops.length + 1 ≤ maxLen := by unfold maxLen; omega
  have s3 : (s.ops.length + 1) * 80 ≤ 140737488355328 := by omega
  obtain ⟨m, hm⟩ : ∃ m, m = s.now.length := ⟨_, rfl⟩
  obtain ⟨q, hq⟩ : ∃ q, q = s.ops.length := ⟨_, rfl⟩
  rw [← hm] at hl
  rw [← hm, ← hq] at h
  rw [← hq] at s2 s3
  have H := Lib.hid h
  have HM := Lib.hid hm
  have HQ := Lib.hid hq
  clear h hc1 hp1 hm hq ho
  go_enter Tryz.func103, Tryz.ntmps103
  go_wp2_with (first
    | (show wpList _ _ _ (Oper.mk _ (.build 135 _) _ _ _ _ :: _) _ _; refine wpList_build_run rfl _ _ rfl _ _ _ (run_step1 n _) (by kernel_rfl) ?_)
    | (show wpList _ _ _ (Oper.mk none (.store 135 (.tmp 4) (.tmp 6)) _ _ _ _ :: _) _ _; (first | rw [show Tryz.zeroCells135 = stepA false 0 by kernel_rfl] | skip); go_loud (refine wpList_store_blk (op := ⟨none, .store 135 (.tmp 4) (.tmp 6), _, _, _, _⟩) rfl 135 _ _ rfl w.heap.size 0 rfl (stepA false n).toList rfl (stepA false 0).toList 135 (Blk.new w _ _) stepSize (by simp [stepA_size]) (stepA_one _ _) ?_ rfl; intro w1 hb1 hc1)))
  first
    | (rw [run_zeroS]; go_wp2_with (show wpList _ _ _ (Oper.mk none (.store 135 (.tmp 4) (.tmp 6)) _ _ _ _ :: _) _ _; (first | rw [show Tryz.zeroCells135 = stepA false 0 by kernel_rfl] | skip); go_loud (refine wpList_store_blk (op := ⟨none, .store 135 (.tmp 4) (.tmp 6), _, _, _, _⟩) rfl 135 _ _ rfl w.heap.size 0 rfl (stepA false n).toList rfl (stepA false 0).toList 135 (Blk.new w _ _) stepSize (by simp [stepA_size]) (stepA_one _ _) ?_ rfl; intro w1 hb1 hc1)))
    | skip
  have hb2 : Blk w1 w.heap.size 135 (stepA false n).toList.toArray := by
    have := hb1.out
    rwa [splice_whole _ _ (by rw [stepA_len, stepA_len])] at this
  have hw1 := new_turned hc1
  have H1 := Lib.hid (H.out.below hw1)
  have c0 := H1.out.blk.cell 0
  simp at c0
  have AT := Lib.hid (at_any A m c n s.now w1.heap.size w1.drew (H1.out.nowR HM.out).1.drew (Nat.le_refl _) (H1.out.nowR HM.out).2.1 (H1.out.nowR HM.out).2.2 (by omega))
  clear hb1 hc1
  have HNL := Lib.hid (show (cellsOf .u8 (secL s.now n)).length = 64 by rw [cellsOf_length, secL_length])
  have HB2 := Lib.hid hb2
  have hf2 : 2 + 64 ≤ (stepA false n).toList.length := by rw [stepA_len]; decide
  clear hb2
  go_region_law ((first
    | (go_simp; go_at_call 116; refine AT.out.mono ?_; rintro e w2 ⟨gd, hgd, rfl, hbd, hw2⟩; rw [secL_length]; have hb3 := HB2.out.drew.below hw2 HB2.out.lt)
    | (go_loud (refine step_copy_blk rfl _ _ _ _ rfl 5 Tryz.underlying29 byteOne _ _ _ _ _ _ rfl rfl w.heap.size 2 64 (stepA false n).toList 135 hb3 (cellsOf .u8 (secL s.now n)) HNL.out rfl (fun _ => ⟨rfl, _, rfl, fun j v hj => by rw [row_addC, hbd.cell, Nat.zero_add, List.getElem?_toArray]; exact hj⟩) hf2 (cellsOf_one _ _) ?_; intro w3 HG3 hc3))))
  obtain ⟨cs, hcs⟩ : ∃ cs, cs = (stepC ⟨false, n, secL s.now n⟩).toArray := ⟨_, rfl⟩
  have hb4 : Blk w3 w.heap.size 135 cs := by rw [hcs, stepC_sec _ _ (secL_length _ _)]; exact HG3.out
  have hw3 : Below w.heap.size w w3 := chg_below2 (hw1.trans ((below_drew0 (w := w1) hw2).mono hw1.size)) hc3 (Nat.le_refl _) (Nat.le_trans hw1.size hw2.size)
  have hcz : cs.size = 66 := by rw [hcs, List.size_toArray, stepC_length]
  have hc1 : ∀ u ∈ cs.toList, u.oneCell' = true := by rw [hcs]; exact stepC_oneCell _
  have H3 := Lib.hid (H.out.below hw3)
  have HCS := Lib.hid hcs
  have HB4 := Lib.hid hb4
  have d2 := H3.out.blk.cell 2
  have f2 := H3.out.blk.frozen 2
  simp at d2
  clear HG3 hc3 hb3 hbd hw2 HB2 HNL AT c0 H1 hcs hb4
  go_wp2
  refine wp_region_any (by kernel_rfl) ?_
  change wpAny _ _ _ _ _ _ _ (World.drew _)
  refine take_yes (i := 0) (v := ?_) rfl (by kernel_rfl) (by kernel_rfl) (by kernel_rfl) (fun _ _ _ h => h) (by kernel_rfl) ?_ ?_
  rotate_left
  · intro wz; go_simp; try with_reducible rfl
  simp only [Act.put, List.setIfInBounds_toArray, List.set_cons_zero, List.set_cons_succ]
  refine take_yes (i := 1) (v := ?_) rfl (by kernel_rfl) (by kernel_rfl) (by kernel_rfl) (fun _ _ _ h => h) (by kernel_rfl) ?_ ?_
  rotate_left
  · intro wz; go_simp; try with_reducible rfl
  simp only [Act.put, List.setIfInBounds_toArray, List.set_cons_zero, List.set_cons_succ]
  refine take_yes (i := 2) (v := ?_) rfl (by kernel_rfl) (by kernel_rfl) (by kernel_rfl) (fun _ _ _ h => h) (by kernel_rfl) ?_ ?_
  rotate_left
  · intro wz; go_simp; try with_reducible rfl
  simp only [Act.put, List.setIfInBounds_toArray, List.set_cons_zero, List.set_cons_succ]
  refine take_yes (i := 3) (v := ?_) rfl (by kernel_rfl) (by kernel_rfl) (by kernel_rfl) (fun _ _ _ h => h) (by kernel_rfl) ?_ ?_
  rotate_left
  · intro wz; go_simp; try with_reducible rfl
  simp only [Act.put, List.setIfInBounds_toArray, List.set_cons_zero, List.set_cons_succ]
  refine wpAny_ready (rs := [4, 5]) (by kernel_rfl) (by simp) (AllReady.cons rfl (fun K hK => ?_) (AllReady.cons rfl (fun K hK => ?_) AllReady.nil))
  · go_simp
    refine hK _ _ ?_
    clear hK K
    refine wpAny_ready (rs := [5]) (by kernel_rfl) (by simp) (AllReady.cons rfl (fun K hK => ?_) AllReady.nil)
    refine step_load_row rfl _ _ rfl w.heap.size rfl 135 cs _ HB4.out.drew Tryz.underlying135 rfl (by rw [hcz]; exact stepSize) ?_
    refine hK _ _ ?_
    clear hK K
    refine wpAny_ready (rs := [6]) (by kernel_rfl) (by simp) (AllReady.cons rfl (fun K hK => ?_) AllReady.nil)
    refine step_slice_run rfl _ _ _ rfl _ _ _ (run_slice66 cs hcz _) (by kernel_rfl) ?_
    refine hK _ _ ?_
    clear hK K
    refine wpAny_ready (rs := [7]) (by kernel_rfl) (by simp) (AllReady.cons rfl (fun K hK => ?_) AllReady.nil)
    refine step_append_any _ rfl _ _ _ rfl base 135 i0 _ 66 80 Tryz.underlying120 hi hz0 hz1 hz2 (stepA_size false 0) (Nat.zero_lt_succ 65) (.slice Ap q cp) q (stepsC s.ops) rfl ((H3.out.drew.pend_ HQ.out).alloc _) _ _ 1 1 cs.toList rfl (new66 _ _ _ 66 hcz) hc1 s2 s3 (by have := H3.out.bas; simp at this ⊢; omega) ?_
    intro v4 w4 hown4 hg4 hat4
    obtain ⟨A4, c4, rfl, -, -⟩ := own_form hown4
    obtain ⟨g2, gf2⟩ := H3.out.drew.pcells hg4
    have HP := Lib.hid (H3.out.drew.pushed (op := ⟨false, n, secL s.now n⟩) HQ.out hg4 (by rw [show stepC ⟨false, n, secL s.now n⟩ = cs.toList by rw [HCS.out]]; exact hown4) hat4)
    clear hown4 hg4 hat4
    refine hK _ _ ?_
    clear hK K
    refine take_yes (i := 8) (v := ?_) rfl (by kernel_rfl) (by kernel_rfl) (by kernel_rfl) (fun _ _ _ h => h) (by kernel_rfl) ?_ ?_
    rotate_left
    · intro wz; go_simp; try with_reducible rfl
    simp only [Act.put, List.setIfInBounds_toArray, List.set_cons_zero, List.set_cons_succ]
    refine take_yes (i := 9) (v := ?_) rfl (by kernel_rfl) (by kernel_rfl) (by kernel_rfl) (fun _ _ _ h => h) (by kernel_rfl) ?_ ?_
    rotate_left
    · intro wz; go_simp; try with_reducible rfl
    simp only [Act.put, List.setIfInBounds_toArray, List.set_cons_zero, List.set_cons_succ]
    refine wpAny_ready (rs := [10]) (by kernel_rfl) (by simp) (AllReady.cons rfl (fun K hK => ?_) AllReady.nil)
    go_simp
    refine hK _ _ ?_
    clear hK K
    refine wpAny_done (by kernel_rfl) ?_ _
    go_wp2
    go_end0
    exact ⟨rfl, CFT.step H.out (Chg.of_below hw3 (Nat.le_refl _) S).drew (fun k hk => .inl hk) HP.out.1 HP.out.2⟩
  · refine step_load_row rfl _ _ rfl w.heap.size rfl 135 cs _ HB4.out.drew Tryz.underlying135 rfl (by rw [hcz]; exact stepSize) ?_
    refine hK _ _ ?_
    clear hK K
    refine wpAny_ready (rs := [4, 6]) (by kernel_rfl) (by simp) (AllReady.cons rfl (fun K hK => ?_) (AllReady.cons rfl (fun K hK => ?_) AllReady.nil))
    · go_simp
      refine hK _ _ ?_
      clear hK K
      refine wpAny_ready (rs := [6]) (by kernel_rfl) (by simp) (AllReady.cons rfl (fun K hK => ?_) AllReady.nil)
      refine step_slice_run rfl _ _ _ rfl _ _ _ (run_slice66 cs hcz _) (by kernel_rfl) ?_
      refine hK _ _ ?_
      clear hK K
      refine wpAny_ready (rs := [7]) (by kernel_rfl) (by simp) (AllReady.cons rfl (fun K hK => ?_) AllReady.nil)
      refine step_append_any _ rfl _ _ _ rfl base 135 i0 _ 66 80 Tryz.underlying120 hi hz0 hz1 hz2 (stepA_size false 0) (Nat.zero_lt_succ 65) (.slice Ap q cp) q (stepsC s.ops) rfl ((H3.out.drew.pend_ HQ.out).alloc _) _ _ 1 1 cs.toList rfl (new66 _ _ _ 66 hcz) hc1 s2 s3 (by have := H3.out.bas; simp at this ⊢; omega) ?_
      intro v4 w4 hown4 hg4 hat4
      obtain ⟨A4, c4, rfl, -, -⟩ := own_form hown4
      obtain ⟨g2, gf2⟩ := H3.out.drew.pcells hg4
      have HP := Lib.hid (H3.out.drew.pushed (op := ⟨false, n, secL s.now n⟩) HQ.out hg4 (by rw [show stepC ⟨false, n, secL s.now n⟩ = cs.toList by rw [HCS.out]]; exact hown4) hat4)
      clear hown4 hg4 hat4
      refine hK _ _ ?_
      clear hK K
      refine take_yes (i := 8) (v := ?_) rfl (by kernel_rfl) (by kernel_rfl) (by kernel_rfl) (fun _ _ _ h => h) (by kernel_rfl) ?_ ?_
      rotate_left
      · intro wz; go_simp; try with_reducible rfl
      simp only [Act.put, List.setIfInBounds_toArray, List.set_cons_zero, List.set_cons_succ]
      refine take_yes (i := 9) (v := ?_) rfl (by kernel_rfl) (by kernel_rfl) (by kernel_rfl) (fun _ _ _ h => h) (by kernel_rfl) ?_ ?_
      rotate_left
      · intro wz; go_simp; try with_reducible rfl
      simp only [Act.put, List.setIfInBounds_toArray, List.set_cons_zero, List.set_cons_succ]
      refine wpAny_ready (rs := [10]) (by kernel_rfl) (by simp) (AllReady.cons rfl (fun K hK => ?_) AllReady.nil)
      go_simp
      refine hK _ _ ?_
      clear hK K
      refine wpAny_done (by kernel_rfl) ?_ _
      go_wp2
      go_end0
      exact ⟨rfl, CFT.step H.out (Chg.of_below hw3 (Nat.le_refl _) S).drew (fun k hk => .inl hk) HP.out.1 HP.out.2⟩
    · have d2' := (H3.out.blk.alloc (.cells cs 135)).cell 2
      simp at d2'
      refine step_slice_run rfl _ _ _ rfl _ _ _ (run_slice66 cs hcz _) (by kernel_rfl) ?_
      refine hK _ _ ?_
      clear hK K
      refine wpAny_ready (rs := [4]) (by kernel_rfl) (by simp) (AllReady.cons rfl (fun K hK => ?_) AllReady.nil)
      go_simp
      refine hK _ _ ?_
      clear hK K
      refine wpAny_ready (rs := [7]) (by kernel_rfl) (by simp) (AllReady.cons rfl (fun K hK => ?_) AllReady.nil)
      refine step_append_any _ rfl _ _ _ rfl base 135 i0 _ 66 80 Tryz.underlying120 hi hz0 hz1 hz2 (stepA_size false 0) (Nat.zero_lt_succ 65) (.slice Ap q cp) q (stepsC s.ops) rfl ((H3.out.drew.pend_ HQ.out).alloc _) _ _ 1 1 cs.toList rfl (new66 _ _ _ 66 hcz) hc1 s2 s3 (by have := H3.out.bas; simp at this ⊢; omega) ?_
      intro v4 w4 hown4 hg4 hat4
      obtain ⟨A4, c4, rfl, -, -⟩ := own_form hown4
      obtain ⟨g2, gf2⟩ := H3.out.drew.pcells hg4
      have HP := Lib.hid (H3.out.drew.pushed (op := ⟨false, n, secL s.now n⟩) HQ.out hg4 (by rw [show stepC ⟨false, n, secL s.now n⟩ = cs.toList by rw [HCS.out]]; exact hown4) hat4)
      clear hown4 hg4 hat4
      refine hK _ _ ?_
      clear hK K
      refine take_yes (i := 8) (v := ?_) rfl (by kernel_rfl) (by kernel_rfl) (by kernel_rfl) (fun _ _ _ h => h) (by kernel_rfl) ?_ ?_
      rotate_left
      · intro wz; go_simp; try with_reducible rfl
      simp only [Act.put, List.setIfInBounds_toArray, List.set_cons_zero, List.set_cons_succ]
      refine take_yes (i := 9) (v := ?_) rfl (by kernel_rfl) (by kernel_rfl) (by kernel_rfl) (fun _ _ _ h => h) (by kernel_rfl) ?_ ?_
      rotate_left
      · intro wz; go_simp; try with_reducible rfl
      simp only [Act.put, List.setIfInBounds_toArray, List.set_cons_zero, List.set_cons_succ]
      refine wpAny_ready (rs := [10]) (by kernel_rfl) (by simp) (AllReady.cons rfl (fun K hK => ?_) AllReady.nil)
      go_simp
      refine hK _ _ ?_
      clear hK K
      refine wpAny_done (by kernel_rfl) ?_ _
      go_wp2
      go_end0
      exact ⟨rfl, CFT.step H.out (Chg.of_below hw3 (Nat.le_refl _) S).drew (fun k hk => .inl hk) HP.out.1 HP.out.2⟩

end Go.Proofs.YtclglbddibjenaaGreat

/-
  LAYER 6: WHAT Write AND Truncate DO: contracts.
-/
set_option linter.unusedVariables false
set_option maxRecDepth 100000
set_option linter.unusedSimpArgs false
namespace Go.Proofs.YtclglbddibjenaaGreat
open Go.RowKit

/-- The sectors of pieces, in blocks from lo on, up to hi. -/
structure PcS (w : World) (lo hi : Nat) (A : Option Addr) (S K : Nat) : Prop where
  at_ : ∀ j, j < K → ∃ (g : Nat) (u : Int) (A' : Option Addr) (n c : Nat), A = some ⟨g, 0, none⟩ ∧ lo ≤ g ∧ g < hi ∧ w.cell? ⟨g, j * 3, none⟩ = some (.int .i64 ((S + j : Nat) : Int)) ∧ w.cell? ⟨g, j * 3 + 1, none⟩ = some (.int .i64 u) ∧ w.cell? ⟨g, j * 3 + 2, none⟩ = some (.slice A' n c)
  le : hi ≤ w.heap.size

theorem GivesP.pcS {t : TypeId} {S f k : Nat} {bs : List Int} {w w' : World} {e : Ending} (h : GivesP t S f bs k w e w') : ∃ A c, e = .returned (.slice A k c) ∧ k ≤ c ∧ c ≤ maxLen ∧ PcS w' w.heap.size w'.heap.size A S k ∧ Below w.heap.size w w' := by
  obtain ⟨A, c, xs, rfl, hown, hp, hb⟩ := h
  obtain ⟨A1, c1, e1, h1, h2⟩ := own_form hown
  injection e1 with e1 _ e3
  subst e1; subst e3
  refine ⟨A, c, rfl, h1, h2, ⟨fun j hj => ?_, Nat.le_refl _⟩, hb⟩
  obtain ⟨g, c2, e4, hl0, hl⟩ := hown.form (by omega)
  injection e4 with e4 _ e5
  subst e4; subst e5
  obtain ⟨A', n, c', a1, a2, a3, a4, a5, a6⟩ := hp.at_ j hj
  exact ⟨g, _, A', n, c', rfl, hl0, hl, by rw [hown.cellAt _ (by omega), Int.natCast_add]; exact a1, by rw [hown.cellAt _ (by omega)]; exact a2, by rw [hown.cellAt _ (by omega)]; exact a3⟩
theorem PcS.chg {w w' : World} {lo hi S K : Nat} {A : Option Addr} {T : Nat → Prop} (h : PcS w lo hi A S K) (hc : Chg T w w') (hT : ∀ g, T g → g < lo ∨ hi ≤ g) : PcS w' lo hi A S K := by
  have hle := h.le
  refine ⟨fun j hj => ?_, Nat.le_trans hle hc.size⟩
  obtain ⟨g, u, A', n, c, h1, h2, h3, h4, h5, h6⟩ := h.at_ j hj
  have hg : ∀ o, w'.cell? ⟨g, o, none⟩ = w.cell? ⟨g, o, none⟩ := fun o => World.cell?_of_block (hc.block g (by omega) (fun ht => by have := hT g ht; omega))
  exact ⟨g, u, A', n, c, h1, h2, h3, (hg _).trans h4, (hg _).trans h5, (hg _).trans h6⟩

/-- A file as it is behind the first k sectors of a write. -/
def stW (s : FS) (L : List Int) (O W : List OpV) (k : Nat) : FS := ⟨L, s.safe, O ++ W.take k⟩

/-- At the head of each round. -/
structure WrAt (w wr : World) (base : Nat) (S : Nat → Prop) (p : Nat) (s : FS) (lo hi : Nat) (A : Option Addr) (Sa K k : Nat) (L : List Int) (O W : List OpV) : Prop where
  ex : ∃ Sk nv sv pv, CF wr base Sk p (stW s L O W k) nv sv pv ∧ (∀ j, Sk j → j < lo ∨ hi ≤ j) ∧ (∀ j, Sk j → S j ∨ w.heap.size ≤ j)
  pcs : PcS wr lo hi A Sa K
  chg : Chg S w wr

section
variable {w w1 w' : World} {base p g n c a : Nat} {S : Nat → Prop} {s : FS} {sv pv : Value} {cur : List Value} {bs : List Int}

/-- Bytes are written over bytes. -/
theorem CF.wrote (h : CF w base S p s (.slice (some ⟨g, 0, none⟩) n c) sv pv) (hn : n = s.now.length) (hl : cur.length = c * 1) (ht : cur.take (n * 1) = cellsOf .u8 s.now) (hx : a + bs.length ≤ n)
    (hb2 : Blk w' g 5 (splice cur a (cellsOf .u8 bs)).toArray) (hc : Chg (fun k => k = g) w w') : CF w' base S p ⟨wrL s.now a bs, s.safe, s.ops⟩ (.slice (some ⟨g, 0, none⟩) n c) sv pv := by
  subst hn
  obtain ⟨A', c', e, h1, h2⟩ := own_form h.now
  injection e with e1 _ e3
  subst e1; subst e3
  have hbg : base ≤ g := (h.now.lt g rfl).1
  have hwl : (wrL s.now a bs).length = s.now.length := wrL_length hx
  have hsp : (splice cur a (cellsOf .u8 bs)).take (s.now.length * 1) = cellsOf .u8 (wrL s.now a bs) := by
    have e0 : splice (cellsOf .u8 s.now) a (cellsOf .u8 bs) = cellsOf .u8 (wrL s.now a bs) := by unfold wrL splice; simp [cellsOf]
    rw [← e0, ← ht]
    unfold splice
    have q1 : (cellsOf .u8 bs).length = bs.length := cellsOf_length _ _
    simp only [Nat.mul_one] at *
    rw [List.take_take, Nat.min_eq_left (by omega), List.take_append, List.length_take, Nat.min_eq_left (by omega), List.take_of_length_le (by rw [List.length_take]; omega)]
    congr 1
    rw [List.take_append, q1, List.take_of_length_le (by omega)]
    congr 1
    rw [List.drop_take]
    congr 1
    omega
  refine ⟨fun k hk => by have := h.foot k hk; have := hc.size; omega, Nat.le_trans h.bas hc.size, h.inp, h.blk.chg hc (fun e => h.pn (by rw [e]; rfl)), ?_, own_chg h.safe hc (fun g' hg e => h.ne g' (by rw [e]; rfl) hg), own_chg h.pend hc (fun g' hg e => own_ne h.now h.pend (by decide) g' (by rw [e]; rfl) hg), h.inn, h.ins, h.ino, h.ne⟩
  show w'.ownsRow base 5 1 _ (wrL s.now a bs).length (cellsOf .u8 (wrL s.now a bs))
  rw [hwl]
  exact own_shut hbg hb2 h1 h2 (by rw [length_splice _ _ _ (by rw [cellsOf_length, hl]; omega)]; exact hl) hsp (by rw [cellsOf_length, hwl]; omega)
end

theorem trunc_max (s : FS) (M : Nat) : s.trunc (max s.now.length M) = ⟨growL s.now M, s.safe, s.ops ++ growO s.now M⟩ := by
  unfold FS.trunc growL growO
  by_cases h : s.now.length < M
  · rw [if_neg (by omega), if_pos h, if_pos h, Nat.max_eq_right (by omega)]
  · rw [if_pos (by omega), if_neg h, if_neg h, List.append_nil]
theorem growO_length (z : List Int) (M : Nat) : (growO z M).length ≤ 1 := by unfold growO; split <;> simp

theorem WrAt.next {w wr wr1 w' : World} {base p lo hi Sa K k : Nat} {S Sk : Nat → Prop} {s : FS} {A : Option Addr} {L : List Int} {O W : List OpV} {o : OpV} (H : WrAt w wr base S p s lo hi A Sa K k L O W) (hk : W[k]? = some o)
    (hlo : ∀ j, Sk j → j < lo ∨ hi ≤ j) (hgr : ∀ j, Sk j → S j ∨ w.heap.size ≤ j) (hb : Below wr.heap.size wr wr1) (h : CFT base Sk p ⟨L, s.safe, (O ++ W.take k) ++ [o]⟩ wr1 w') : WrAt w w' base S p s lo hi A Sa K (k + 1) L O W := by
  obtain ⟨hc, nv, sv, pv, hcf⟩ := h
  have hs1 := hb.size
  have hs2 := H.chg.size
  have hle := H.pcs.le
  have hW : W.take (k + 1) = W.take k ++ [o] := by
    obtain ⟨hlt, he⟩ := List.getElem?_eq_some_iff.1 hk
    rw [List.take_succ_eq_append_getElem hlt, he]
  have hc1 : Chg Sk wr w' := (Chg.of_below hb (Nat.le_refl _) Sk).trans hc (fun _ _ h => h)
  refine ⟨⟨_, nv, sv, pv, by unfold stW; rw [hW, ← List.append_assoc]; exact hcf, ?_, ?_⟩, H.pcs.chg hc1 hlo, H.chg.trans hc1 (fun j hj hs => ?_)⟩
  · intro j hj
    rcases hj with h | h
    · exact hlo j h
    · exact .inr (by omega)
  · intro j hj
    rcases hj with h | h
    · exact hgr j h
    · exact .inr (by omega)
  · rcases hgr j hs with h | h
    · exact h
    · omega

theorem WrAt.done_ {w wr : World} {base p lo hi Sa K : Nat} {S : Nat → Prop} {s : FS} {A : Option Addr} {L : List Int} {O W : List OpV} (H : WrAt w wr base S p s lo hi A Sa K K L O W) (hK : W.length = K) (hf : ∀ k, S k → base ≤ k ∧ k < w.heap.size) (hb : base ≤ w.heap.size) :
    CFT base S p ⟨L, s.safe, O ++ W⟩ w wr := by
  obtain ⟨Sk, nv, sv, pv, hcf, hlo, hgr⟩ := H.ex
  unfold stW at hcf
  rw [List.take_of_length_le (by omega)] at hcf
  exact CFT.of H.chg hcf hgr hf hb

end Go.Proofs.YtclglbddibjenaaGreat

/-
  LAYER 6: WHAT Truncate AND Write DO: contracts.
-/
set_option linter.unusedVariables false
set_option maxRecDepth 100000
set_option linter.unusedSimpArgs false
namespace Go.Proofs.YtclglbddibjenaaGreat
open Go.RowKit

theorem CF.openNow {w : World} {base p M : Nat} {S : Nat → Prop} {s : FS} {nv sv pv : Value} (h : CF w base S p s nv sv pv) (hM : s.now.length = M) (h0 : 0 < M) :
    ∃ (g c : Nat) (cur : List Value), nv = .slice (some ⟨g, 0, none⟩) M c ∧ S g ∧ Blk w g 5 cur.toArray ∧ M ≤ c ∧ c ≤ maxLen ∧ cur.length = c * 1 ∧ cur.take (M * 1) = cellsOf .u8 s.now ∧ w.cell? ⟨p, 0, none⟩ = some (.slice (some ⟨g, 0, none⟩) M c) := by
  subst hM
  obtain ⟨A, c, rfl, h1, h2⟩ := own_form h.now
  obtain ⟨g, cur, rfl, h3, h4, h5, h6, h7, h8⟩ := own_open h.now h0
  have c0 := h.blk.cell 0
  simp at c0
  exact ⟨g, c, cur, rfl, h.inn g rfl, h4, h5, h6, h7, h8, c0⟩
theorem chg_grow {w w1 w2 : World} {S T : Nat → Prop} (h1 : Chg S w w1) (h2 : Chg T w1 w2) (hT : ∀ k, T k → S k ∨ w.heap.size ≤ k) : Chg S w w2 := h1.trans h2 (fun k hk ht => by
  rcases hT k ht with h | h
  · exact h
  · omega)

theorem ftrunc_nil (n : Int) (w : World) : Calls Tryz.prog 68 #[.pointer none, .int .i64 n] w fun e w' => e = .returned (.int .i64 3) ∧ w = w' := by
  go_enter Tryz.func68, Tryz.ntmps68
  go_wp2
  go_ret
  exact ⟨rfl, rfl⟩
theorem fwrite_nil (a : Int) (v : Value) (w : World) : Calls Tryz.prog 67 #[.pointer none, .int .i64 a, v] w fun e w' => e = .returned (.int .i64 3) ∧ w = w' := by
  go_enter Tryz.func67, Tryz.ntmps67
  go_wp2
  go_ret
  exact ⟨rfl, rfl⟩

theorem ftrunc_any (p : Nat) (n : Int) (base : Nat) (S : Nat → Prop) (s : FS) (nv sv pv : Value) (w : World) (h : CF w base S p s nv sv pv) (h0 : -9223372036854775808 ≤ n) (h1 : n ≤ 9223372036854775807) (hl : s.now.length ≤ 1048576) (ho : s.ops.length ≤ 1000000) :
    Calls Tryz.prog 68 #[.pointer (some ⟨p, 0, none⟩), .int .i64 n] w fun e w' => e = .returned (.int .i64 (truncE n)) ∧ CFT base S p (s.truncI n) w w' := by
  have HC := Lib.hid (CFT.same h)
  by_cases hn : n < 0
  · have e1 : truncE n = 1 := by unfold truncE; rw [if_pos (.inl hn)]
    have e2 : s.truncI n = s := by unfold FS.truncI; rw [if_pos (.inl hn)]
    rw [e1, e2]
    clear h e1 e2
    go_enter Tryz.func68, Tryz.ntmps68
    go_wp2
    go_ret
    exact ⟨rfl, HC.out⟩
  · by_cases hm : 1048576 < n
    · have e1 : truncE n = 1 := by unfold truncE; rw [if_pos (.inr hm)]
      have e2 : s.truncI n = s := by unfold FS.truncI; rw [if_pos (.inr hm)]
      rw [e1, e2]
      clear h e1 e2
      go_enter Tryz.func68, Tryz.ntmps68
      go_wp2
      go_ret
      exact ⟨rfl, HC.out⟩
    · obtain ⟨k, rfl⟩ : ∃ k : Nat, n = k := ⟨n.toNat, by omega⟩
      have e1 : truncE k = 0 := by unfold truncE; rw [if_neg (by omega)]
      have e2 : s.truncI k = s.trunc k := by unfold FS.truncI; rw [if_neg (by omega)]; rfl
      rw [e1, e2]
      have RS := Lib.hid (resize_any p k base S s nv sv pv w h (by omega) hl ho)
      clear h e1 e2
      go_enter Tryz.func68, Tryz.ntmps68
      go_wp2_with (go_at_call 101; refine RS.out.mono ?_; rintro e w1 ⟨rfl, hx⟩; have HX := Lib.hid hx; clear hx)
      go_ret
      exact ⟨rfl, HX.out⟩

set_option maxHeartbeats 2000000 in
theorem fwrite_nat (p a : Nat) (Ab : Option Addr) (m cb : Nat) (bs : List Int) (B base : Nat) (S : Nat → Prop) (s : FS) (nv sv pv : Value) (w : World) (h : CF w base S p s nv sv pv) (hr : Reads w B 1 Ab m (cellsOf .u8 bs)) (hB : B ≤ w.heap.size) (hne : ∀ ad, Ab = some ad → ¬ S ad.block) (hmc : m ≤ cb) (hcb : cb ≤ 9223372036854775807)
    (hm0 : 0 < m) (ham : a + m ≤ 1048576) (hl : s.now.length ≤ 1048576) (ho : s.ops.length ≤ 900000) :
    Calls Tryz.prog 67 #[.pointer (some ⟨p, 0, none⟩), .int .i64 a, .slice Ab m cb] w fun e w' => e = .returned (.int .i64 0) ∧ CFT base S p (s.write a bs) w w' := by
  obtain ⟨A, c, rfl, hc1, hc2⟩ := own_form h.now
  have hbm := hr.len
  obtain ⟨L1, hL1⟩ : ∃ L1, L1 = growL s.now (a + m) := ⟨_, rfl⟩
  obtain ⟨O, hO⟩ : ∃ O, O = s.ops ++ growO s.now (a + m) := ⟨_, rfl⟩
  obtain ⟨L, hL⟩ : ∃ L, L = wrL L1 a bs := ⟨_, rfl⟩
  obtain ⟨W, hW⟩ : ∃ W, W = wrO a bs L := ⟨_, rfl⟩
  obtain ⟨M, hM⟩ : ∃ M, M = max s.now.length (a + m) := ⟨_, rfl⟩
  obtain ⟨K, hK⟩ : ∃ K, K = pcN (a % 64) m := ⟨_, rfl⟩
  obtain ⟨Sa, hSa⟩ : ∃ Sa, Sa = a / 64 := ⟨_, rfl⟩
  have hL1l : L1.length = M := by rw [hL1, growL_length, hM]
  have hLl : L.length = M := by rw [hL, wrL_length (by rw [hL1l, hbm]; omega), hL1l]
  have hWl : W.length = K := by rw [hW, wrO_length, hK, hbm]
  have hWk : ∀ k, k < K → W[k]? = some ⟨false, Sa + k, secL L ((Sa + k : Nat) : Int)⟩ := fun k hk => by
    rw [hW, hSa]; unfold wrO
    simp [hbm, ← hK, hk]
  have hst : s.write a bs = ⟨L, s.safe, O ++ W⟩ := by
    unfold FS.write
    rw [if_neg (by intro e; rw [e] at hbm; simp at hbm; omega), hbm, ← hL1, ← hL, ← hO, ← hW]
  rw [hst]
  have hK2 : K ≤ 16400 := by have := pcN_le (a % 64) m (by omega); omega
  have hOl : O.length ≤ 900001 := by rw [hO, List.length_append]; have := growO_length s.now (a + m); omega
  have RS := resize_any p M base S s _ sv pv w h (by omega) hl (by omega)
  rw [hM, trunc_max, ← hL1, ← hO, ← hM] at RS
  have c0 := h.blk.cell 0
  simp at c0
  obtain ⟨m0, hm0'⟩ : ∃ m0, m0 = s.now.length := ⟨_, rfl⟩
  rw [← hm0'] at c0 hM hl
  clear hm0'
  have HRB := Lib.hid (fun (w' : World) (hc : Chg S w w') => hr.chg hc hB (fun _ ad e hs => hne ad e hs))
  have PC := Lib.hid (fun (w2 : World) (hc : Chg S w w2) => by
    have := pieces_nat a Ab m cb bs B w2 (HRB.out w2 hc) (by have := hc.size; omega) hmc hcb (by omega) (by omega)
    rw [← hK, ← hSa] at this
    exact this)
  have n7 : (if (m0 : Int) < (a : Int) + (m : Int) then (a : Int) + (m : Int) else (m0 : Int)) = (M : Int) := by split <;> omega
  have HN := Lib.hid (show (cellsOf .u8 bs).length = m by rw [cellsOf_length, hbm])
  have HMN := Lib.hid (show m = Nat.min m (M - a) by show m = min m (M - a); omega)
  have HBA := Lib.hid (And.intro h.foot h.bas)
  have HL := Lib.hid hL
  have HL1 := Lib.hid hL1l
  have HWL := Lib.hid hWl
  have HWK := Lib.hid hWk
  have HRS := Lib.hid RS
  have HLL := Lib.hid hLl
  have aM : a < M := by omega
  have hSa6 : Sa ≤ 16384 := by omega
  have HMX := Lib.hid (show M ≤ 1048576 ∧ a + m ≤ M by omega)
  have HBM := Lib.hid hbm
  have x1 : ¬ (m : Int) = 0 := by omega
  have x2 : (a : Int) ≤ 1048576 - (m : Int) := by omega
  have x3 : (a : Int) ≤ (M : Int) := by omega
  clear hne hr hL hL1 hO hW hK hSa hM hst hWl hWk RS hLl hL1l hbm h
  go_enter Tryz.func67, Tryz.ntmps67
  go_wp2_with (first
    | (go_at_call 45; refine (flen_any p m0 _ c w c0).mono ?_; rintro e w1 ⟨rfl, rfl⟩)
    | (go_at_call 101; go_loud (refine HRS.out.mono ?_; rintro e w1 ⟨rfl, hch1, nv1, sv1, pv1, hcf1⟩; obtain ⟨g1, c1, cur1, rfl, hsg1, hbk1, hd1, hd2, hd3, hd4, d0⟩ := hcf1.openNow HL1.out (by omega); have ne1 : ¬ c1 = a := (by omega); have HCF1 := Lib.hid hcf1; have HCH1 := Lib.hid hch1; have HD3 := Lib.hid hd3; have HD4 := Lib.hid hd4; clear hcf1 hch1 hd3 hd4))
    | (show wpList _ _ _ (Oper.mk _ (.call { callee := .builtin .copy, args := _, argTypes := _ }) _ _ _ _ :: _) _ _; go_loud (refine wpList_copy_blk rfl (.tmp 37) (.tmp 38) _ _ rfl 5 Tryz.underlying29 byteOne _ _ _ _ _ _ rfl rfl g1 a m cur1 5 hbk1 (cellsOf .u8 bs) HN.out HMN.out (fun h0 => ⟨rfl, by obtain ⟨ad, e, _, hc⟩ := (HRB.out w1 HCH1.out).2 h0; exact ⟨ad, e, hc⟩⟩) (by have := HD3.out; omega) (cellsOf_one _ _) ?_; intro w2 HG2 hc2; have HCF2 := Lib.hid (HCF1.out.wrote (a := a) (bs := bs) HL1.out.symm HD3.out HD4.out (by have := HBM.out; omega) HG2.out hc2); have HCH2 := Lib.hid (chg_grow HCH1.out hc2 (fun k e => by subst e; rcases hsg1 with h | h; exact .inl h; exact .inr h.1)); clear HG2 hc2))
    | (go_at_call 102; go_loud (refine (PC.out w2 HCH2.out).mono ?_; rintro e w3 hg; obtain ⟨A3, c3, rfl, hc31, hc32, hp3, hb3⟩ := hg.pcS; clear hg)))
  have hw12 := HCH1.out.size
  have hw23 := hb3.size
  have H0 : WrAt w w3 base S p s w2.heap.size w3.heap.size A3 Sa K 0 L O W := by
    refine ⟨⟨_, _, _, _, by have := HCF2.out.below hb3; rw [← HL.out] at this; simpa [stW] using this, fun j hj => .inl (HCF2.out.foot j hj).2, fun j hj => hj.imp id (fun x => x.1)⟩, hp3, HCH2.out.trans (Chg.of_below hb3 (Nat.le_refl _) S) (fun _ _ h => h)⟩
  have HH0 := Lib.hid H0
  obtain ⟨lo, hlo⟩ : ∃ lo, lo = w2.heap.size := ⟨_, rfl⟩
  obtain ⟨hi, hhi⟩ : ∃ hi, hi = w3.heap.size := ⟨_, rfl⟩
  rw [← hlo, ← hhi] at HH0
  clear H0 hp3 hb3 HCF2 HCH2 HCF1 hlo hhi hbk1 d0 hsg1
  go_loopw [44] (fun i wr => ∃ k : Nat, k ≤ K ∧ i = .int .i64 k ∧ Hid (WrAt w wr base S p s lo hi A3 Sa K k L O W)) (fun i _ => K - (intOf i).toNat)
  case atStart => exact ⟨0, Nat.zero_le _, rfl, HH0⟩
  case round =>
    clear HH0
    obtain ⟨k, hk, rfl, H⟩ := hrel
    by_cases hlt : k < K
    · obtain ⟨Sk, nv, sv2, pv2, hcf, hlo, hgr⟩ := H.out.ex
      obtain ⟨g, u, A', n, c', rfl, hg1, hg2, y0, y1, y2⟩ := H.out.pcs.at_ k hlt
      obtain ⟨x, hx⟩ : ∃ x, x = Sa + k := ⟨_, rfl⟩
      rw [← hx] at y0
      have HW := Lib.hid (HWK.out k hlt)
      rw [← hx] at HW
      have hsz : (stW s L O W k).ops.length ≤ 1000000 := by unfold stW; simp only [List.length_append, List.length_take]; omega
      have HT := Lib.hid (fun (w1 : World) (hb : Below wr.heap.size wr w1) => touched_any p x base Sk (stW s L O W k) nv sv2 pv2 w1 (hcf.below hb) (by omega) (by show L.length ≤ _; rw [HLL.out]; exact HMX.out.1) hsz)
      have HLO := Lib.hid hlo
      have HGR := Lib.hid hgr
      have HX := Lib.hid hx
      clear hcf hlo hgr hx hsz
      go_wp2_with (go_at_call 103; go_loud (refine (HT.out _ ((Below.refl _ _).alloc (Nat.le_refl _) _)).mono ?_; rintro e w4 ⟨rfl, hft⟩; have HFT := Lib.hid hft; clear hft))
      go_roundw
      case rel => exact ⟨k + 1, by omega, by go_num, Lib.hid (H.out.next HW.out HLO.out HGR.out ((Below.refl _ _).alloc (Nat.le_refl _) _) HFT.out)⟩
      case measure => simp [intOf]; omega
    · obtain rfl : k = K := by omega
      go_wp2
      go_ret
      exact ⟨rfl, H.out.done_ HWL.out HBA.out.1 HBA.out.2⟩

end Go.Proofs.YtclglbddibjenaaGreat

/-
  LAYER 6: WHAT Write, Sync AND Read DO, AND slices.Clone OF STEPS: contracts.
-/
set_option linter.unusedVariables false
set_option maxRecDepth 100000
set_option linter.unusedSimpArgs false
namespace Go.Proofs.YtclglbddibjenaaGreat
open Go.RowKit

theorem fwrite_any (p : Nat) (a : Int) (Ab : Option Addr) (m cb : Nat) (bs : List Int) (B base : Nat) (S : Nat → Prop) (s : FS) (nv sv pv : Value) (w : World) (h : CF w base S p s nv sv pv) (hr : Reads w B 1 Ab m (cellsOf .u8 bs)) (hB : B ≤ w.heap.size) (hne : ∀ ad, Ab = some ad → ¬ S ad.block) (hmc : m ≤ cb) (hcb : cb ≤ 9223372036854775807)
    (h0 : -9223372036854775808 ≤ a) (h1 : a ≤ 9223372036854775807) (hm : m ≤ 4611686018427387904) (hl : s.now.length ≤ 1048576) (ho : s.ops.length ≤ 900000) :
    Calls Tryz.prog 67 #[.pointer (some ⟨p, 0, none⟩), .int .i64 a, .slice Ab m cb] w fun e w' => e = .returned (.int .i64 (writeE a m)) ∧ CFT base S p (s.writeI a bs) w w' := by
  have HC := Lib.hid (CFT.same h)
  have hbm := hr.len
  by_cases hn : a < 0
  · have e1 : writeE a m = 1 := by unfold writeE; rw [if_pos (.inl hn)]
    have e2 : s.writeI a bs = s := by unfold FS.writeI; rw [if_pos (.inl hn)]
    rw [e1, e2]
    clear h e1 e2 hr hbm
    go_enter Tryz.func67, Tryz.ntmps67
    go_wp2
    go_ret
    exact ⟨rfl, HC.out⟩
  · by_cases hx : 1048576 < a + m
    · have e1 : writeE a m = 1 := by unfold writeE; rw [if_pos (.inr hx)]
      have e2 : s.writeI a bs = s := by unfold FS.writeI; rw [if_pos (.inr (by omega))]
      rw [e1, e2]
      have x1 : 1048576 - (m : Int) < a := by omega
      clear h e1 e2 hr hbm
      go_enter Tryz.func67, Tryz.ntmps67
      go_wp2
      go_ret
      exact ⟨rfl, HC.out⟩
    · obtain ⟨k, rfl⟩ : ∃ k : Nat, a = k := ⟨a.toNat, by omega⟩
      have e1 : writeE k m = 0 := by unfold writeE; rw [if_neg (by omega)]
      have e2 : s.writeI k bs = s.write k bs := by unfold FS.writeI; rw [if_neg (by omega)]; rfl
      rw [e1, e2]
      by_cases hm0 : m = 0
      · have e3 : s.write k bs = s := by unfold FS.write; rw [if_pos (List.eq_nil_of_length_eq_zero (by omega))]
        rw [e3]
        subst hm0
        have x1 : ¬ 1048576 < (k : Int) := by omega
        clear h e1 e2 e3 hr hbm
        go_enter Tryz.func67, Tryz.ntmps67
        go_wp2
        go_ret
        exact ⟨rfl, HC.out⟩
      · exact fwrite_nat p k Ab m cb bs B base S s nv sv pv w h hr hB hne hmc hcb (by omega) (by omega) hl ho

theorem fsync_nil (w : World) : Calls Tryz.prog 49 #[.pointer none] w fun e w' => e = .returned (.tuple #[]) ∧ w = w' := by
  go_enter Tryz.func49, Tryz.ntmps49
  go_wp2
  refine bodyPost_ret (results_none rfl _ _ _) rfl ?_
  exact ⟨rfl, rfl⟩

theorem CF.blkB {w w1 : World} {base p : Nat} {S : Nat → Prop} {s : FS} {nv sv pv : Value} (h : CF w base S p s nv sv pv) (hb : Below w.heap.size w w1) : w1.cell? ⟨p, 0, none⟩ = some nv ∧ w1.cell? ⟨p, 1, none⟩ = some sv ∧ w1.cell? ⟨p, 2, none⟩ = some pv ∧ w1.frozen? ⟨p, 1, none⟩ = false ∧ w1.frozen? ⟨p, 2, none⟩ = false := by
  have hb : Blk w1 p 122 #[nv, sv, pv] := (h.below hb).blk
  exact ⟨hb.cell 0, hb.cell 1, hb.cell 2, hb.frozen 1, hb.frozen 2⟩

set_option maxHeartbeats 1000000 in
theorem fsync_any (p : Nat) (base : Nat) (S : Nat → Prop) (s : FS) (nv sv pv : Value) (w : World) (h : CF w base S p s nv sv pv) (hl : s.now.length ≤ 1048576) :
    Calls Tryz.prog 49 #[.pointer (some ⟨p, 0, none⟩)] w fun e w' => e = .returned (.tuple #[]) ∧ CFT base S p s.sync w w' := by
  obtain ⟨A, c, rfl, hc1, hc2⟩ := own_form h.now
  obtain ⟨d0, -⟩ := h.blkB (Below.refl _ _)
  obtain ⟨m, hm⟩ : ∃ m, m = s.now.length := ⟨_, rfl⟩
  rw [← hm] at d0 hl h
  have H := Lib.hid h
  have CL := Lib.hid (clone_any A m c s.now w.heap.size w (h.nowR hm).1 (Nat.le_refl _) (by omega))
  have HM := Lib.hid hm
  clear h hm hc1
  go_enter Tryz.func49, Tryz.ntmps49
  go_wp2_with (go_at_call 83; go_loud (refine CL.out.mono ?_; rintro e w1 ⟨A1, c1, rfl, hown1, hb1⟩; rw [← HM.out] at hown1 ⊢; obtain ⟨e0, e1, e2, f1, f2⟩ := H.out.blkB hb1; have HO := Lib.hid hown1; clear hown1))
  go_end0
  refine ⟨rfl, CFT.of ?_ (H.out.setSync (HM.out ▸ HO.out) hb1) (fun k hk => hk.imp id (fun x => x.1)) H.out.foot H.out.bas⟩
  exact ((Chg.of_below hb1 (Nat.le_refl _) S).setCell (.inr H.out.inp) _).setCell (.inr H.out.inp) _

theorem stepsC_one' (ops : List OpV) : ∀ u ∈ stepsC ops, u.oneCell' = true := fun u hu => by
  unfold stepsC at hu
  obtain ⟨l, hl, hu⟩ := List.mem_flatten.1 hu
  obtain ⟨o, _, rfl⟩ := List.mem_map.1 hl
  exact stepC_oneCell o u hu

end Go.Proofs.YtclglbddibjenaaGreat

/-
  LAYER 6: WHAT Read AND Copy DO: contracts.
-/
set_option linter.unusedVariables false
set_option maxRecDepth 100000
set_option linter.unusedSimpArgs false
namespace Go.Proofs.YtclglbddibjenaaGreat
open Go.RowKit

theorem fread_none {s : FS} {a n : Int} (h : a < 0 ∨ (s.now.length : Int) ≤ a ∨ n < 1) : s.read a n = [] := by
  unfold FS.read
  by_cases h0 : 0 ≤ a ∧ 0 < n
  · rw [if_pos h0, List.drop_of_length_le (by omega), List.take_nil]
  · rw [if_neg h0]
theorem Gives.none_ (w : World) : Gives [] w (.returned (.slice none 0 0)) w := ⟨none, 0, rfl, World.ownsRow_nil _ _ _ _, Below.refl _ _⟩

theorem fread_nil (a n : Int) (w : World) : Calls Tryz.prog 62 #[.pointer none, .int .i64 a, .int .i64 n] w fun e w' => e = .returned (.slice none 0 0) ∧ w = w' := by
  by_cases h : a < 0
  · go_enter Tryz.func62, Tryz.ntmps62
    go_wp2
    go_ret
    exact ⟨rfl, rfl⟩
  · have h1 : 0 ≤ a := by omega
    go_enter Tryz.func62, Tryz.ntmps62
    go_wp2_with (go_at_call 45; refine (flen_nil w).mono ?_; rintro e w1 ⟨rfl, rfl⟩)
    go_ret
    exact ⟨rfl, rfl⟩

set_option maxHeartbeats 1000000 in
theorem fread_any (p : Nat) (a n : Int) (base : Nat) (S : Nat → Prop) (s : FS) (nv sv pv : Value) (w : World) (h : CF w base S p s nv sv pv) (h0 : -9223372036854775808 ≤ a) (h1 : a ≤ 9223372036854775807) (h2 : -9223372036854775808 ≤ n) (h3 : n ≤ 9223372036854775807) (hl : s.now.length ≤ 1048576) :
    Calls Tryz.prog 62 #[.pointer (some ⟨p, 0, none⟩), .int .i64 a, .int .i64 n] w (Gives (s.read a n) w) := by
  obtain ⟨A, c, rfl, hc1, hc2⟩ := own_form h.now
  obtain ⟨d0, -⟩ := h.blkB (Below.refl _ _)
  have hE : Hid ((a < 0 ∨ (s.now.length : Int) ≤ a ∨ n < 1) → s.read a n = []) := Lib.hid fread_none
  have hR : Hid (∀ k : Nat, a = k → k < s.now.length → 0 < n → s.read a n = sizeL (s.now.drop k) (min n.toNat (s.now.length - k))) := Lib.hid fun k hk hlt hn => by
    unfold FS.read sizeL
    rw [if_pos ⟨by omega, hn⟩, hk, Int.toNat_natCast, List.length_drop, show min n.toNat (s.now.length - k) - (s.now.length - k) = 0 by omega]
    simp only [List.replicate_zero, List.append_nil]
    rcases Nat.le_total n.toNat (s.now.length - k) with hh | hh
    · rw [Nat.min_eq_left hh]
    · rw [Nat.min_eq_right hh, List.take_of_length_le (by rw [List.length_drop]; omega), List.take_of_length_le (by rw [List.length_drop]; omega)]
  obtain ⟨m, hm⟩ : ∃ m, m = s.now.length := ⟨_, rfl⟩
  rw [← hm] at d0 hl h hE hR hc1
  obtain ⟨r1, r2, r3⟩ := h.nowR hm
  clear h hm
  by_cases ha : a < 0
  · rw [hE.out (.inl ha)]
    go_enter Tryz.func62, Tryz.ntmps62
    go_wp2
    go_ret
    exact Gives.none_ w
  · by_cases hb : (m : Int) ≤ a
    · rw [hE.out (.inr (.inl hb))]
      clear r1
      go_enter Tryz.func62, Tryz.ntmps62
      go_wp2_with (go_at_call 45; refine (flen_any p m _ c w d0).mono ?_; rintro e w1 ⟨rfl, rfl⟩)
      go_ret
      exact Gives.none_ w
    · by_cases hn : n < 1
      · rw [hE.out (.inr (.inr hn))]
        clear r1
        go_enter Tryz.func62, Tryz.ntmps62
        go_wp2_with (go_at_call 45; refine (flen_any p m _ c w d0).mono ?_; rintro e w1 ⟨rfl, rfl⟩)
        go_ret
        exact Gives.none_ w
      · obtain ⟨k, rfl⟩ : ∃ k : Nat, a = k := ⟨a.toNat, by omega⟩
        rw [hR.out k rfl (by omega) (by omega)]
        obtain ⟨q, hq⟩ : ∃ q, q = min n.toNat (m - k) := ⟨_, rfl⟩
        rw [← hq]
        have hcut := r1.cut (k := k) (cap := c) (by omega) r2
        rw [if_neg (by omega), Nat.mul_one, cellsOf_drop] at hcut
        have SZ := Lib.hid (fun w1 (hb : Below w.heap.size w w1) => (size_any (A.map (·.add k)) (m - k) (c - k) q (s.now.drop k) w.heap.size w1 (hcut.below hb) hb.size (by omega) (by omega)).mono fun e w' hh => hh.gives (by rw [sizeL_length]; unfold maxLen; omega))
        have n7 : (if (m : Int) - (k : Int) < n then (m : Int) - (k : Int) else n) = (q : Int) := by split <;> omega
        have n2 : ¬ c = k := by omega
        have n3 : (k : Int) ≤ (m : Int) := by omega
        have n4 : ¬ (m : Int) ≤ (k : Int) := by omega
        have n5 : IntKind.i64.wrap ((m : Int) - (k : Int)) = (m : Int) - (k : Int) := by rw [IntKind.wrap_i64]; omega
        clear r1 hcut hq
        go_enter Tryz.func62, Tryz.ntmps62
        go_wp2_with (go_at_call 45; refine (flen_any p m _ c w d0).mono ?_; rintro e w1 ⟨rfl, rfl⟩)
        go_region_law ((first
          | (go_simp; go_at_call 45; refine (flen_any p m A c w.drew d0).mono ?_; rintro e w1 ⟨rfl, rfl⟩)
          | (go_simp; go_at_call 96; go_loud ((with_reducible refine (SZ.out w.drew (below_drewn (Below.refl _ _) 1)).mono ?_); rintro e w1 ⟨A1, c1, rfl, hown1, hb1⟩; have HO := Lib.hid (And.intro hown1 hb1); clear hown1 hb1))))
        all_goals
          go_wp2
          go_ret
          exact ⟨A1, c1, rfl, HO.out.1, below_drew0 (w := w) HO.out.2⟩

end Go.Proofs.YtclglbddibjenaaGreat

/-
  LAYER 6: WHAT Copy AND done DO: contracts.
-/
set_option linter.unusedVariables false
set_option maxRecDepth 100000
set_option linter.unusedSimpArgs false
namespace Go.Proofs.YtclglbddibjenaaGreat
open Go.RowKit

/-- A function has told a file of its own; what was there has not turned. -/
def CFnew (base : Nat) (s : FS) (w : World) (e : Ending) (w' : World) : Prop :=
  ∃ p nv sv pv, e = .returned (.pointer (some ⟨p, 0, none⟩)) ∧ Below w.heap.size w w' ∧ CF w' base (fun k => w.heap.size ≤ k ∧ k < w'.heap.size) p s nv sv pv

theorem CF.boxed {w0 w : World} {base : Nat} {s : FS} {nv sv pv : Value} (hw : w0.heap.size ≤ w.heap.size) (hb : base ≤ w0.heap.size) (hn : w.ownsRow w0.heap.size 5 1 nv s.now.length (cellsOf .u8 s.now)) (hs : w.ownsRow w0.heap.size 5 1 sv s.safe.length (cellsOf .u8 s.safe))
    (hp : w.ownsRow w0.heap.size 135 66 pv s.ops.length (stepsC s.ops)) (hne : ∀ g, nv.ownBlock = some g → sv.ownBlock ≠ some g) :
    CF (w.alloc (.cells #[nv, sv, pv] 122)) base (fun k => w0.heap.size ≤ k ∧ k < (w.alloc (.cells #[nv, sv, pv] 122)).heap.size) w.heap.size s nv sv pv := by
  have hsz : (w.alloc (.cells #[nv, sv, pv] 122)).heap.size = w.heap.size + 1 := by simp
  refine ⟨fun k hk => ⟨by omega, hk.2⟩, by rw [hsz]; omega, ⟨hw, by rw [hsz]; omega⟩, Blk.new _ _ _, own_base (hn.alloc _) hb, own_base (hs.alloc _) hb, own_base (hp.alloc _) hb, ?_, ?_, ?_, hne⟩
  · intro g hg; have := hn.lt g hg; rw [hsz]; omega
  · intro g hg; have := hs.lt g hg; rw [hsz]; omega
  · intro g hg; have := hp.lt g hg; rw [hsz]; omega

theorem CF.cells3 {w w1 : World} {base p : Nat} {S : Nat → Prop} {s : FS} {nv sv pv : Value} (h : CF w base S p s nv sv pv) (hb : Below w.heap.size w w1) : w1.cell? ⟨p, 0, none⟩ = some nv ∧ w1.cell? ⟨p, 1, none⟩ = some sv ∧ w1.cell? ⟨p, 2, none⟩ = some pv :=
  ⟨(h.blkB hb).1, (h.blkB hb).2.1, (h.blkB hb).2.2.1⟩

/-! ### done -/
theorem opDo_sec (z : List Int) (o : OpV) (h : o.sz = false) : opDo z o = setL z o.n o.data := by unfold opDo; rw [h]; rfl
theorem opDo_size' (z : List Int) (o : OpV) (h : o.sz = true) : opDo z o = sizeL z o.n := by unfold opDo; rw [h]; rfl
theorem hasL_natN {zs : List Int} {n : Nat} : hasL zs (n : Int) = decide (64 * n < zs.length) := by
  unfold hasL cntN
  by_cases h : 64 * n < zs.length
  · rw [decide_eq_true h]; simp; omega
  · rw [decide_eq_false h]; simp; omega

set_option maxHeartbeats 1000000 in
theorem done_any (g i : Nat) (o : OpV) (A : Option Addr) (len cap : Nat) (zs : List Int) (base : Nat) (w : World) (hs : ∀ j u, (stepC o)[j]? = some u → w.cell? ⟨g, i + j, none⟩ = some u) (hown : w.ownsRow base 5 1 (.slice A len cap) len (cellsOf .u8 zs)) (hB : base ≤ w.heap.size) (hg : g < base)
    (hl : len ≤ 1048576) (hn : o.n ≤ 1048576) (hd : o.sz = false → o.data.length = 64) :
    Calls Tryz.prog 92 #[.pointer (some ⟨g, i, none⟩), .slice A len cap] w (Reown base (.slice A len cap) (opDo zs o) w) := by
  have hlen : zs.length = len := by have := hown.1; rw [cellsOf_length] at this; omega
  have c0 := hs 0 _ rfl
  have c1 := hs 1 _ rfl
  rw [Nat.add_zero] at c0
  cases hsz : o.sz with
  | true =>
    rw [hsz] at c0
    rw [opDo_size' _ _ hsz]
    have RS := Lib.hid (resized_any A len cap o.n zs base w hown hB (by omega) (by omega))
    obtain ⟨n, hnn⟩ : ∃ n, n = o.n := ⟨_, rfl⟩
    rw [← hnn] at RS c1 ⊢
    clear hs hown hlen hnn hd
    go_enter Tryz.func92, Tryz.ntmps92
    go_wp2_with (go_at_call 112; refine RS.out.mono ?_; rintro e w1 ⟨A1, k1, rfl, h1, h2, h3⟩; have HH := Lib.hid (And.intro h1 (And.intro h2 h3)); clear h1 h2 h3)
    go_ret
    exact ⟨A1, k1, rfl, HH.out.1, HH.out.2.1, HH.out.2.2⟩
  | false =>
    rw [hsz] at c0
    have hd64 := hd hsz
    rw [opDo_sec _ _ hsz]
    obtain ⟨n, hnn⟩ : ∃ n, n = o.n := ⟨_, rfl⟩
    rw [← hnn] at c1 hn ⊢
    obtain ⟨N, hN⟩ : ∃ N, N = 64 * n := ⟨_, rfl⟩
    have n1 : (n : Int) * 64 = (N : Int) := by omega
    by_cases hlt : N < len
    · obtain ⟨gl, cur, rfl, hbg, hbk, hnc, hcm, hcl, hct⟩ := own_open hown (by omega)
      obtain ⟨q, hq⟩ : ∃ q, q = min 64 (len - N) := ⟨_, rfl⟩
      obtain ⟨xs, hxs⟩ : ∃ xs, xs = (o.data.take 64).take (zs.length - N) := ⟨_, rfl⟩
      have hxl : xs.length = q := by rw [hxs, List.length_take, List.length_take, hlen, hd64]; omega
      have HSET := Lib.hid (show setL zs n o.data = wrL zs N xs by
        unfold setL wrL; rw [if_pos (by rw [hasL_natN, hlen, ← hN]; simpa using hlt), hxs, hN]; rfl)
      have HSRC := Lib.hid (show ∀ j v, (cellsOf .u8 xs)[j]? = some v → w.cell? ⟨g, i + 2 + j, none⟩ = some v by
        intro j v hj
        have := hs (j + 2) v
        rw [show i + 2 + j = i + (j + 2) by omega]
        refine this ?_
        have e : sizeL o.data 64 = o.data := by rw [← hd64]; exact sizeL_self _
        unfold stepC
        rw [e]
        show (cellsOf .u8 o.data)[j]? = some v
        rw [hxs] at hj
        simp only [cellsOf, List.map_take, List.getElem?_take] at hj
        split at hj
        · split at hj
          · exact hj
          · cases hj
        · cases hj)
      have HNL := Lib.hid (show (cellsOf .u8 xs).length = q by rw [cellsOf_length, hxl])
      have HMIN := Lib.hid (show q = Nat.min 64 (len - N) from hq)
      have hfit : N + q ≤ cur.length := by omega
      have HCL := Lib.hid hcl
      have HCT := Lib.hid hct
      have HXL := Lib.hid hxl
      have HLEN := Lib.hid hlen
      have HQ := Lib.hid hq
      have HO := Lib.hid hown
      have n2 : ¬ cap = N := by omega
      have n5 : (N : Int) ≤ (len : Int) := by omega
      have n7 : (N : Int) < (len : Int) := by omega
      have HNN := Lib.hid hN
      clear hN hs hown hlen hnn hd hd64 hcl hct hxl hxs hq
      go_enter Tryz.func92, Tryz.ntmps92
      go_wp2
      refine wp_region_any (by kernel_rfl) ?_
      change wpAny _ _ _ _ _ _ _ (World.drew _)
      refine take_yes (i := 0) (v := ?_) rfl (by kernel_rfl) (by kernel_rfl) (by kernel_rfl) (fun _ _ _ h => h) (by kernel_rfl) ?_ ?_
      rotate_left
      · intro wz; go_simp; try with_reducible rfl
      simp only [Act.put, List.setIfInBounds_toArray, List.set_cons_zero, List.set_cons_succ]
      refine take_yes (i := 1) (v := ?_) rfl (by kernel_rfl) (by kernel_rfl) (by kernel_rfl) (fun _ _ _ h => h) (by kernel_rfl) ?_ ?_
      rotate_left
      · intro wz; go_simp; try with_reducible rfl
      simp only [Act.put, List.setIfInBounds_toArray, List.set_cons_zero, List.set_cons_succ]
      refine take_yes (i := 2) (v := ?_) rfl (by kernel_rfl) (by kernel_rfl) (by kernel_rfl) (fun _ _ _ h => h) (by kernel_rfl) ?_ ?_
      rotate_left
      · intro wz; go_simp; try with_reducible rfl
      simp only [Act.put, List.setIfInBounds_toArray, List.set_cons_zero, List.set_cons_succ]
      refine take_yes (i := 3) (v := ?_) rfl (by kernel_rfl) (by kernel_rfl) (by kernel_rfl) (fun _ _ _ h => h) (by kernel_rfl) ?_ ?_
      rotate_left
      · intro wz; go_simp; try with_reducible rfl
      simp only [Act.put, List.setIfInBounds_toArray, List.set_cons_zero, List.set_cons_succ]
      refine take_yes (i := 4) (v := ?_) rfl (by kernel_rfl) (by kernel_rfl) (by kernel_rfl) (fun _ _ _ h => h) (by kernel_rfl) ?_ ?_
      rotate_left
      · intro wz; go_simp; try with_reducible rfl
      simp only [Act.put, List.setIfInBounds_toArray, List.set_cons_zero, List.set_cons_succ]
      refine take_yes (i := 5) (v := ?_) rfl (by kernel_rfl) (by kernel_rfl) (by kernel_rfl) (fun _ _ _ h => h) (by kernel_rfl) ?_ ?_
      rotate_left
      · intro wz; go_simp; try with_reducible rfl
      simp only [Act.put, List.setIfInBounds_toArray, List.set_cons_zero, List.set_cons_succ]
      refine take_yes (i := 6) (v := ?_) rfl (by kernel_rfl) (by kernel_rfl) (by kernel_rfl) (fun _ _ _ h => h) (by kernel_rfl) ?_ ?_
      rotate_left
      · intro wz; go_simp; try with_reducible rfl
      simp only [Act.put, List.setIfInBounds_toArray, List.set_cons_zero, List.set_cons_succ]
      refine wpAny_ready (rs := [7]) (by kernel_rfl) (by simp) (AllReady.cons rfl (fun K hK => ?_) AllReady.nil)
      refine step_copy_blk rfl (.tmp 27) (.tmp 31) _ _ rfl 5 Tryz.underlying29 byteOne (some ⟨gl, N, none⟩) (some ⟨g, i + 2, none⟩) (len - N) (cap - N) 64 64 rfl rfl gl N q cur 5 hbk.drew (cellsOf .u8 xs) HNL.out HMIN.out (fun h0 => ⟨rfl, _, rfl, fun j v hj => by rw [row_addC]; exact HSRC.out j v hj⟩) hfit (cellsOf_one _ _) ?_
      intro w3 HG3 hc3
      refine hK _ _ ?_
      clear hK K
      refine wpAny_done (by kernel_rfl) ?_ _
      go_wp2
      go_ret
      have hwl : (wrL zs N xs).length = len := by rw [wrL_length (by rw [HXL.out, HLEN.out]; have := HQ.out; omega)]; exact HLEN.out
      have hsp : (splice cur N (cellsOf .u8 xs)).take (len * 1) = cellsOf .u8 (wrL zs N xs) := by
        have e0 : splice (cellsOf .u8 zs) N (cellsOf .u8 xs) = cellsOf .u8 (wrL zs N xs) := by unfold wrL splice; simp [cellsOf]
        have q1 := HNL.out
        have q2 := HCL.out
        have q3 := HQ.out
        rw [← e0, ← HCT.out]
        unfold splice
        simp only [Nat.mul_one] at *
        rw [List.take_take, Nat.min_eq_left (by omega), List.take_append, List.length_take, Nat.min_eq_left (by omega), List.take_of_length_le (by rw [List.length_take]; omega)]
        congr 1
        rw [List.take_append, q1, List.take_of_length_le (by omega)]
        congr 1
        rw [List.drop_take]
        congr 1
        omega
      rw [HSET.out]
      refine ⟨some ⟨gl, 0, none⟩, cap, by rw [hwl]; rfl, ?_, ?_, by rw [hwl]; exact Moved.refl _ _⟩
      · rw [hwl]
        exact own_shut hbg HG3.out hnc hcm (by rw [length_splice _ _ _ (by rw [HNL.out]; exact hfit)]; exact HCL.out) hsp (by rw [cellsOf_length, hwl]; omega)
      · exact hc3.drew0.mono (fun k _ e => by subst e; rfl)
    · have HSET := Lib.hid (show setL zs n o.data = zs by
        unfold setL; rw [if_neg (by rw [hasL_natN, hlen, ← hN]; simpa using hlt)])
      have HO := Lib.hid hown
      have HLEN := Lib.hid hlen
      have n7 : ¬ (N : Int) < (len : Int) := by omega
      clear hs hown hlen hnn hd hd64 hN
      go_enter Tryz.func92, Tryz.ntmps92
      go_wp2
      go_ret
      rw [HSET.out]
      exact ⟨A, cap, by rw [HLEN.out]; rfl, by rw [HLEN.out]; exact HO.out, Chg.refl _ _, by rw [HLEN.out]; exact Moved.refl _ _⟩

end Go.Proofs.YtclglbddibjenaaGreat

/-
  LAYER 6: WHAT Crash DOES: its contract.
-/
set_option linter.unusedVariables false
set_option maxRecDepth 100000
set_option linter.unusedSimpArgs false
namespace Go.Proofs.YtclglbddibjenaaGreat
open Go.RowKit

theorem fcrash_nil (v : Value) (w : World) : Calls Tryz.prog 57 #[.pointer none, v] w fun e w' => e = .returned (.pointer none) ∧ w = w' := by
  go_enter Tryz.func57, Tryz.ntmps57
  go_wp2
  go_ret
  exact ⟨rfl, rfl⟩

/-- At the head of each round: what the first k have left. -/
structure CrAt (w wr : World) (s : FS) (ks : List Bool) (k : Nat) (A : Option Addr) (n c : Nat) (L : List Int) : Prop where
  is_ : L = crashL s.safe (s.ops.take k) ks
  len : L.length = n
  own : wr.ownsRow w.heap.size 5 1 (.slice A n c) n (cellsOf .u8 L)
  below : Below w.heap.size w wr

theorem CrAt.stay {w wr : World} {s : FS} {ks : List Bool} {k n c : Nat} {A : Option Addr} {L : List Int} (h : CrAt w wr s ks k A n c L) (hk : k < s.ops.length) (hb : keepAt ks k = false) : CrAt w wr s ks (k + 1) A n c L :=
  ⟨by rw [crashL_next hk, hb, h.is_]; rfl, h.len, h.own, h.below⟩
theorem CrAt.step {w wr w' : World} {s : FS} {ks : List Bool} {k n c : Nat} {A : Option Addr} {L : List Int} {o : OpV} {e : Ending} (h : CrAt w wr s ks k A n c L) (ho : s.ops[k]? = some o) (hb : keepAt ks k = true) (hr : Reown w.heap.size (.slice A n c) (opDo L o) wr e w') :
    ∃ A' n' c', e = .returned (.slice A' n' c') ∧ CrAt w w' s ks (k + 1) A' n' c' (opDo L o) := by
  obtain ⟨A', c', rfl, hown, hch, hm⟩ := hr
  obtain ⟨hlt, he⟩ := List.getElem?_eq_some_iff.1 ho
  refine ⟨A', _, c', rfl, by rw [crashL_next hlt, hb, if_pos rfl, ← h.is_, he], rfl, hown, h.below.trans (hch.below h.below.size (fun j _ hj => (h.own.lt j hj).1))⟩

theorem CrAt.size {w wr : World} {s : FS} {ks : List Bool} {k n c N : Nat} {A : Option Addr} {L : List Int} (h : CrAt w wr s ks k A n c L) (hs : s.Good N) : n ≤ 1048576 := by
  have := (crashL_ok (s.ops.take k) s.safe ks hs.ok.safe hs.ok.sizeS (fun o ho => hs.ok.data o (List.mem_of_mem_take ho)) (fun o ho => hs.ok.n o (List.mem_of_mem_take ho))).2
  rw [← h.is_, h.len] at this
  exact this

theorem CrAt.made {w wr : World} {base : Nat} {s : FS} {ks : List Bool} {k n c : Nat} {A : Option Addr} {L : List Int} (h : CrAt w wr s ks k A n c L) (hb : base ≤ w.heap.size) :
    CF (wr.alloc (.cells #[.slice A n c, .slice none 0 0, .slice none 0 0] 122)) base (fun k => w.heap.size ≤ k ∧ k < (wr.alloc (.cells #[.slice A n c, .slice none 0 0, .slice none 0 0] 122)).heap.size) wr.heap.size ⟨L, [], []⟩ (.slice A n c) (.slice none 0 0) (.slice none 0 0) :=
  CF.boxed (s := ⟨L, [], []⟩) h.below.size hb (by rw [h.len]; exact h.own) (World.ownsRow_nil _ _ _ _) (World.ownsRow_nil _ _ _ _) (fun g _ hg => by simp [Value.ownBlock] at hg)

theorem CrAt.out {w wr w2 : World} {base : Nat} {s : FS} {ks : List Bool} {k n c : Nat} {A : Option Addr} {L : List Int} (h : CrAt w wr s ks k A n c L) (hk : ks.length ≤ k ∨ s.ops.length ≤ k) (hb : base ≤ w.heap.size)
    (hf : CFT base (fun k => w.heap.size ≤ k ∧ k < (wr.alloc (.cells #[.slice A n c, .slice none 0 0, .slice none 0 0] 122)).heap.size) wr.heap.size (FS.sync ⟨L, [], []⟩) (wr.alloc (.cells #[.slice A n c, .slice none 0 0, .slice none 0 0] 122)) w2) :
    CFnew base (s.crash ks) w (.returned (.pointer (some ⟨wr.heap.size, 0, none⟩))) w2 := by
  obtain ⟨hch, nv, sv, pv, hcf⟩ := hf
  have hL : L = crashL s.safe s.ops ks := by rw [h.is_, crashL_take _ _ _ _ hk]
  have hs : FS.sync ⟨L, [], []⟩ = s.crash ks := by rw [hL]; rfl
  have h1 := h.below.size
  rw [hs] at hcf
  have hsz := hch.size
  refine ⟨_, nv, sv, pv, rfl, (h.below.alloc h1 _).trans (hch.below (by simp; omega) (fun k _ hk => hk.1)), hcf.mono (fun j hj => ⟨?_, (hcf.foot j hj).2⟩) (fun j hj => ⟨by omega, hj.2⟩)⟩
  rcases hj with hj | hj
  · exact hj.1
  · have := hj.1; simp at this; omega

set_option maxHeartbeats 1000000 in
theorem fcrash_any (p : Nat) (K : Option Addr) (m d : Nat) (ks : List Bool) (Bk base N : Nat) (S : Nat → Prop) (s : FS) (nv sv pv : Value) (w : World) (h : CF w base S p s nv sv pv) (hr : Reads w Bk 1 K m (cellsB ks)) (hB : Bk ≤ w.heap.size) (hmd : m ≤ d) (hdc : d ≤ 9223372036854775807) (hgd : s.Good N) (hN : N ≤ 1000000) :
    Calls Tryz.prog 57 #[.pointer (some ⟨p, 0, none⟩), .slice K m d] w (CFnew base (s.crash ks) w) := by
  obtain ⟨As, cs, rfl, hs1, hs2⟩ := own_form h.safe
  obtain ⟨Ap, cp, rfl, hp1, hp2⟩ := own_form h.pend
  have hlk : ks.length = m := by have := hr.1; rw [cellsB_length] at this; omega
  obtain ⟨m2, hm2⟩ : ∃ m2, m2 = s.safe.length := ⟨_, rfl⟩
  obtain ⟨q, hq⟩ : ∃ q, q = s.ops.length := ⟨_, rfl⟩
  have hq1 : q ≤ 1000000 := by have := hgd.few; omega
  have hqc : q ≤ cp := by omega
  rw [← hm2, ← hq] at h
  have hl2 : m2 ≤ 1048576 := by rw [hm2]; exact hgd.ok.sizeS
  have C2 := Lib.hid (clone_any As m2 cs s.safe w.heap.size w (h.safeR hm2).1 (Nat.le_refl _) (by omega))
  have H := Lib.hid h
  obtain ⟨d0, d1, d2, -⟩ := h.blkB (Below.refl _ _)
  obtain ⟨M, hM⟩ : ∃ M, M = min m q := ⟨_, rfl⟩
  have n7 : (if q < m then (q : Int) else (m : Int)) = (M : Int) := by split <;> omega
  have hMm : M ≤ m := by omega
  have hMq : M ≤ q := by omega
  have HMM := Lib.hid hM
  clear hM
  have HM2 := Lib.hid hm2
  have HQ := Lib.hid hq
  have HLK := Lib.hid hlk
  have HR := Lib.hid hr
  have HG := Lib.hid hgd
  clear h hm2 hq hlk hs1 hp1 hr hgd
  go_enter Tryz.func57, Tryz.ntmps57
  go_wp2_with (go_at_call 83; refine (C2.out).mono ?_; rintro e w1 ⟨A1, c1, rfl, hown1, hb1⟩; rw [← HM2.out] at hown1 ⊢; have e2 := (H.out.blkB hb1).2.2.1; have HO := Lib.hid hown1; clear hown1)
  have HC0 := Lib.hid (show CrAt w w1 s ks 0 A1 m2 c1 s.safe from ⟨by rw [List.take_zero]; rfl, HM2.out.symm, HO.out, hb1⟩)
  clear HO e2 hb1 n7
  go_loopw [5, 23] (fun l i wr => ∃ (k : Nat) (A : Option Addr) (n c : Nat) (L : List Int), k ≤ M ∧ i = .int .i64 k ∧ l = .slice A n c ∧ Hid (CrAt w wr s ks k A n c L)) (fun _ i _ => M - (intOf i).toNat)
  case atStart => exact ⟨0, _, _, _, _, Nat.zero_le _, rfl, rfl, HC0⟩
  case round =>
    clear HC0
    obtain ⟨k, A, n, c, L, hk, rfl, rfl, C⟩ := hrel
    have hn6 := C.out.size HG.out
    by_cases hlt : k < M
    · obtain ⟨o, ho⟩ : ∃ o, s.ops[k]? = some o := ⟨_, List.getElem?_eq_getElem (by rw [← HQ.out]; omega)⟩
      obtain ⟨b, off, rfl, hbB, hc⟩ := HR.out.bools (by omega)
      obtain ⟨bt, hbt⟩ : ∃ bt, bt = keepAt ks k := ⟨_, rfl⟩
      have ck : wr.cell? ⟨b, off + k, none⟩ = some (.bool bt) := by rw [hbt]; exact (C.out.below.cell (p := ⟨b, off + k, none⟩) (by show b < _; omega)).trans (hc k (by omega))
      obtain ⟨e0, e1, e2, -⟩ := H.out.blkB C.out.below
      have HO := Lib.hid ho
      have kmi : (k : Int) < (m : Int) := by omega
      have kmq : (k : Int) < (q : Int) := by omega
      have kM : (k : Int) < (M : Int) := by omega
      have kq : k < q := by omega
      cases bt with
      | false =>
        have HN := Lib.hid (C.out.stay (by rw [← HQ.out]; omega) hbt.symm)
        clear hbt ho hc
        go_wp2
        go_roundw
        case rel => exact ⟨k + 1, A, n, c, L, by omega, by go_num, rfl, HN⟩
        case measure => simp [intOf]; omega
      | true =>
        have hpe := H.out.below C.out.below
        obtain ⟨gp, cur, rfl, hpb, hpk, -⟩ := own_open (H.out.pend_ HQ.out) (by omega)
        have hpw := hpe.pend_ HQ.out
        have hgw : gp < w.heap.size := (H.out.pend.lt gp rfl).2
        have DN := Lib.hid (done_any gp (k * 66) o A n c L w.heap.size wr (fun j u hj => by
            have hj6 : j < 66 := by
              have := (List.getElem?_eq_some_iff.1 hj).1
              rw [stepC_length] at this; exact this
            have e1 := stepsC_get s.ops k o j ho hj6
            have := hpw.cells (g := gp) rfl (k * 66 + j) u (e1.trans hj)
            rw [row_addC, Nat.zero_add] at this
            exact this) C.out.own C.out.below.size hgw hn6 (HG.out.ok.n o (List.mem_of_getElem? ho)) (HG.out.whole o (List.mem_of_getElem? ho)))
        have HBT := Lib.hid hbt.symm
        clear hbt ho hc hpe hpw hpk
        go_wp2_with (go_at_call 92; go_loud (refine DN.out.mono ?_; rintro e w3 hg; obtain ⟨A3, n3, c3, rfl, hC3⟩ := C.out.step HO.out HBT.out hg; have HC3 := Lib.hid hC3; clear hg hC3))
        go_roundw
        case rel => exact ⟨k + 1, A3, n3, c3, _, by omega, by go_num, rfl, HC3⟩
        case measure => simp [intOf]; omega
    · obtain rfl : k = M := by omega
      have HKK := Lib.hid (show ks.length ≤ k ∨ s.ops.length ≤ k by have := HMM.out; have := HLK.out; have := HQ.out; omega)
      have SY := Lib.hid (fsync_any wr.heap.size base _ _ _ _ _ _ (C.out.made H.out.bas) (by rw [C.out.len]; exact hn6))
      go_wp2_with (go_at_call 49; go_loud (refine SY.out.mono ?_; rintro e w3 ⟨rfl, hg⟩; have HX := Lib.hid (C.out.out HKK.out H.out.bas hg); clear hg))
      go_ret
      exact HX.out

end Go.Proofs.YtclglbddibjenaaGreat
