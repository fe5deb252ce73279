/-
  PLAIN MATHEMATICS FOR LAYER 6, of no program: a file as what it is now, what of it is safe, and what was done since; what each call does to it, and what a crash leaves.
-/
import Derived.Test.YtdpoffedmafmhaaSecMath
set_option linter.unusedVariables false
namespace Go.Proofs.Ytdpoffedmafmhaa
open Go.RowKit

/-- What was done and isn't safe: a size, or a sector's bytes. -/
structure OpV where
  sz : Bool
  n : Nat
  data : List Int

structure FS where
  now : List Int
  safe : List Int
  ops : List OpV

/-- What is done by one of them. -/
def opDo (z : List Int) (o : OpV) : List Int := if o.sz then sizeL z o.n else setL z o.n o.data
/-- What a crash leaves: of those that have a true at their place. -/
def crashL : List Int → List OpV → List Bool → List Int
  | z, [], _ => z
  | z, _ :: _, [] => z
  | z, o :: r, k :: ks => crashL (if k then opDo z o else z) r ks
/-- The bit at a place: false behind the end. -/
def keepAt (ks : List Bool) (i : Nat) : Bool := ks.getD i false
theorem crashL_nil (z : List Int) (ops : List OpV) : crashL z ops [] = z := by cases ops <;> rfl
theorem keepAt_out {ks : List Bool} {i : Nat} (h : ks.length ≤ i) : keepAt ks i = false := by
  unfold keepAt; rw [List.getD_eq_getElem?_getD, List.getElem?_eq_none h]; rfl

/-- One more of what was done. -/
theorem crashL_snoc (ops : List OpV) (o : OpV) : ∀ (z : List Int) (ks : List Bool), crashL z (ops ++ [o]) ks = if keepAt ks ops.length then opDo (crashL z ops ks) o else crashL z ops ks := by
  induction ops with
  | nil =>
    intro z ks
    cases ks with
    | nil => rfl
    | cons k r => cases k <;> simp [crashL, keepAt]
  | cons p r ih =>
    intro z ks
    cases ks with
    | nil => simp [crashL, keepAt]
    | cons k s =>
      simp only [List.cons_append, crashL, List.length_cons]
      rw [ih]
      have : keepAt (k :: s) (r.length + 1) = keepAt s r.length := by unfold keepAt; simp
      simp only [this]
/-- By the first i of them. -/
theorem crashL_next {ops : List OpV} {i : Nat} (h : i < ops.length) (z : List Int) (ks : List Bool) : crashL z (ops.take (i + 1)) ks = if keepAt ks i then opDo (crashL z (ops.take i) ks) ops[i] else crashL z (ops.take i) ks := by
  rw [List.take_succ_eq_append_getElem h, crashL_snoc, List.length_take, Nat.min_eq_left (by omega)]

/-- All of them. -/
def allL (z : List Int) (ops : List OpV) : List Int := ops.foldl opDo z
theorem allL_append (z : List Int) (a b : List OpV) : allL z (a ++ b) = allL (allL z a) b := by unfold allL; rw [List.foldl_append]
theorem crashL_all (ops : List OpV) : ∀ (z : List Int) (ks : List Bool), (∀ i, i < ops.length → keepAt ks i = true) → crashL z ops ks = allL z ops := by
  induction ops with
  | nil => intro z ks _; rfl
  | cons o r ih =>
    intro z ks h
    cases ks with
    | nil => have := h 0 (by simp); simp [keepAt] at this
    | cons k s =>
      have h0 : k = true := by have := h 0 (by simp); simpa [keepAt] using this
      subst h0
      have := ih (opDo z o) s (fun i hi => by have := h (i + 1) (by simpa using hi); simpa [keepAt] using this)
      show crashL (opDo z o) r s = _
      rw [this]; rfl

/-! ### Write -/
def growL (z : List Int) (m : Nat) : List Int := if z.length < m then sizeL z m else z
def growO (z : List Int) (m : Nat) : List OpV := if z.length < m then [⟨true, m, []⟩] else []
theorem growL_length (z : List Int) (m : Nat) : (growL z m).length = max z.length m := by
  unfold growL; split
  · rw [sizeL_length]; omega
  · omega
theorem growL_bytes {z : List Int} (h : AreB z) (m : Nat) : AreB (growL z m) := by
  unfold growL; split
  · exact sizeL_bytes h _
  · exact h
theorem growL_sizeL (z : List Int) (m : Nat) : growL z m = sizeL z (max z.length m) := by
  unfold growL; split
  · rw [Nat.max_eq_right (by omega)]
  · rw [Nat.max_eq_left (by omega), sizeL_self]
theorem allL_grow (z : List Int) (m : Nat) : allL z (growO z m) = growL z m := by
  unfold growO growL; split <;> rfl

/-- What is written into each sector: its bytes as they are behind it all. -/
def wrO (a : Nat) (xs : List Int) (z : List Int) : List OpV := (List.range (pcN (a % 64) xs.length)).map fun i => ⟨false, a / 64 + i, secL z ((a / 64 + i : Nat) : Int)⟩
theorem wrO_length (a : Nat) (xs z : List Int) : (wrO a xs z).length = pcN (a % 64) xs.length := by unfold wrO; simp

theorem nz_wrL {z xs : List Int} {a : Nat} (h : a + xs.length ≤ z.length) (n j : Nat) : nz (wrL z a (xs.take n)) j = if a ≤ j ∧ j < a + min n xs.length then nz xs (j - a) else nz z j := by
  unfold wrL
  rw [nz_splice _ _ _ _ (by omega), List.length_take, nz_take]
  by_cases hc : a ≤ j ∧ j < a + min n xs.length
  · rw [if_pos hc, if_pos (by omega), if_pos hc]
  · rw [if_neg hc, if_neg hc]
theorem wrL_take_length {z xs : List Int} {a : Nat} (h : a + xs.length ≤ z.length) (n : Nat) : (wrL z a (xs.take n)).length = z.length := wrL_length (by rw [List.length_take]; omega)

/-- A piece's sector is told alike behind that piece and behind all. -/
theorem secL_later {z xs : List Int} {a i : Nat} (h : a + xs.length ≤ z.length) (hi : i < pcN (a % 64) xs.length) :
    secL (wrL z a (xs.take (64 * (i + 1) - a % 64))) ((a / 64 + i : Nat) : Int) = secL (wrL z a xs) ((a / 64 + i : Nat) : Int) := by
  have hi' := (pcN_lt (Nat.mod_lt a (by omega))).1 hi
  have hf := Nat.mod_lt a (show 0 < 64 by omega)
  have hd := Nat.div_add_mod a 64
  have hx : wrL z a xs = wrL z a (xs.take xs.length) := by rw [List.take_length]
  refine ext_nz (by rw [secL_length, secL_length]) fun j hj => ?_
  rw [secL_length] at hj
  have hh : ∀ y : List Int, y.length = z.length → hasL y ((a / 64 + i : Nat) : Int) = true := fun y hy => by
    unfold hasL cntN; rw [hy]; simp; omega
  rw [nz_secL hj, nz_secL hj, if_pos (hh _ (wrL_take_length h _)), hx, if_pos (hh _ (wrL_take_length h _)), nz_wrL h, nz_wrL h, Int.toNat_natCast]
  by_cases h1 : a ≤ 64 * (a / 64 + i) + j ∧ 64 * (a / 64 + i) + j < a + min (64 * (i + 1) - a % 64) xs.length
  · rw [if_pos h1, if_pos (by omega)]
  · rw [if_neg h1, if_neg (by omega)]
/-- .. and is what the piece laid over the elder sector gives. -/
theorem layL_sec {z xs : List Int} {a i : Nat} (h : a + xs.length ≤ z.length) (hi : i < pcN (a % 64) xs.length) :
    layL (secL (wrL z a (xs.take (64 * i - a % 64))) ((a / 64 + i : Nat) : Int)) ((a % 64 - 64 * i : Nat) : Int) (pcD (a % 64) xs i) = secL (wrL z a (xs.take (64 * (i + 1) - a % 64))) ((a / 64 + i : Nat) : Int) := by
  have hi' := (pcN_lt (Nat.mod_lt a (by omega))).1 hi
  have hf := Nat.mod_lt a (show 0 < 64 by omega)
  have hd := Nat.div_add_mod a 64
  refine ext_nz (by rw [layL_length, secL_length]) fun j hj => ?_
  rw [layL_length] at hj
  have hh : ∀ y : List Int, y.length = z.length → hasL y ((a / 64 + i : Nat) : Int) = true := fun y hy => by
    unfold hasL cntN; rw [hy]; simp; omega
  rw [nz_layL _ _ _ hj, nz_secL hj, nz_secL hj, if_pos (hh _ (wrL_take_length h _)), if_pos (hh _ (wrL_take_length h _)), nz_wrL h, nz_wrL h, pcD_length]
  simp only [Int.toNat_natCast]
  by_cases h2 : a % 64 - 64 * i ≤ j ∧ j < a % 64 - 64 * i + (min (64 * (i + 1) - a % 64) xs.length - (64 * i - a % 64))
  · rw [if_pos ⟨by omega, by omega, h2⟩, if_pos (by omega), nz_pcD _ _ _ _ (by rw [pcD_length]; omega)]
    congr 1
    omega
  · rw [if_neg (fun hx => h2 hx.2.2)]
    by_cases h3 : a ≤ 64 * (a / 64 + i) + j ∧ 64 * (a / 64 + i) + j < a + min (64 * i - a % 64) xs.length
    · rw [if_pos h3, if_pos (by omega)]
    · rw [if_neg h3, if_neg (by omega)]

/-- The sectors, each set behind the other: all that was written. -/
theorem allL_wr {z xs : List Int} {a : Nat} (h : a + xs.length ≤ z.length) (hx : xs ≠ []) : allL z (wrO a xs (wrL z a xs)) = wrL z a xs := by
  have hf := Nat.mod_lt a (show 0 < 64 by omega)
  have hlen : 0 < xs.length := List.length_pos_iff.2 hx
  have part : ∀ i, i ≤ pcN (a % 64) xs.length → allL z ((wrO a xs (wrL z a xs)).take i) = wrL z a (xs.take (64 * i - a % 64)) := by
    intro i
    induction i with
    | zero => intro _; rw [show 64 * 0 - a % 64 = 0 by omega]; simp [allL, wrL_none]
    | succ i ih =>
      intro hi
      have hlt : i < (wrO a xs (wrL z a xs)).length := by rw [wrO_length]; omega
      rw [List.take_succ_eq_append_getElem hlt, allL_append, ih (by omega)]
      have hg : (wrO a xs (wrL z a xs))[i] = ⟨false, a / 64 + i, secL (wrL z a xs) ((a / 64 + i : Nat) : Int)⟩ := by simp [wrO]
      rw [hg]
      unfold allL
      rw [List.foldl_cons, List.foldl_nil]
      show opDo (wrL z a (xs.take (64 * i - a % 64))) ⟨false, a / 64 + i, _⟩ = _
      unfold opDo
      rw [if_neg (by simp), ← secL_later h (by omega), ← layL_sec h (by omega)]
      exact wrL_step h (by omega)
  have := part _ (Nat.le_refl _)
  rw [List.take_of_length_le (by rw [wrO_length]; omega)] at this
  rw [this, List.take_of_length_le]
  have := fun hh => (pcN_lt (f := a % 64) (len := xs.length) (i := pcN (a % 64) xs.length) hf).2 hh
  omega

def FS.write (s : FS) (a : Nat) (xs : List Int) : FS :=
  if xs = [] then s else ⟨wrL (growL s.now (a + xs.length)) a xs, s.safe, s.ops ++ growO s.now (a + xs.length) ++ wrO a xs (wrL (growL s.now (a + xs.length)) a xs)⟩
def FS.trunc (s : FS) (n : Nat) : FS := if n = s.now.length then s else ⟨sizeL s.now n, s.safe, s.ops ++ [⟨true, n, []⟩]⟩
def FS.sync (s : FS) : FS := ⟨s.now, s.now, []⟩
def FS.crash (s : FS) (ks : List Bool) : FS := ⟨crashL s.safe s.ops ks, crashL s.safe s.ops ks, []⟩
def FS.new : FS := ⟨[], [], []⟩
def FS.read (s : FS) (at_ n : Int) : List Int := if 0 ≤ at_ ∧ 0 < n then (s.now.drop at_.toNat).take n.toNat else []

/-- What holds of every file: what was done, done to what is safe, gives what there is; all are bytes, and not too many. -/
structure FS.Ok (s : FS) : Prop where
  all : allL s.safe s.ops = s.now
  now : AreB s.now
  safe : AreB s.safe
  data : ∀ o ∈ s.ops, AreB o.data
  size : s.now.length ≤ 1048576
  sizeS : s.safe.length ≤ 1048576
  n : ∀ o ∈ s.ops, o.n ≤ 1048576

theorem opDo_bytes {z : List Int} {o : OpV} (h : AreB z) (ho : AreB o.data) : AreB (opDo z o) := by
  unfold opDo; split
  · exact sizeL_bytes h _
  · exact setL_bytes h ho _
theorem opDo_size {z : List Int} {o : OpV} (h : z.length ≤ 1048576) (ho : o.n ≤ 1048576) : (opDo z o).length ≤ 1048576 := by
  unfold opDo; split
  · rw [sizeL_length]; exact ho
  · rw [setL_length]; exact h
theorem crashL_ok : ∀ (ops : List OpV) (z : List Int) (ks : List Bool), AreB z → z.length ≤ 1048576 → (∀ o ∈ ops, AreB o.data) → (∀ o ∈ ops, o.n ≤ 1048576) → AreB (crashL z ops ks) ∧ (crashL z ops ks).length ≤ 1048576
  | [], z, _, h1, h2, _, _ => ⟨h1, h2⟩
  | _ :: _, z, [], h1, h2, _, _ => ⟨h1, h2⟩
  | o :: r, z, k :: ks, h1, h2, h3, h4 => by
    show AreB (crashL (if k then opDo z o else z) r ks) ∧ _
    refine crashL_ok r _ ks ?_ ?_ (fun p hp => h3 p (by simp [hp])) (fun p hp => h4 p (by simp [hp]))
    · split
      · exact opDo_bytes h1 (h3 o (by simp))
      · exact h1
    · split
      · exact opDo_size h2 (h4 o (by simp))
      · exact h2

theorem FS.new_ok : FS.new.Ok := ⟨rfl, AreB.nil, AreB.nil, (fun o h => by cases h), Nat.zero_le _, Nat.zero_le _, (fun o h => by cases h)⟩
theorem FS.Ok.write {s : FS} (h : s.Ok) {a : Nat} {xs : List Int} (hx : AreB xs) (ha : a + xs.length ≤ 1048576) : (s.write a xs).Ok := by
  unfold FS.write
  split
  · exact h
  · next hne =>
    have hgl := growL_length s.now (a + xs.length)
    have hb : AreB (wrL (growL s.now (a + xs.length)) a xs) := wrL_bytes (growL_bytes h.now _) hx a
    refine ⟨?_, hb, h.safe, ?_, ?_, h.sizeS, ?_⟩
    · show allL s.safe _ = _
      rw [allL_append, allL_append, h.all, allL_grow]
      exact allL_wr (by omega) hne
    · intro o ho
      rcases List.mem_append.1 ho with ho | ho
      · rcases List.mem_append.1 ho with ho | ho
        · exact h.data o ho
        · unfold growO at ho
          split at ho
          · rw [List.mem_singleton] at ho; subst ho; exact AreB.nil
          · cases ho
      · unfold wrO at ho
        obtain ⟨i, _, rfl⟩ := List.mem_map.1 ho
        exact secL_bytes hb _
    · show (wrL _ a xs).length ≤ _
      rw [wrL_length (by omega), hgl]
      have := h.size
      omega
    · intro o ho
      rcases List.mem_append.1 ho with ho | ho
      · rcases List.mem_append.1 ho with ho | ho
        · exact h.n o ho
        · unfold growO at ho
          split at ho
          · rw [List.mem_singleton] at ho; subst ho; exact ha
          · cases ho
      · unfold wrO at ho
        obtain ⟨i, hi, rfl⟩ := List.mem_map.1 ho
        have hi2 := (pcN_lt (Nat.mod_lt a (by omega))).1 (List.mem_range.1 hi)
        show a / 64 + i ≤ 1048576
        omega
theorem FS.Ok.trunc {s : FS} (h : s.Ok) {n : Nat} (hn : n ≤ 1048576) : (s.trunc n).Ok := by
  unfold FS.trunc
  split
  · exact h
  · refine ⟨?_, sizeL_bytes h.now n, h.safe, ?_, by show (sizeL _ _).length ≤ _; rw [sizeL_length]; exact hn, h.sizeS, ?_⟩
    · show allL s.safe (s.ops ++ _) = _
      rw [allL_append, h.all]; rfl
    · intro o ho
      rcases List.mem_append.1 ho with ho | ho
      · exact h.data o ho
      · rw [List.mem_singleton] at ho; subst ho; exact AreB.nil
    · intro o ho
      rcases List.mem_append.1 ho with ho | ho
      · exact h.n o ho
      · rw [List.mem_singleton] at ho; subst ho; exact hn
theorem FS.Ok.sync {s : FS} (h : s.Ok) : s.sync.Ok := ⟨rfl, h.now, h.now, (fun o h => by cases h), h.size, h.size, (fun o h => by cases h)⟩
theorem FS.Ok.crash {s : FS} (h : s.Ok) (ks : List Bool) : (s.crash ks).Ok := by
  obtain ⟨h1, h2⟩ := crashL_ok s.ops s.safe ks h.safe h.sizeS h.data h.n
  exact ⟨rfl, h1, h1, (fun o h => by cases h), h2, h2, (fun o h => by cases h)⟩
/-- With all kept a crash leaves what there is now. -/
theorem FS.Ok.kept {s : FS} (h : s.Ok) {ks : List Bool} (hk : ∀ i, i < s.ops.length → keepAt ks i = true) : (s.crash ks).now = s.now := by
  show crashL s.safe s.ops ks = s.now
  rw [crashL_all _ _ _ hk, h.all]
/-- What was synced is left by every crash. -/
theorem FS.sync_crash (s : FS) (ks : List Bool) : (s.sync.crash ks).now = s.now := rfl

/-- How many things are pending at most, if each call is small. -/
theorem FS.write_ops (s : FS) (a : Nat) (xs : List Int) : (s.write a xs).ops.length ≤ s.ops.length + 1 + (xs.length / 64 + 2) := by
  unfold FS.write
  split
  · omega
  · have h1 := pcN_le (a % 64) xs.length (Nat.mod_lt _ (by omega))
    have h2 : (growO s.now (a + xs.length)).length ≤ 1 := by unfold growO; split <;> simp
    simp only [List.length_append, wrO_length]
    omega
theorem FS.trunc_ops (s : FS) (n : Nat) : (s.trunc n).ops.length ≤ s.ops.length + 1 := by
  unfold FS.trunc; split
  · omega
  · simp

theorem FS.read_length (s : FS) (at_ n : Int) : (s.read at_ n).length ≤ s.now.length := by
  unfold FS.read; split
  · rw [List.length_take, List.length_drop]; omega
  · simp
theorem FS.read_bytes {s : FS} (h : AreB s.now) (at_ n : Int) : AreB (s.read at_ n) := by
  unfold FS.read; split
  · exact (h.drop _).take _
  · exact AreB.nil
theorem FS.read_all (s : FS) {n : Int} (h : (s.now.length : Int) ≤ n) : s.read 0 n = s.now := by
  unfold FS.read
  by_cases h0 : 0 < n
  · rw [if_pos ⟨by omega, h0⟩]
    show (s.now.drop 0).take n.toNat = _
    rw [List.drop_zero, List.take_of_length_le (by omega)]
  · rw [if_neg (fun hh => h0 hh.2)]
    have : s.now.length = 0 := by omega
    exact (List.eq_nil_of_length_eq_zero this).symm

end Go.Proofs.Ytdpoffedmafmhaa
