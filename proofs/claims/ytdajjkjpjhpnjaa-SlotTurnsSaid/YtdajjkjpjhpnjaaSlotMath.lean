/-
  PLAIN ARITHMETIC FOR LAYER 11, of no program but by its imports: a slot's bytes, the slot that bytes begin with, and the one that counts in a file.
-/
import Derived.Test.YtdajjkjpjhpnjaaLeBackP
import Derived.Test.YtdajjkjpjhpnjaaCrcMath
set_option linter.unusedVariables false
set_option maxRecDepth 100000
set_option linter.unusedSimpArgs false
namespace Go.Proofs.Ytdajjkjpjhpnjaa

/-- Six words' bytes, with their sum, filled up. -/
def encW (l : List Int) : List Int := wordsB l ++ bts (crcAdd 0 (wordsB l) : Nat) 4 ++ List.replicate 12 0
/-- May a slot of that turn, tail and state be? -/
def rightS (a t s : Int) : Bool := decide (a ≠ 0) && (decide (s = 1) || decide (s = 2)) && decide (t % 8 = 0)
/-- The same of its six words. -/
def rightL (l : List Int) : Bool := rightS (l.getD 0 0) (l.getD 1 0) (l.getD 5 0)
/-- What Encode tells. -/
def encSR (l : List Int) : List Int := if rightL l then encW l else []
/-- What stands where a slot's words stand. -/
def wordS (Z : List Int) (j : Nat) : Int := lev ((Z.drop (8 * j)).take 8)
/-- Do bytes begin with a slot? -/
def isS (Z : List Int) : Bool := decide (64 ≤ Z.length) && rightL (wrds 6 Z) && decide (encW (wrds 6 Z) = Z.take 64)

theorem wrds_six (Z : List Int) : wrds 6 Z = [wordS Z 0, wordS Z 1, wordS Z 2, wordS Z 3, wordS Z 4, wordS Z 5] := by
  simp only [wrds, wordS, List.drop_drop]
  rfl

theorem encW_length {l : List Int} (h : l.length = 6) : (encW l).length = 64 := by
  unfold encW; rw [List.length_append, List.length_append, wordsB_length, bts_length, List.length_replicate, h]; rfl
theorem encW_bytes (l : List Int) : AreB (encW l) := ((wordsB_bytes _).append (bts_bytes _ _)).append (AreB.zeros _)
theorem encSR_bytes (l : List Int) : AreB (encSR l) := by
  unfold encSR; split
  · exact encW_bytes l
  · exact AreB.nil

theorem wrds_enc {l : List Int} (h : l.length = 6) (hl : ∀ z ∈ l, 0 ≤ z ∧ z < 18446744073709551616) (r : List Int) : wrds 6 (encW l ++ r) = l := by
  unfold encW
  rw [List.append_assoc, List.append_assoc, ← h]
  exact wrds_wordsB l _ hl

/-- What is encoded is a slot, whatever stands behind it. -/
theorem isS_enc {l : List Int} (h : l.length = 6) (hl : ∀ z ∈ l, 0 ≤ z ∧ z < 18446744073709551616) (hr : rightL l = true) (r : List Int) : isS (encW l ++ r) = true := by
  unfold isS
  rw [wrds_enc h hl r, hr, List.take_left' (encW_length h)]
  simp [encW_length h]

/-- Noughts are no slot. -/
theorem isS_zeros (r : List Int) : isS (List.replicate 64 0 ++ r) = false := by
  have e : wordS (List.replicate 64 0 ++ r) 0 = 0 := by
    unfold wordS
    rw [Nat.mul_zero, List.drop_zero, show List.replicate 64 (0 : Int) = List.replicate 8 0 ++ List.replicate 56 0 from rfl, List.append_assoc, List.take_left' (List.length_replicate ..)]
    rfl
  unfold isS
  rw [wrds_six, e]
  simp [rightL, rightS]

/-- The slot that counts in a file: 0 where there is none, else which one. -/
def pickS (zs : List Int) : Nat :=
  if isS (zs.drop 128) && (!isS (zs.drop 64) || decide (wordS (zs.drop 64) 0 < wordS (zs.drop 128) 0)) then 2 else if isS (zs.drop 64) then 1 else 0

theorem isS_short {Z : List Int} (h : Z.length < 64) : isS Z = false := by
  unfold isS; rw [decide_eq_false (by omega)]; rfl

/-- A file of noughts with a slot at one place or at both. -/
theorem pick_first {x r y : List Int} (hx : x.length = 64) (hy : y.length = 64) (h1 : isS (x ++ (y ++ r)) = true) (h2 : isS (y ++ r) = false) : pickS (List.replicate 64 0 ++ (x ++ (y ++ r))) = 1 := by
  have e1 : (List.replicate 64 0 ++ (x ++ (y ++ r))).drop 64 = x ++ (y ++ r) := List.drop_left' (List.length_replicate ..)
  have e2 : (List.replicate 64 0 ++ (x ++ (y ++ r))).drop 128 = y ++ r := by rw [show 128 = 64 + 64 from rfl, ← List.drop_drop, e1, List.drop_left' hx]
  unfold pickS; rw [e1, e2, h1, h2]; rfl
theorem pick_second {x r y : List Int} (hx : x.length = 64) (h2 : isS (y ++ r) = true) (h1 : isS (x ++ (y ++ r)) = false ∨ wordS (x ++ (y ++ r)) 0 < wordS (y ++ r) 0) : pickS (List.replicate 64 0 ++ (x ++ (y ++ r))) = 2 := by
  have e1 : (List.replicate 64 0 ++ (x ++ (y ++ r))).drop 64 = x ++ (y ++ r) := List.drop_left' (List.length_replicate ..)
  have e2 : (List.replicate 64 0 ++ (x ++ (y ++ r))).drop 128 = y ++ r := by rw [show 128 = 64 + 64 from rfl, ← List.drop_drop, e1, List.drop_left' hx]
  unfold pickS; rw [e1, e2, h2]
  rcases h1 with h | h
  · rw [h]; rfl
  · rw [decide_eq_true h]; simp
theorem pick_elder {x r y : List Int} (hx : x.length = 64) (h1 : isS (x ++ (y ++ r)) = true) (h2 : ¬ wordS (x ++ (y ++ r)) 0 < wordS (y ++ r) 0) : pickS (List.replicate 64 0 ++ (x ++ (y ++ r))) = 1 := by
  have e1 : (List.replicate 64 0 ++ (x ++ (y ++ r))).drop 64 = x ++ (y ++ r) := List.drop_left' (List.length_replicate ..)
  have e2 : (List.replicate 64 0 ++ (x ++ (y ++ r))).drop 128 = y ++ r := by rw [show 128 = 64 + 64 from rfl, ← List.drop_drop, e1, List.drop_left' hx]
  unfold pickS; rw [e1, e2, h1, decide_eq_false h2]; simp

end Go.Proofs.Ytdajjkjpjhpnjaa
