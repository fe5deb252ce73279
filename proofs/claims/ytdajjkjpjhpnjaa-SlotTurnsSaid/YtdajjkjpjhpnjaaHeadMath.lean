/-
  PLAIN ARITHMETIC FOR LAYER 10, of no program but by its imports: a header's bytes, and the header that bytes begin with.
-/
import Derived.Test.YtdajjkjpjhpnjaaLeBackP
import Derived.Test.YtdajjkjpjhpnjaaCrcMath
set_option linter.unusedVariables false
set_option maxRecDepth 100000
set_option linter.unusedSimpArgs false
namespace Go.Proofs.Ytdajjkjpjhpnjaa

/-- How a file begins. -/
def magicB : List Int := [76, 79, 71, 66, 79, 79, 75, 49]
/-- May a header have so many buckets? -/
def rightH (d f : Int) : Bool := decide (1 ≤ d) && decide (d ≤ 256) && decide (1 ≤ f) && decide (f ≤ 256)
/-- A header's bytes, ahead of its sum. -/
def wordsH (i k d f m : Int) : List Int := magicB ++ wordsB [i, k, d, f, m]
/-- A header's bytes. -/
def encH (i k d f m : Int) : List Int := wordsH i k d f m ++ bts (crcAdd 0 (wordsH i k d f m) : Nat) 4 ++ List.replicate 12 0

theorem magicB_bytes : AreB magicB := fun z hz => by simp [magicB] at hz; omega
theorem wordsH_length (i k d f m : Int) : (wordsH i k d f m).length = 48 := by unfold wordsH; rw [List.length_append, wordsB_length]; rfl
theorem wordsH_bytes (i k d f m : Int) : AreB (wordsH i k d f m) := magicB_bytes.append (wordsB_bytes _)
theorem encH_length (i k d f m : Int) : (encH i k d f m).length = 64 := by
  unfold encH; rw [List.length_append, List.length_append, wordsH_length, bts_length, List.length_replicate]; rfl
theorem encH_bytes (i k d f m : Int) : AreB (encH i k d f m) := ((wordsH_bytes _ _ _ _ _).append (bts_bytes _ _)).append (AreB.zeros _)

theorem lev8_bts {n : Int} (h : 0 ≤ n ∧ n < 18446744073709551616) : lev (bts n 8) = n := lev_enb 8 n h.1 (by
  have : (256 : Int) ^ 8 = 18446744073709551616 := by decide
  omega)

/-- The five words of what begins with a header. -/
theorem encH_word (i k d f m : Int) (r : List Int) (j : Nat) (hj : j < 5) : (((encH i k d f m ++ r).drop (8 + 8 * j)).take 8) = bts ([i, k, d, f, m].getD j 0) 8 := by
  have l8 : ∀ n : Int, (bts n 8).length = 8 := fun n => by rw [bts_length]; rfl
  have e : encH i k d f m ++ r = magicB ++ (bts i 8 ++ (bts k 8 ++ (bts d 8 ++ (bts f 8 ++ (bts m 8 ++ (bts (crcAdd 0 (wordsH i k d f m) : Nat) 4 ++ (List.replicate 12 0 ++ r))))))) := by
    unfold encH wordsH
    simp [wordsB, List.append_assoc]
  rw [e, ← List.drop_drop, List.drop_left' (show magicB.length = 8 from rfl)]
  match j, hj with
  | 0, _ => exact List.take_left' (l8 _)
  | 1, _ => rw [show 8 * 1 = 8 from rfl, List.drop_left' (l8 _)]; exact List.take_left' (l8 _)
  | 2, _ => rw [show 8 * 2 = 8 + 8 from rfl, ← List.drop_drop, List.drop_left' (l8 _), List.drop_left' (l8 _)]; exact List.take_left' (l8 _)
  | 3, _ => rw [show 8 * 3 = 8 + 8 + 8 from rfl, ← List.drop_drop, ← List.drop_drop, List.drop_left' (l8 _), List.drop_left' (l8 _), List.drop_left' (l8 _)]; exact List.take_left' (l8 _)
  | 4, _ => rw [show 8 * 4 = 8 + 8 + 8 + 8 from rfl, ← List.drop_drop, ← List.drop_drop, ← List.drop_drop, List.drop_left' (l8 _), List.drop_left' (l8 _), List.drop_left' (l8 _), List.drop_left' (l8 _)]; exact List.take_left' (l8 _)
  | n + 5, h => omega

/-- What stands where a header's words stand. -/
def wordAt (zs : List Int) (j : Nat) : Int := lev ((zs.drop (8 + 8 * j)).take 8)

/-- Do bytes begin with a header? -/
def isH (zs : List Int) : Bool :=
  decide (64 ≤ zs.length) && rightH (wordAt zs 2) (wordAt zs 3) && decide (encH (wordAt zs 0) (wordAt zs 1) (wordAt zs 2) (wordAt zs 3) (wordAt zs 4) = zs.take 64)

/-- What is encoded is a header, whatever stands behind it. -/
theorem isH_enc {i k d f m : Int} (hi : 0 ≤ i ∧ i < 18446744073709551616) (hk : 0 ≤ k ∧ k < 18446744073709551616) (hm : 0 ≤ m ∧ m < 18446744073709551616) (hr : rightH d f = true) (r : List Int) :
    isH (encH i k d f m ++ r) = true ∧ wordAt (encH i k d f m ++ r) 0 = i ∧ wordAt (encH i k d f m ++ r) 1 = k ∧ wordAt (encH i k d f m ++ r) 2 = d ∧ wordAt (encH i k d f m ++ r) 3 = f ∧ wordAt (encH i k d f m ++ r) 4 = m := by
  have hr2 : 1 ≤ d ∧ d ≤ 256 ∧ 1 ≤ f ∧ f ≤ 256 := by simp [rightH] at hr; omega
  have w : ∀ j, j < 5 → wordAt (encH i k d f m ++ r) j = lev (bts ([i, k, d, f, m].getD j 0) 8) := fun j hj => by unfold wordAt; rw [encH_word i k d f m r j hj]
  have w0 : wordAt (encH i k d f m ++ r) 0 = i := (w 0 (by omega)).trans (lev8_bts hi)
  have w1 : wordAt (encH i k d f m ++ r) 1 = k := (w 1 (by omega)).trans (lev8_bts hk)
  have w2 : wordAt (encH i k d f m ++ r) 2 = d := (w 2 (by omega)).trans (lev8_bts (n := d) ⟨by omega, by omega⟩)
  have w3 : wordAt (encH i k d f m ++ r) 3 = f := (w 3 (by omega)).trans (lev8_bts (n := f) ⟨by omega, by omega⟩)
  have w4 : wordAt (encH i k d f m ++ r) 4 = m := (w 4 (by omega)).trans (lev8_bts hm)
  refine ⟨?_, w0, w1, w2, w3, w4⟩
  unfold isH
  rw [w0, w1, w2, w3, w4, hr, List.take_left' (encH_length _ _ _ _ _)]
  simp [encH_length]

end Go.Proofs.Ytdajjkjpjhpnjaa
