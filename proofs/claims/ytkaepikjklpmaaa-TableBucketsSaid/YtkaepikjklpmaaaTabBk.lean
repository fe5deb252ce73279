/-
  PLAIN ARITHMETIC FOR LAYER 13: rows bucket by bucket, gone through in step with all of them; how many there are.
-/
import Derived.Test.YtkaepikjklpmaaaTabListed
set_option linter.unusedVariables false
set_option maxRecDepth 100000
set_option linter.unusedSimpArgs false
namespace Go.Proofs.Ytkaepikjklpmaaa
open Go.RowKit

section
variable {α : Type} {P : α → Bool} {l : List α} {i k : Nat}
theorem split_at (hi : i < l.length) : l = l.take i ++ l[i] :: l.drop (i + 1) := by rw [← List.drop_eq_getElem_cons hi, List.take_append_drop]
theorem filt_no (h : (l.take i).filter P = (l.filter P).take k) (hi : i < l.length) (hp : P l[i] = false) : (l.take (i + 1)).filter P = (l.filter P).take k := by
  rw [List.take_succ_eq_append_getElem hi, List.filter_append, h]
  simp [hp]
theorem filt_yes (h : (l.take i).filter P = (l.filter P).take k) (hi : i < l.length) (hp : P l[i] = true) (hk : k < (l.filter P).length) : (l.filter P)[k]? = some l[i] ∧ (l.take (i + 1)).filter P = (l.filter P).take (k + 1) := by
  have hs : l.filter P = (l.take i).filter P ++ l[i] :: (l.drop (i + 1)).filter P := by
    have := congrArg (List.filter P) (split_at hi)
    rw [List.filter_append, List.filter_cons, if_pos hp] at this
    exact this
  have hl : ((l.take i).filter P).length = k := by rw [h, List.length_take]; omega
  have hg : (l.filter P)[k]? = some l[i] := by
    rw [hs, List.getElem?_append_right (by omega), hl, Nat.sub_self]; rfl
  refine ⟨hg, ?_⟩
  rw [List.take_succ_eq_append_getElem hi, List.filter_append, h, List.take_succ_eq_append_getElem hk]
  obtain ⟨_, e⟩ := List.getElem?_eq_some_iff.1 hg
  simp [hp, e]
theorem filt_more (h : (l.take i).filter P = (l.filter P).take k) (hk : k < (l.filter P).length) : i < l.length := by
  rcases Nat.lt_or_ge i l.length with hi | hi
  · exact hi
  · rw [List.take_of_length_le hi] at h
    have := congrArg List.length h
    rw [List.length_take] at this
    omega
end

/-- How many rows lie in the first buckets. -/
def cntB (g : TRow → Nat) (b : Nat) (l : List TRow) : Nat := (l.filter fun r => decide (g r < b)).length
theorem cntB_zero (g : TRow → Nat) (l : List TRow) : cntB g 0 l = 0 := by
  unfold cntB; simp
theorem cntB_next (g : TRow → Nat) (b : Nat) : ∀ l : List TRow, cntB g (b + 1) l = cntB g b l + (l.filter fun r => decide (g r = b)).length
  | [] => rfl
  | r :: l => by
    have ih := cntB_next g b l
    unfold cntB at ih ⊢
    rw [List.filter_cons, List.filter_cons, List.filter_cons]
    by_cases h1 : g r < b
    · rw [if_pos (by simp; omega), if_pos (by simp; omega), if_neg (by simp; omega)]
      simp only [List.length_cons]; omega
    · by_cases h2 : g r = b
      · rw [if_pos (by simp; omega), if_neg (by simp; omega), if_pos (by simp; omega)]
        simp only [List.length_cons]; omega
      · rw [if_neg (by simp; omega), if_neg (by simp; omega), if_neg (by simp; omega)]
        exact ih
theorem cntB_all {g : TRow → Nat} {n : Nat} {l : List TRow} (h : ∀ r ∈ l, g r < n) : cntB g n l = l.length := by
  unfold cntB
  rw [List.filter_eq_self.2 (fun r hr => by simpa using h r hr)]
theorem cntB_le (g : TRow → Nat) (b : Nat) (l : List TRow) : cntB g b l ≤ l.length := by unfold cntB; exact List.length_filter_le _ _

/-- A row's bucket. -/
def gB (key : Int) (D : Nat) (r : TRow) : Nat := (hsh key r.raw % (D : Int)).toNat
theorem gB_eq (key : Int) {D : Nat} (hD : 1 ≤ D) (r : TRow) : (hsh key r.raw) % (D : Int) = (gB key D r : Nat) ∧ gB key D r < D := by
  have h1 := Int.emod_nonneg (hsh key r.raw) (b := (D : Int)) (by omega)
  have h2 := Int.emod_lt_of_pos (hsh key r.raw) (b := (D : Int)) (by omega)
  unfold gB
  omega
theorem bktN_small {D : Nat} {F : Int} {b : Nat} (hb : b < D) : bktN (D : Int) F 1 (b : Int) = b := by
  unfold bktN bucket nb
  rw [if_pos rfl, if_neg (by omega), Int.emod_eq_of_lt (by omega) (by omega)]
  omega
theorem chain_gB {key F : Int} {D : Nat} (hD : 1 ≤ D) {l : List TRow} (h : ∀ r ∈ l, r.k = 1) (b : Nat) : chainL key D F 1 (b : Nat) l = l.filter fun r => decide (gB key D r = b) := by
  unfold chainL
  refine List.filter_congr fun r hr => ?_
  have h1 := h r hr
  have h2 := (gB_eq key hD r).1
  unfold inB bkt bucket nb
  rw [h1, if_pos rfl, if_neg (by omega), h2]
  by_cases e : gB key D r = b
  · simp [e]
  · have e2 : ¬ ((gB key D r : Nat) : Int) = (b : Nat) := by omega
    simp [e, e2]

end Go.Proofs.Ytkaepikjklpmaaa
