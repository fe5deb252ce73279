/-
  PLAIN ARITHMETIC FOR LAYER 14: the rows that a list's arrays are told by, up to the first 0; where it is.
-/
import Derived.Test.YtblpmnipapimcaaChainList
set_option linter.unusedVariables false
set_option maxRecDepth 100000
set_option linter.unusedSimpArgs false
namespace Go.Proofs.Ytblpmnipapimcaa
open Go.RowKit

/-- The rows that are told: whole arrays, and the part of one ahead of its first 0. -/
def rowsL : List (List Int) → List (List Int)
  | [] => []
  | a :: r => if (placesA a).length = a.length then a :: rowsL r else [placesA a]
theorem placesA_eq {a : List Int} (h : (placesA a).length = a.length) : placesA a = a := by
  have hp : placesA a <+: a := by unfold placesA; exact List.takeWhile_prefix _
  exact hp.eq_of_length h
theorem placesA_take (a : List Int) : placesA a = a.take (placesA a).length := by
  have hp : placesA a <+: a := by unfold placesA; exact List.takeWhile_prefix _
  exact List.prefix_iff_eq_take.1 hp
theorem rowsL_flatten : ∀ z : List (List Int), (rowsL z).flatten = placesA z.flatten
  | [] => rfl
  | a :: r => by
    rw [List.flatten_cons, placesA_append]
    unfold rowsL
    by_cases h : (placesA a).length = a.length
    · rw [if_pos h, if_pos h, List.flatten_cons, rowsL_flatten r]
    · rw [if_neg h, if_neg h]; simp
theorem rowsL_length_le : ∀ z : List (List Int), (rowsL z).length ≤ z.length
  | [] => Nat.le_refl _
  | a :: r => by
    unfold rowsL
    have := rowsL_length_le r
    split
    · simp only [List.length_cons]; omega
    · simp
theorem rowsL_full {pre rest : List (List Int)} (h : ∀ a ∈ pre, (placesA a).length = a.length) : rowsL (pre ++ rest) = pre ++ rowsL rest := by
  induction pre with
  | nil => rfl
  | cons a pre ih =>
    rw [List.cons_append]
    rw [rowsL, if_pos (h a (by simp)), ih (fun b hb => h b (by simp [hb]))]
    rfl
theorem rowsL_cons_full {a : List Int} {r : List (List Int)} (h : (placesA a).length = a.length) : rowsL (a :: r) = a :: rowsL r := by rw [rowsL, if_pos h]
theorem rowsL_cons_cut {a : List Int} {r : List (List Int)} (h : ¬ (placesA a).length = a.length) : rowsL (a :: r) = [placesA a] := by rw [rowsL, if_neg h]

/-- Where the first 0 is; -1: there is none. -/
def idx0 (zs : List Int) : Int := if (placesA zs).length = zs.length then -1 else ((placesA zs).length : Nat)
theorem placesA_at {zs : List Int} (h : ¬ (placesA zs).length = zs.length) : (placesA zs).length < zs.length ∧ zs.getD (placesA zs).length 0 = 0 := by
  have hle := placesA_le zs
  have hlt : (placesA zs).length < zs.length := by omega
  refine ⟨hlt, ?_⟩
  induction zs with
  | nil => simp at hlt
  | cons x r ih =>
    by_cases hx : x = 0
    · subst hx; simp [placesA]
    · have e : placesA (x :: r) = x :: placesA r := by unfold placesA; rw [List.takeWhile_cons_of_pos (by simpa using hx)]
      rw [e] at h hlt ⊢
      simp only [List.length_cons] at h hlt ⊢
      have := ih (by omega) (placesA_le r) (by omega)
      simpa using this
theorem placesA_snoc {zs : List Int} {k : Nat} (hk : k < zs.length) (h : (placesA (zs.take k)).length = k) : (placesA (zs.take (k + 1))).length = (if zs.getD k 0 = 0 then k else k + 1) ∧ (zs.getD k 0 = 0 → (placesA zs).length = k) := by
  have hx : zs.getD k 0 = zs[k] := by rw [List.getD_eq_getElem?_getD, List.getElem?_eq_getElem hk]; rfl
  have hl : (zs.take k).length = k := by rw [List.length_take]; omega
  constructor
  · rw [List.take_succ_eq_append_getElem hk, placesA_append, if_pos (by rw [h, hl]), hx]
    unfold placesA
    by_cases h0 : zs[k] = 0
    · simp [h0]; omega
    · simp [h0]; omega
  · intro h0
    rw [hx] at h0
    have e : zs = zs.take k ++ zs.drop k := (List.take_append_drop k zs).symm
    rw [e, placesA_append, if_pos (by rw [h, hl]), List.drop_eq_getElem_cons hk]
    simp [placesA, h0]; omega

end Go.Proofs.Ytblpmnipapimcaa
