/-
  LAYER 16, plain: items that are put in, one behind the other; how many of them are new; the entries that rise.
-/
import Derived.Test.YtobbkhncnokpiaaGreatEnBase
set_option linter.unusedVariables false
set_option maxRecDepth 100000
set_option linter.unusedSimpArgs false
namespace Go.Proofs.YtobbkhncnokpiaaGreat
open Go.RowKit Go.Shelf

/-- How many of the items are not there. -/
def newsD (R : List DR) (zs : List (List Int)) : Nat := (zs.filter fun z => (findD R z).isNone).length
theorem newsD_le (R : List DR) (zs : List (List Int)) : newsD R zs ≤ zs.length := List.length_filter_le _ _
theorem newsD_snoc (R : List DR) (zs : List (List Int)) (z : List Int) : newsD R (zs ++ [z]) = newsD R zs + (if findD R z = none then 1 else 0) := by
  unfold newsD
  rw [List.filter_append, List.length_append]
  congr 1
  by_cases h : findD R z = none
  · rw [if_pos h, List.filter_cons_of_pos (by rw [h]; rfl)]; rfl
  · rw [if_neg h, List.filter_cons_of_neg (by cases e : findD R z with
      | none => exact absurd e h
      | some a => simp)]; rfl
theorem newsD_take (R : List DR) (zs : List (List Int)) (j : Nat) : newsD R (zs.take j) ≤ newsD R zs := by
  unfold newsD
  exact (List.Sublist.filter _ (List.take_sublist j zs)).length_le

theorem findD_other {R : List DR} {z y : List Int} {a : Nat} (h : y ≠ z) : findD (insD R z a) y = findD R y := by
  unfold insD
  split
  · rfl
  · unfold findD
    rw [List.find?_append]
    cases hc : R.find? (fun r => r.item == y) with
    | some r => rfl
    | none =>
      have : ¬ ((z == y) = true) := fun e => h (eq_of_beq e).symm
      rw [List.find?_cons_of_neg (p := fun r : DR => r.item == y) (a := ⟨z, a, []⟩) this]
      rfl

/-- ITEMS THAT ARE THERE: R the rows ahead, R' those behind, ps their places. -/
structure InsAt (R R' : List DR) (zs : List (List Int)) (ps : List Int) (O : List GO) (Lr : List Int) (E : List (List (List Int))) : Prop where
  el : EL R' O Lr E
  len : ps.length = zs.length
  known : ∀ (i : Nat) z, zs[i]? = some z → ∃ a : Nat, findD R' z = some a ∧ ps[i]? = some (a : Int)
  same : ∀ y, y ∉ zs → findD R' y = findD R y
theorem InsAt.nothing {R : List DR} {O : List GO} {Lr : List Int} {E : List (List (List Int))} (h : EL R O Lr E) : InsAt R R [] [] O Lr E :=
  ⟨h, rfl, fun i z hz => by simp at hz, fun _ _ => rfl⟩
theorem InsAt.ins {R R' : List DR} {zs : List (List Int)} {ps : List Int} {O : List GO} {Lr : List Int} {E : List (List (List Int))} (h : InsAt R R' zs ps O Lr E) {z : List Int} {a b : Nat} (hf : findD (insD R' z a) z = some b) : InsAt R (insD R' z a) (zs ++ [z]) (ps ++ [(b : Int)]) O Lr E := by
  refine ⟨h.el.ins z a, by rw [List.length_append, List.length_append, h.len]; rfl, fun i y hy => ?_, fun y hy => ?_⟩
  · rcases Nat.lt_or_ge i zs.length with hi | hi
    · rw [List.getElem?_append_left hi] at hy
      obtain ⟨c, h1, h2⟩ := h.known i y hy
      exact ⟨c, findD_insD h1, by rw [List.getElem?_append_left (by rw [h.len]; exact hi)]; exact h2⟩
    · rw [List.getElem?_append_right hi] at hy
      have hi0 : i - zs.length = 0 := by
        rcases Nat.eq_zero_or_pos (i - zs.length) with e | e
        · exact e
        · rw [List.getElem?_eq_none (by simp; omega)] at hy; cases hy
      rw [hi0] at hy
      have : z = y := by simpa using hy
      subst this
      exact ⟨b, hf, by rw [List.getElem?_append_right (by rw [h.len]; exact hi), h.len, hi0]; rfl⟩
  · have h1 : y ∉ zs := fun e => hy (List.mem_append.2 (.inl e))
    have h2 : y ≠ z := fun e => hy (List.mem_append.2 (.inr (by simp [e])))
    rw [findD_other h2]
    exact h.same y h1
theorem InsAt.mem {R R' : List DR} {zs : List (List Int)} {ps : List Int} {O : List GO} {Lr : List Int} {E : List (List (List Int))} (h : InsAt R R' zs ps O Lr E) : ∀ z ∈ zs, (findD R' z).isSome = true := fun z hz => by
  obtain ⟨i, hi⟩ := List.getElem?_of_mem hz
  obtain ⟨a, h1, -⟩ := h.known i z hi
  rw [h1]; rfl
theorem InsAt.eq {R R' : List DR} {zs : List (List Int)} {ps : List Int} {O : List GO} {Lr : List Int} {E : List (List (List Int))} (h : InsAt R R' zs ps O Lr E) : ps = zs.map fun z => (((findD R' z).getD 0 : Nat) : Int) := by
  refine List.ext_getElem? fun i => ?_
  rw [List.getElem?_map]
  cases hz : zs[i]? with
  | none =>
    have := List.getElem?_eq_none_iff.1 hz
    rw [List.getElem?_eq_none (by rw [h.len]; exact this)]; rfl
  | some z =>
    obtain ⟨a, h1, h2⟩ := h.known i z hz
    rw [h2]
    show _ = some (((findD R' z).getD 0 : Nat) : Int)
    rw [h1]; rfl

/-- A row's list is no longer than there are entries. -/
theorem EL.short {R : List DR} {O : List GO} {Lr : List Int} {E : List (List (List Int))} (H : EL R O Lr E) : ∀ r ∈ R, r.L.length ≤ O.length := fun r hr => by
  rw [H.have_ r hr, List.length_map]
  refine Nat.le_trans (List.length_filter_le _ _) ?_
  rw [List.length_zip]; omega
theorem pushAll_short {R : List DR} {x : Int} {zs : List (List Int)} {n : Nat} (hn : zs.Nodup) (h : ∀ r ∈ R, r.L.length ≤ n) : ∀ r ∈ pushAll R zs x, r.L.length ≤ n + 1 := fun r hr => by
  rw [pushAll_eq x zs R hn] at hr
  obtain ⟨q, hq, rfl⟩ := List.mem_map.1 hr
  have := h q hq
  split
  · show (q.L ++ [x]).length ≤ _
    rw [List.length_append]; simp; omega
  · omega

end Go.Proofs.YtobbkhncnokpiaaGreat
