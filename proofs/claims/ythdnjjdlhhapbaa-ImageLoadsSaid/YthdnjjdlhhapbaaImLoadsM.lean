/-
  LAYER 12: the numbers of ImageLoads: the word at 192 of bytes that begin as a new image's do.
-/
import Derived.Test.YthdnjjdlhhapbaaImLaw
set_option linter.unusedVariables false
set_option maxRecDepth 100000
set_option linter.unusedSimpArgs false
namespace Go.Proofs.Ythdnjjdlhhapbaa
open Go.RowKit

theorem word192 (e zs : List Int) (Z M : Nat) (he : e.length = 64) (hZ : 208 ≤ Z) (hM : 272 ≤ M) (hl : M ≤ 64 + Z + zs.length) (x : List Int) :
    gnum (((e ++ List.replicate Z 0) ++ zs).take M ++ x) 192 8 = 0 := by
  have hlen : (((e ++ List.replicate Z 0) ++ zs).take M).length = M := by
    rw [List.length_take, List.length_append, List.length_append, he, List.length_replicate]; omega
  have h1 : ((((e ++ List.replicate Z 0) ++ zs).take M ++ x).drop 192).take 8 = List.replicate 8 0 := by
    rw [List.drop_append_of_le_length (by omega), List.take_append_of_le_length (by rw [List.length_drop]; omega), List.drop_take, List.take_take, Nat.min_eq_left (by omega), List.append_assoc, List.drop_append, List.drop_eq_nil_of_le (by omega), List.nil_append, he,
      List.drop_append_of_le_length (by rw [List.length_replicate]; omega), List.drop_replicate, List.take_append_of_le_length (by rw [List.length_replicate]; omega), List.take_replicate, Nat.min_eq_left (by omega)]
  unfold gnum
  split
  · show lev (((_ : List Int).drop 192).take 8) = 0
    rw [h1]; decide
  · rfl

theorem word192_set (b : List Int) (h : 200 ≤ b.length) : gnum (splice b 192 (bts 7 8)) 192 8 = 7 := by
  have l8 : (bts 7 8).length = 8 := by rw [bts_length]; rfl
  have hl : (splice b 192 (bts 7 8)).length = b.length := splice_len _ _ _ (by omega)
  have hok : gok (splice b 192 (bts 7 8)).length 192 8 = true := by rw [hl]; simp [gok]; omega
  have h1 : ((splice b 192 (bts 7 8)).drop 192).take 8 = bts 7 8 := by
    unfold splice
    have ht : (b.take 192).length = 192 := by rw [List.length_take]; omega
    rw [List.drop_append, List.drop_eq_nil_of_le (by omega), List.nil_append, ht, Nat.sub_self, List.drop_zero, List.take_append_of_le_length (by omega), List.take_of_length_le (by omega)]
  unfold gnum
  rw [hok]
  show lev (((_ : List Int).drop 192).take 8) = 7
  rw [h1]; decide

/-- What is asked of the copy, behind Put and Set. -/
theorem loads_copy (xs : List Int) (M : Nat) (hx : xs.length = M) (h1 : 272 ≤ M) (h2 : M ≤ 5000) (hz : ∀ x, gnum (xs ++ x) 192 8 = 0) (y : List Int) (hy : y.length = 32) :
    ∃ c : IM, (⟨xs, xs, [], 1048576⟩ : IM).put y = c ∧ c.b = xs ++ y ∧ c.was = xs ∧ c.words = [] ∧ c.setE 192 = 0 ∧ (c.set 192 7).b.length = M + 32 ∧ (c.set 192 7).word 192 = 7 := by
  have hne : y ≠ [] := fun e => by rw [e] at hy; simp at hy
  have e1 : (⟨xs, xs, [], 1048576⟩ : IM).putE y = 0 := by
    unfold IM.putE
    rw [if_neg hne, if_neg (by show ¬ 1048576 < xs.length + y.length; omega)]
  have e2 : (⟨xs, xs, [], 1048576⟩ : IM).put y = ⟨xs ++ y, xs, [], 1048576⟩ := by unfold IM.put; rw [if_pos e1]; rfl
  have hlen : (xs ++ y).length = M + 32 := by rw [List.length_append]; omega
  have hw : (⟨xs ++ y, xs, [], 1048576⟩ : IM).word 192 = 0 := hz y
  have hmay : (⟨xs ++ y, xs, [], 1048576⟩ : IM).may 192 = true := by
    unfold IM.may
    show (gok (xs ++ y).length 192 8 && _ && _) = true
    rw [hlen]; simp [gok]; omega
  have e3 : (⟨xs ++ y, xs, [], 1048576⟩ : IM).setE 192 = 0 := by unfold IM.setE; rw [if_pos hmay, if_pos hw]
  have e4 : (⟨xs ++ y, xs, [], 1048576⟩ : IM).set 192 7 = (⟨xs ++ y, xs, [], 1048576⟩ : IM).put8 192 7 := by unfold IM.set; rw [if_pos e3]; rfl
  refine ⟨_, e2, rfl, rfl, rfl, e3, ?_, ?_⟩
  · rw [e4]
    show (splice (xs ++ y) 192 (bts 7 8)).length = _
    rw [splice_len _ _ _ (by rw [bts_length, hlen]; omega), hlen]
  · rw [e4]
    exact word192_set (xs ++ y) (by omega)

end Go.Proofs.Ythdnjjdlhhapbaa
