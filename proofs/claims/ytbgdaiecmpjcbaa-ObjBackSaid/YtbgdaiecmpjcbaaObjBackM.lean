/-
  PLAIN ARITHMETIC FOR ObjBack: what is encoded, with noughts ahead and any bytes behind, is decoded as it was.
-/
import Derived.Test.YtbgdaiecmpjcbaaObjDecM
import Derived.Test.YtbgdaiecmpjcbaaLeBackP
set_option linter.unusedVariables false
set_option linter.unusedSimpArgs false
namespace Go.Proofs.Ytbgdaiecmpjcbaa
open Go.RowKit

theorem dec_back {K k : Nat} {ws rs is es : List Int} (hK : K % 8 = 0) (hr : rightN k ws.length rs.length is.length = true) (hw : ∀ z ∈ ws, 0 ≤ z ∧ z < 18446744073709551616) (hi : ∀ z ∈ is, 0 ≤ z ∧ z < 18446744073709551616) (zs : List Int)
    (hz : zs = List.replicate K 0 ++ encO k ws rs is ++ es) :
    ∃ s, DecAt zs K k s ∧ decB zs K k s = true ∧ s + padn s 8 = (encO k ws rs is).length ∧ dW (objB zs K s) k = ws ∧ dR (objB zs K s) k = rs ∧ dI (objB zs K s) k = is := by
  obtain ⟨h1, h2, h3, h4⟩ := rightN_len hr
  obtain ⟨k1, k4⟩ := rightN_kind hr
  have hk4 : k ≤ 4 := by omega
  obtain ⟨s, hs⟩ : ∃ s, bareN k rs.length is.length = s := ⟨_, rfl⟩
  have hfk : frontN k = 16 + 8 * kwN k := rfl
  have hsv : s = 16 + 8 * ws.length + rs.length + 8 * is.length := by rw [← hs]; unfold bareN; omega
  have hhl : (headO k ws rs is).length = s := by rw [headO_length, hsv]
  have hel : (encO k ws rs is).length = s + padn s 8 := by unfold encO; rw [List.length_append, List.length_replicate, hhl]
  have hd : zs.drop K = encO k ws rs is ++ es := by rw [hz, List.append_assoc, List.drop_left' (List.length_replicate ..)]
  have hzl : zs.length = K + (s + padn s 8) + es.length := by rw [hz, List.length_append, List.length_append, List.length_replicate, hel]
  have hde : zs.drop K = headO k ws rs is ++ (List.replicate (padn s 8) 0 ++ es) := by rw [hd]; unfold encO; rw [hhl, List.append_assoc]
  have hob : objB zs K s = headO k ws rs is := by unfold objB; rw [hde, List.take_left' hhl]
  have l8 : (bts (k : Int) 8).length = 8 := by rw [bts_length]; rfl
  have l9 : (bts (s : Int) 8).length = 8 := by rw [bts_length]; rfl
  have hhe : headO k ws rs is = bts k 8 ++ (bts s 8 ++ (wordsB ws ++ (rs ++ wordsB is))) := by
    unfold headO; rw [wordsB_two, hs]; simp only [List.append_assoc]
  have g1 : (zs.drop K).take 8 = bts k 8 := by rw [hde, hhe]; simp only [List.append_assoc]; rw [List.take_left' l8]
  have g2 : (zs.drop (K + 8)).take 8 = bts s 8 := by
    rw [← List.drop_drop, hde, hhe]; simp only [List.append_assoc]; rw [List.drop_left' l8, List.take_left' l9]
  have hda : DecAt zs K k s := ⟨hK, by omega, by rw [g1, lev_bts (by omega)], by rw [g2, lev_bts (by omega)], hk4, by omega⟩
  have hwl : (wordsB ws).length = 8 * kwN k := by rw [wordsB_length, h1]
  have f16 : (headO k ws rs is).drop 16 = wordsB ws ++ (rs ++ wordsB is) := by
    rw [hhe, ← List.append_assoc, List.drop_left' (by rw [List.length_append, l8, l9])]
  have ffr : (headO k ws rs is).drop (frontN k) = rs ++ wordsB is := by
    rw [hfk, ← List.drop_drop, f16, List.drop_left' hwl]
  have q1 : dW (objB zs K s) k = ws := by
    unfold dW; rw [hob, f16, ← h1]; exact wrds_wordsB ws _ hw
  have hm : mayB k s = true ∧ dR (objB zs K s) k = rs ∧ dI (objB zs K s) k = is := by
    unfold rightN at hr
    unfold mayB dR dI
    rw [hob, ffr, hhl]
    by_cases hh : hasI k = true
    · rw [if_pos hh] at hr ⊢
      rw [if_pos hh, if_pos hh]
      simp at hr
      have hrs : rs = [] := List.eq_nil_of_length_eq_zero (by simpa using hr.1.1.2)
      have hr0 : rs.length = 0 := by rw [hrs]; rfl
      refine ⟨by simp; omega, hrs.symm, ?_⟩
      rw [hrs, List.nil_append, show (s - frontN k) / 8 = is.length by omega]
      have h := wrds_wordsB is [] hi
      rwa [List.append_nil] at h
    · rw [if_neg hh] at hr ⊢
      rw [if_neg hh, if_neg hh]
      simp at hr
      have his : is = [] := List.eq_nil_of_length_eq_zero (by simpa using hr.1.1.2)
      have hi0 : is.length = 0 := by rw [his]; rfl
      refine ⟨by simp; omega, ?_, his.symm⟩
      rw [his]; simp [wordsB]
  refine ⟨s, hda, ?_, by rw [hel], q1, hm.2.1, hm.2.2⟩
  unfold decB
  rw [hm.1]
  simp only [Bool.true_and, Bool.and_eq_true, decide_eq_true_eq]
  refine ⟨by omega, ?_⟩
  have e : (zs.drop (K + s)).take (padn s 8) = List.replicate (padn s 8) 0 := by
    rw [← List.drop_drop, hde, List.drop_left' hhl, List.take_left' (List.length_replicate ..)]
  rw [e]
  unfold zerB
  simp

end Go.Proofs.Ytbgdaiecmpjcbaa
