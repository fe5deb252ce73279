/-
  PLAIN ARITHMETIC FOR LAYER 13 AND THOSE ABOVE: bytes that stand at a place of an image; what a word that is set, and what is put behind, do to them.
-/
import Derived.Test.YtblpmnipapimcaaTaBase
set_option linter.unusedVariables false
set_option maxRecDepth 100000
set_option linter.unusedSimpArgs false
namespace Go.Proofs.Ytblpmnipapimcaa
open Go.RowKit

/-- These bytes stand there. -/
structure HoldsB (b : List Int) (j : Nat) (x : List Int) : Prop where
  fit : j + x.length ≤ b.length
  eq : (b.drop j).take x.length = x

theorem HoldsB.add {b x : List Int} {j : Nat} (h : HoldsB b j x) (y : List Int) : HoldsB (b ++ y) j x := by
  have h1 := h.fit
  refine ⟨by rw [List.length_append]; omega, ?_⟩
  rw [List.drop_append_of_le_length (by omega), List.take_append_of_le_length (by rw [List.length_drop]; omega)]
  exact h.eq
theorem HoldsB.new (b x : List Int) : HoldsB (b ++ x) b.length x := by
  refine ⟨by rw [List.length_append]; omega, ?_⟩
  rw [List.drop_append_of_le_length (Nat.le_refl _), List.drop_length, List.nil_append, List.take_length]
theorem HoldsB.byte {b x : List Int} {j i : Nat} (h : HoldsB b j x) (hi : i < x.length) : nz b (j + i) = nz x i := by
  have e := h.eq
  have h2 : nz ((b.drop j).take x.length) i = nz x i := by rw [e]
  rw [nz_take, if_pos hi, nz_drop] at h2
  exact h2
theorem HoldsB.of_nz {b x : List Int} {j : Nat} (hf : j + x.length ≤ b.length) (h : ∀ i, i < x.length → nz b (j + i) = nz x i) : HoldsB b j x := by
  refine ⟨hf, ext_nz (by rw [List.length_take, List.length_drop]; omega) fun i hi => ?_⟩
  rw [List.length_take, List.length_drop] at hi
  rw [nz_take, if_pos (by omega), nz_drop]
  exact h i (by omega)

/-- A word elsewhere. -/
theorem HoldsB.far {b x y : List Int} {j k : Nat} (h : HoldsB b j x) (hk : k + y.length ≤ b.length) (ho : k + y.length ≤ j ∨ j + x.length ≤ k) : HoldsB (splice b k y) j x := by
  have h1 := h.fit
  refine .of_nz (by rw [splice_len _ _ _ hk]; exact h1) fun i hi => ?_
  rw [nz_splice _ _ _ _ (by omega), if_neg (by omega)]
  exact h.byte hi
/-- A word within. -/
theorem HoldsB.within {b x y : List Int} {j o : Nat} (h : HoldsB b j x) (ho : o + y.length ≤ x.length) : HoldsB (splice b (j + o) y) j (splice x o y) := by
  have h1 := h.fit
  have hl : (splice x o y).length = x.length := splice_len _ _ _ ho
  refine .of_nz (by rw [hl, splice_len _ _ _ (by omega)]; exact h1) fun i hi => ?_
  rw [hl] at hi
  rw [nz_splice _ _ _ _ (by omega), nz_splice _ _ _ _ (by omega)]
  by_cases hc : o ≤ i ∧ i < o + y.length
  · rw [if_pos (by omega), if_pos hc]; congr 1; omega
  · rw [if_neg (by omega), if_neg hc]; exact h.byte hi

theorem splice_left (a x y : List Int) (k : Nat) : splice (a ++ x) (a.length + k) y = a ++ splice x k y := by
  unfold splice
  rw [List.take_append, List.take_of_length_le (by omega), List.drop_append, List.drop_eq_nil_of_le (by omega), Nat.add_sub_cancel_left, List.nil_append, Nat.add_assoc, Nat.add_sub_cancel_left]
  simp only [List.append_assoc]
theorem wordsB_cons (z : Int) (l : List Int) : wordsB (z :: l) = bts z 8 ++ wordsB l := by simp [wordsB]
theorem wordsB_at : ∀ (l r : List Int) (i : Nat), i < l.length → ((wordsB l ++ r).drop (8 * i)).take 8 = bts (l.getD i 0) 8
  | [], _, i, h => by simp at h
  | z :: l, r, 0, _ => by
    rw [wordsB_cons, List.append_assoc, Nat.mul_zero, List.drop_zero, List.take_left' (bts8_length z)]; rfl
  | z :: l, r, i + 1, h => by
    have e : 8 * (i + 1) = 8 + 8 * i := by omega
    rw [wordsB_cons, List.append_assoc, e, ← List.drop_drop, List.drop_left' (bts8_length z), wordsB_at l r i (by simpa using h)]; rfl
theorem wordsB_set : ∀ (l r : List Int) (i : Nat) (n : Int), i < l.length → splice (wordsB l ++ r) (8 * i) (bts n 8) = wordsB (l.set i n) ++ r
  | [], _, i, _, h => by simp at h
  | z :: l, r, 0, n, _ => by
    have l8 := bts8_length z
    rw [List.set_cons_zero, wordsB_cons, wordsB_cons]
    unfold splice
    rw [Nat.mul_zero, List.take_zero, List.nil_append, bts8_length n, Nat.zero_add, List.append_assoc, List.drop_left' l8, List.append_assoc]
  | z :: l, r, i + 1, n, h => by
    have l8 := bts8_length z
    have e : 8 * (i + 1) = (bts z 8).length + 8 * i := by rw [l8]; omega
    rw [List.set_cons_succ, wordsB_cons, wordsB_cons, e, List.append_assoc, splice_left, wordsB_set l r i n (by simpa using h), List.append_assoc]

/-- An object's bytes, its words ahead. -/
theorem encO_words {k : Int} {ws rs is : List Int} : ∃ r, ∀ us : List Int, us.length = ws.length → encO k us rs is = wordsB (k :: ((bareN k rs.length is.length : Nat) : Int) :: us) ++ r := by
  refine ⟨rs ++ wordsB is ++ List.replicate (padn (headO k ws rs is).length 8) 0, fun us hu => ?_⟩
  have hl : (headO k us rs is).length = (headO k ws rs is).length := by rw [headO_length, headO_length, hu]
  have e : headO k us rs is = wordsB (k :: ((bareN k rs.length is.length : Nat) : Int) :: us) ++ (rs ++ wordsB is) := by
    unfold headO
    rw [wordsB_two, wordsB_cons k, wordsB_cons _ us]
    simp only [List.append_assoc]
  unfold encO
  rw [hl, e]
  simp only [List.append_assoc]
/-- The i-th word of an object that stands there. -/
theorem HoldsB.word {b : List Int} {j i : Nat} {k : Int} {ws rs is : List Int} (h : HoldsB b j (encO k ws rs is)) (hi : i < ws.length) (hw : ∀ z ∈ ws, 0 ≤ z ∧ z < 18446744073709551616) : gnum b (j + (16 + 8 * i) : Nat) 8 = ws.getD i 0 := by
  obtain ⟨r, hr⟩ := encO_words (k := k) (ws := ws) (rs := rs) (is := is)
  have e := hr ws rfl
  have hlen : 16 + 8 * ws.length ≤ (encO k ws rs is).length := by rw [e, List.length_append, wordsB_length]; simp; omega
  have hf := h.fit
  have hd : ((b.drop (j + (16 + 8 * i))).take 8) = bts (ws.getD i 0) 8 := by
    have h1 := wordsB_at (k :: ((bareN k rs.length is.length : Nat) : Int) :: ws) r (i + 2) (by simp; omega)
    rw [← e, show 8 * (i + 2) = 16 + 8 * i by omega] at h1
    have h2 : (((b.drop j).take (encO k ws rs is).length).drop (16 + 8 * i)).take 8 = bts (ws.getD i 0) 8 := by
      rw [h.eq, h1]; simp
    rw [List.drop_take, List.take_take, Nat.min_eq_left (by omega), List.drop_drop] at h2
    exact h2
  have hb : 0 ≤ ws.getD i 0 ∧ ws.getD i 0 < 18446744073709551616 := by
    rw [List.getD_eq_getElem?_getD, List.getElem?_eq_getElem hi]; exact hw _ (List.getElem_mem hi)
  have hok : gok b.length ((j + (16 + 8 * i) : Nat) : Int) 8 = true := by simp [gok]; omega
  unfold gnum
  rw [hok]
  show lev ((b.drop ((j + (16 + 8 * i) : Nat) : Int).toNat).take 8) = _
  obtain ⟨z, hz⟩ : ∃ z : Nat, ws.getD i 0 = z := ⟨(ws.getD i 0).toNat, by omega⟩
  rw [Int.toNat_natCast, hd, hz, lev_bts (by omega)]
/-- Its i-th word is set. -/
theorem HoldsB.set {b : List Int} {j i : Nat} {k n : Int} {ws rs is : List Int} (h : HoldsB b j (encO k ws rs is)) (hi : i < ws.length) : HoldsB (splice b (j + (16 + 8 * i)) (bts n 8)) j (encO k (ws.set i n) rs is) := by
  obtain ⟨r, hr⟩ := encO_words (k := k) (ws := ws) (rs := rs) (is := is)
  have e := hr ws rfl
  have e2 := hr (ws.set i n) (by simp)
  have hlen : 16 + 8 * ws.length ≤ (encO k ws rs is).length := by rw [e, List.length_append, wordsB_length]; simp; omega
  have h1 := h.within (y := bts n 8) (o := 16 + 8 * i) (by rw [bts8_length]; omega)
  have h2 := wordsB_set (k :: ((bareN k rs.length is.length : Nat) : Int) :: ws) r (i + 2) n (by simp; omega)
  rw [← e, show 8 * (i + 2) = 16 + 8 * i by omega, List.set_cons_succ, List.set_cons_succ, ← e2] at h2
  rw [h2] at h1
  exact h1

/-- What stands at a place and behind it is all that decoding looks at. -/
theorem dec_same {zs ys : List Int} {j k s : Nat} (hl : zs.length = ys.length) (hd : zs.drop j = ys.drop j) (h : DecAt zs j k s) : DecAt ys j k s ∧ decB ys j k s = decB zs j k s ∧ objB ys j s = objB zs j s := by
  have e : ∀ i, ys.drop (j + i) = zs.drop (j + i) := fun i => by rw [← List.drop_drop, ← List.drop_drop, hd]
  refine ⟨⟨h.al, by rw [← hl]; exact h.room, by rw [← hd]; exact h.kd, by rw [e 8]; exact h.sd, h.kk, by rw [← hl]; exact h.fit⟩, ?_, ?_⟩
  · unfold decB; rw [e s, hl]
  · unfold objB; rw [hd]
/-- An object whose bytes stand there is decoded as it was. -/
theorem HoldsB.dec {b : List Int} {j k : Nat} {ws rs is : List Int} (h : HoldsB b j (encO k ws rs is)) (hj : j % 8 = 0) (hr : rightN k ws.length rs.length is.length = true) (hw : ∀ z ∈ ws, 0 ≤ z ∧ z < 18446744073709551616) (hi : ∀ z ∈ is, 0 ≤ z ∧ z < 18446744073709551616) :
    ∃ s, DecAt b j k s ∧ decB b j k s = true ∧ s + padn s 8 = (encO k ws rs is).length ∧ dW (objB b j s) k = ws ∧ dR (objB b j s) k = rs ∧ dI (objB b j s) k = is := by
  have hf := h.fit
  have hd : b.drop j = encO k ws rs is ++ b.drop (j + (encO k ws rs is).length) := by
    have h1 := List.take_append_drop (encO k ws rs is).length (b.drop j)
    rw [h.eq, List.drop_drop] at h1
    exact h1.symm
  obtain ⟨s, h1, h2, h3, h4, h5, h6⟩ := dec_back hj hr hw hi _ (rfl : List.replicate j 0 ++ encO k ws rs is ++ b.drop (j + (encO k ws rs is).length) = _)
  have hl : (List.replicate j 0 ++ encO k ws rs is ++ b.drop (j + (encO k ws rs is).length)).length = b.length := by
    rw [List.length_append, List.length_append, List.length_replicate, List.length_drop]; omega
  obtain ⟨g1, g2, g3⟩ := dec_same hl (by rw [List.append_assoc, List.drop_left' (List.length_replicate ..), ← hd]) h1
  exact ⟨s, g1, by rw [g2]; exact h2, h3, by rw [g3]; exact h4, by rw [g3]; exact h5, by rw [g3]; exact h6⟩

end Go.Proofs.Ytblpmnipapimcaa
