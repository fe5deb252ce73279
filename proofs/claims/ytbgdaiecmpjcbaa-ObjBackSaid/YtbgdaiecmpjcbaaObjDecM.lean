/-
  PLAIN ARITHMETIC FOR LAYER 9: the object that stands at a place of bytes; what it is encoded to. Of no program but by its imports.
-/
import Derived.Test.YtbgdaiecmpjcbaaObjEncR
set_option linter.unusedVariables false
set_option linter.unusedSimpArgs false
namespace Go.Proofs.Ytbgdaiecmpjcbaa
open Go.RowKit

/-- May an object of a kind have a size? -/
def mayB (k s : Int) : Bool :=
  if hasI k then decide ((s - frontN k) % 8 = 0) && decide (8 ≤ s - frontN k) && decide (s - frontN k ≤ 8 * mostN k) else decide (1 ≤ s - frontN k) && decide (s - frontN k ≤ mostN k)

/-- Are all bytes noughts? -/
def zerB (l : List Int) : Bool := decide (l = List.replicate l.length 0)

/-- A kind and a size stand at place j, and so many bytes do. -/
structure DecAt (zs : List Int) (j k s : Nat) : Prop where
  al : j % 8 = 0
  room : j + 16 ≤ zs.length
  kd : lev ((zs.drop j).take 8) = (k : Int)
  sd : lev ((zs.drop (j + 8)).take 8) = (s : Int)
  kk : k ≤ 4
  fit : j + s ≤ zs.length

/-- .. and it is an object, whole, filled up with noughts. -/
def decB (zs : List Int) (j k s : Nat) : Bool := mayB k s && decide (j + s + padn s 8 ≤ zs.length) && zerB ((zs.drop (j + s)).take (padn s 8))

/-- An object's own bytes. -/
def objB (zs : List Int) (j s : Nat) : List Int := (zs.drop j).take s
/-- Its words, its bytes, its numbers. -/
def dW (bs : List Int) (k : Int) : List Int := wrds (kwN k) (bs.drop 16)
def dR (bs : List Int) (k : Int) : List Int := if hasI k then [] else bs.drop (frontN k)
def dI (bs : List Int) (k : Int) : List Int := if hasI k then wrds ((bs.length - frontN k) / 8) (bs.drop (frontN k)) else []

theorem dW_length (bs : List Int) (k : Int) : (dW bs k).length = kwN k := wrds_length _ _
theorem dR_length (bs : List Int) (k : Int) : (dR bs k).length = if hasI k then 0 else bs.length - frontN k := by unfold dR; split <;> simp
theorem dI_length (bs : List Int) (k : Int) : (dI bs k).length = if hasI k then (bs.length - frontN k) / 8 else 0 := by unfold dI; split <;> simp [wrds_length]
theorem dR_bytes {bs : List Int} {k : Int} (h : AreB bs) : AreB (dR bs k) := by
  unfold dR; split
  · exact AreB.nil
  · exact h.drop _

theorem algn_pad (s : Nat) : algn (s : Int) = (s + padn s 8 : Nat) := by
  rw [algn_at (by omega), padn_eight]; omega

theorem objB_length {zs : List Int} {j s : Nat} (h : j + s ≤ zs.length) : (objB zs j s).length = s := by
  unfold objB; rw [List.length_take, List.length_drop]; omega
theorem objB_bytes {zs : List Int} (h : AreB zs) (j s : Nat) : AreB (objB zs j s) := (h.drop j).take s

/-- Words that are read and written again. -/
theorem wordsB_wrds : ∀ (m : Nat) (ys : List Int), AreB ys → 8 * m ≤ ys.length → wordsB (wrds m ys) = ys.take (8 * m)
  | 0, ys, _, _ => by simp [wrds, wordsB]
  | m + 1, ys, h, hl => by
    have h1 := wordsB_wrds m (ys.drop 8) (h.drop 8) (by rw [List.length_drop]; omega)
    have h8 : (ys.take 8).length = 8 := by rw [List.length_take]; omega
    have e := enb_lev _ (h.take 8)
    rw [h8] at e
    have e2 : wordsB (wrds (m + 1) ys) = bts (lev (ys.take 8)) 8 ++ wordsB (wrds m (ys.drop 8)) := by simp [wordsB, wrds]
    have e3 : bts (lev (ys.take 8)) 8 = ys.take 8 := e
    rw [e2, h1, e3, show 8 * (m + 1) = 8 + 8 * m by omega, List.take_add]

theorem bts_lev {l : List Int} (h : AreB l) (h8 : l.length = 8) : bts (lev l) 8 = l := by
  have e := enb_lev _ h
  rw [h8] at e
  exact e

theorem lev8_lt {l : List Int} (h : AreB l) (h8 : l.length ≤ 8) : 0 ≤ lev l ∧ lev l < 18446744073709551616 := by
  have h1 := lev_bound l h
  have h2 := pow256_le l.length h8
  omega
theorem wrds_bd : ∀ (m : Nat) (ys : List Int), AreB ys → ∀ z ∈ wrds m ys, 0 ≤ z ∧ z < 18446744073709551616
  | 0, _, _ => fun z hz => by cases hz
  | m + 1, ys, h => fun z hz => by
    rcases List.mem_cons.1 hz with rfl | hz
    · exact lev8_lt (h.take 8) (by rw [List.length_take]; omega)
    · exact wrds_bd m _ (h.drop 8) z hz
theorem dW_bd {bs : List Int} (h : AreB bs) (k : Int) : ∀ z ∈ dW bs k, 0 ≤ z ∧ z < 18446744073709551616 := wrds_bd _ _ (h.drop _)
theorem dI_bd {bs : List Int} (h : AreB bs) (k : Int) : ∀ z ∈ dI bs k, 0 ≤ z ∧ z < 18446744073709551616 := by
  unfold dI; split
  · exact wrds_bd _ _ (h.drop _)
  · intro z hz; cases hz

/-- A part of a list, cut in two. -/
theorem take_split (l : List Int) (a b : Nat) : (l.drop a).take b ++ l.drop (a + b) = l.drop a := by
  rw [← List.drop_drop, List.take_append_drop]

/-- What stands there, put together of its parts. -/
theorem headO_dec {zs : List Int} {j k s : Nat} (hz : AreB zs) (h : DecAt zs j k s) (hf : frontN k ≤ s) (hm : hasI k = true → (s - frontN k) % 8 = 0) :
    headO k (dW (objB zs j s) k) (dR (objB zs j s) k) (dI (objB zs j s) k) = objB zs j s := by
  have hl := objB_length h.fit
  have hb := objB_bytes hz j s
  have h1 : (objB zs j s).take 8 = bts k 8 := by
    have e : (objB zs j s).take 8 = (zs.drop j).take 8 := by
      unfold objB; rw [List.take_take]; congr 1; unfold frontN at hf; omega
    rw [e, ← h.kd, bts_lev ((hz.drop j).take 8) (by rw [List.length_take, List.length_drop]; have := h.room; omega)]
  have h2 : ((objB zs j s).drop 8).take 8 = bts s 8 := by
    have e : ((objB zs j s).drop 8).take 8 = (zs.drop (j + 8)).take 8 := by
      unfold objB; rw [List.drop_take, List.take_take, List.drop_drop]; congr 1; unfold frontN at hf; omega
    rw [e, ← h.sd, bts_lev ((hz.drop _).take 8) (by rw [List.length_take, List.length_drop]; have := h.room; omega)]
  have hbare : bareN k (dR (objB zs j s) k).length (dI (objB zs j s) k).length = s := by
    rw [dR_length, dI_length, hl]
    unfold bareN
    by_cases hi : hasI k = true
    · rw [if_pos hi, if_pos hi]; have := hm hi; omega
    · rw [if_neg hi, if_neg hi]; omega
  generalize objB zs j s = bs at *
  have h3 : wordsB (dW bs k) = (bs.drop 16).take (8 * kwN k) := wordsB_wrds _ _ (hb.drop _) (by rw [List.length_drop, hl]; unfold frontN at hf; omega)
  have h4 : dR bs k ++ wordsB (dI bs k) = bs.drop (frontN k) := by
    unfold dR dI
    by_cases hi : hasI k = true
    · rw [if_pos hi, if_pos hi, List.nil_append, wordsB_wrds _ _ (hb.drop _) (by rw [List.length_drop]; omega)]
      exact List.take_of_length_le (by rw [List.length_drop, hl]; have := hm hi; omega)
    · rw [if_neg hi, if_neg hi]; simp [wordsB]
  unfold headO
  rw [hbare, wordsB_two, ← h1, ← h2, h3, List.append_assoc, h4]
  have e1 : bs.take 8 ++ ((bs.drop 8).take 8 ++ (bs.drop 16).take (8 * kwN k) ++ bs.drop (frontN k)) = bs := by
    have a1 := take_split bs 16 (8 * kwN k)
    have a2 := take_split bs 8 8
    have a3 : bs.take 8 ++ bs.drop 8 = bs := List.take_append_drop 8 bs
    unfold frontN
    rw [List.append_assoc, a1, a2, a3]
  rw [List.append_assoc, List.append_assoc, ← List.append_assoc (List.take 8 (List.drop 8 bs))]
  exact e1

theorem right_may {zs : List Int} {j k s : Nat} (h : DecAt zs j k s) (hm : mayB k s = true) :
    rightN k (dW (objB zs j s) k).length (dR (objB zs j s) k).length (dI (objB zs j s) k).length = true ∧ frontN k ≤ s ∧ (hasI k = true → (s - frontN k) % 8 = 0) := by
  have hl := objB_length h.fit
  rw [dW_length, dR_length, dI_length, hl]
  unfold mayB at hm
  unfold rightN
  by_cases hi : hasI k = true
  · rw [if_pos hi] at hm ⊢
    rw [if_pos hi, if_pos hi]
    simp at hm ⊢
    omega
  · rw [if_neg hi] at hm ⊢
    rw [if_neg hi, if_neg hi]
    simp at hm ⊢
    refine ⟨by omega, by omega, fun h => absurd h hi⟩

theorem encR_yes {zs : List Int} {j k s : Nat} (hz : AreB zs) (h : DecAt zs j k s) (hm : mayB k s = true) :
    encR k (dW (objB zs j s) k) (dR (objB zs j s) k) (dI (objB zs j s) k) = objB zs j s ++ List.replicate (padn s 8) 0 := by
  obtain ⟨h1, h2, h3⟩ := right_may h hm
  unfold encR
  rw [h1, if_pos rfl]
  unfold encO
  rw [headO_dec hz h h2 h3, objB_length h.fit]

/-- What is decoded is encoded as it stands there. -/
theorem enc_of_dec {zs : List Int} {j k s : Nat} (hz : AreB zs) (h : DecAt zs j k s) (hd : decB zs j k s = true) :
    j + s + padn s 8 ≤ zs.length ∧ encR k (dW (objB zs j s) k) (dR (objB zs j s) k) (dI (objB zs j s) k) = (zs.drop j).take (s + padn s 8) := by
  unfold decB at hd
  simp only [Bool.and_eq_true, decide_eq_true_eq] at hd
  obtain ⟨⟨hm, hf⟩, h0⟩ := hd
  refine ⟨hf, ?_⟩
  rw [encR_yes hz h hm, List.take_add, List.drop_drop]
  congr 1
  unfold zerB at h0
  have e := of_decide_eq_true h0
  rw [List.length_take, List.length_drop, Nat.min_eq_left (by omega)] at e
  exact e.symm

theorem lev_bts {n : Nat} (h : n < 18446744073709551616) : lev (bts n 8) = n := lev_enb 8 n (by omega) (by
  have : (256 : Int) ^ 8 = 18446744073709551616 := by decide
  omega)

/-- What is encoded as it stands there is an object. -/
theorem dec_of_enc {zs : List Int} {j k s : Nat} (hz : AreB zs) (h : DecAt zs j k s) (hs : zs.length ≤ 140737488355328) (hf : frontN k ≤ s) (x : List Int)
    (hx : x = encR k (dW (objB zs j s) k) (dR (objB zs j s) k) (dI (objB zs j s) k)) (h0 : x ≠ []) (h1 : j + x.length ≤ zs.length) (h2 : x = (zs.drop j).take x.length) : decB zs j k s = true ∧ x.length = s + padn s 8 := by
  have hl := objB_length h.fit
  have hfit := h.fit
  have hr : rightN k (dW (objB zs j s) k).length (dR (objB zs j s) k).length (dI (objB zs j s) k).length = true := by
    by_cases hr : rightN k (dW (objB zs j s) k).length (dR (objB zs j s) k).length (dI (objB zs j s) k).length = true
    · exact hr
    · unfold encR at hx; rw [if_neg hr] at hx; exact absurd hx h0
  have hxe : x = encO k (dW (objB zs j s) k) (dR (objB zs j s) k) (dI (objB zs j s) k) := by rw [hx]; unfold encR; rw [if_pos hr]
  obtain ⟨r1, r2, r3, _⟩ := rightN_len hr
  obtain ⟨a, ha⟩ : ∃ a, bareN k (dR (objB zs j s) k).length (dI (objB zs j s) k).length = a := ⟨_, rfl⟩
  have ha2 : a ≤ 100000 := by rw [← ha]; unfold bareN; have := frontN_le k; omega
  have hx16 : 16 ≤ x.length := by rw [hxe]; unfold encO; rw [List.length_append, headO_length]; omega
  have e1 : (x.drop 8).take 8 = bts a 8 := by
    rw [hxe]; unfold encO headO
    rw [wordsB_two, ha]
    have l8 : (bts (k : Int) 8).length = 8 := by rw [bts_length]; rfl
    have l9 : (bts (a : Int) 8).length = 8 := by rw [bts_length]; rfl
    simp only [List.append_assoc]
    rw [List.drop_left' l8, List.take_left' l9]
  have e2 : (x.drop 8).take 8 = bts s 8 := by
    rw [h2, List.drop_take, List.take_take, List.drop_drop, Nat.min_eq_left (by omega), ← h.sd, bts_lev ((hz.drop _).take 8) (by rw [List.length_take, List.length_drop]; have := h.room; omega)]
  have e3 : (a : Int) = s := by
    rw [← lev_bts (n := a) (by omega), ← lev_bts (n := s) (by omega), ← e1, ← e2]
  have e4 : a = s := by omega
  have hmm : mayB k s = true := by
    unfold rightN at hr
    unfold bareN at ha
    rw [dR_length, dI_length, hl] at ha hr
    unfold mayB
    by_cases hi : hasI k = true
    · rw [if_pos hi] at hr ⊢
      rw [if_pos hi, if_pos hi] at ha
      rw [if_pos hi, if_pos hi] at hr
      simp at hr ⊢
      omega
    · rw [if_neg hi] at hr ⊢
      rw [if_neg hi, if_neg hi] at ha
      rw [if_neg hi, if_neg hi] at hr
      simp at hr ⊢
      omega
  have hy := encR_yes hz h hmm
  rw [← hx] at hy
  have hxl : x.length = s + padn s 8 := by rw [hy, List.length_append, hl, List.length_replicate]
  refine ⟨?_, hxl⟩
  unfold decB
  rw [hmm]
  simp only [Bool.true_and, Bool.and_eq_true, decide_eq_true_eq]
  refine ⟨by omega, ?_⟩
  unfold zerB
  refine decide_eq_true ?_
  rw [List.length_take, List.length_drop, Nat.min_eq_left (by omega)]
  have e5 : x.drop s = List.replicate (padn s 8) 0 := by rw [hy, List.drop_left' hl]
  rw [← e5, h2, List.drop_take, List.drop_drop, hxl]
  congr 1
  omega

end Go.Proofs.Ytbgdaiecmpjcbaa
