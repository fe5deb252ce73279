/-
  PLAIN ARITHMETIC FOR LAYER 13: a file of arrays of one number each; where objects are found in it; what is followed comes to an end.
-/
import Derived.Test.YtkaepikjklpmaaaTabLaw
set_option linter.unusedVariables false
set_option maxRecDepth 100000
set_option linter.unusedSimpArgs false
namespace Go.Proofs.Ytkaepikjklpmaaa
open Go.RowKit

theorem enc_one (z : Int) : encO 4 [z] [] [1] = wordsB [4, 32, z, 1] := by
  unfold encO headO
  have h1 : ((bareN 4 ([] : List Int).length [(1 : Int)].length : Nat) : Int) = 32 := by decide
  have hl : (wordsB [4, ((bareN 4 ([] : List Int).length [(1 : Int)].length : Nat) : Int)] ++ wordsB [z] ++ ([] : List Int) ++ wordsB [1]).length = 32 := by simp [wordsB_length]
  rw [hl]
  rw [h1]
  simp [wordsB, padn]
theorem enc_one_length (z : Int) : (encO 4 [z] [] [1]).length = 32 := by rw [enc_one]; simp [wordsB_length]

/-- These arrays stand in it, one behind the other. -/
structure AR (b : List Int) (ws : List Int) : Prop where
  len : b.length = 272 + 32 * ws.length
  objs : ∀ i, i < ws.length → HoldsB b (272 + 32 * i) (encO 4 [ws.getD i 0] [] [1])
  bd : ∀ z ∈ ws, IsU z

theorem AR.nil {b : List Int} (h : b.length = 272) : AR b [] := ⟨by simpa using h, fun i hi => by simp at hi, fun z hz => by cases hz⟩
theorem AR.add {b ws : List Int} {z : Int} (h : AR b ws) (hz : IsU z) : AR (b ++ encO 4 [z] [] [1]) (ws ++ [z]) := by
  refine ⟨by rw [List.length_append, enc_one_length, h.len, List.length_append]; simp; omega, fun i hi => ?_, fun y hy => ?_⟩
  · rw [List.length_append] at hi
    simp at hi
    by_cases h2 : i < ws.length
    · have e : (ws ++ [z]).getD i 0 = ws.getD i 0 := by simp [List.getD_eq_getElem?_getD, List.getElem?_append_left h2]
      rw [e]
      exact (h.objs i h2).add _
    · have e : i = ws.length := by omega
      subst e
      have e2 : (ws ++ [z]).getD ws.length 0 = z := by simp [List.getD_eq_getElem?_getD]
      rw [e2, ← h.len]
      exact HoldsB.new _ _
  · rcases List.mem_append.1 hy with hy | hy
    · exact h.bd y hy
    · rw [List.mem_singleton.1 hy]; exact hz
/-- The words of an array. -/
theorem AR.word {b ws : List Int} (h : AR b ws) {i t : Nat} (hi : i < ws.length) (ht : t < 4) : (b.drop (272 + 32 * i + 8 * t)).take 8 = bts ([4, 32, ws.getD i 0, 1].getD t 0) 8 := by
  have h1 := h.objs i hi
  rw [enc_one] at h1
  have h2 := wordsB_at [4, 32, ws.getD i 0, 1] [] t (by simpa using ht)
  rw [List.append_nil] at h2
  have h3 := h1.eq
  have hl : (wordsB [4, 32, ws.getD i 0, 1]).length = 32 := by simp [wordsB_length]
  rw [hl] at h3
  rw [← h2, ← h3, List.drop_take, List.take_take, List.drop_drop, Nat.min_eq_left (by omega)]

theorem AR.only {m : IM} {ws : List Int} (h : AR m.b ws) {j s : Nat} (hth : m.there 1 1 j 4 s) : ∃ i, i < ws.length ∧ j = 272 + 32 * i := by
  obtain ⟨h0, hd, hb⟩ := hth
  have hl := h.len
  have h1 := hd.al
  have h2 := hd.room
  obtain ⟨i, t, ht, hj⟩ : ∃ i t : Nat, t < 4 ∧ j = 272 + 32 * i + 8 * t := ⟨(j - 272) / 32, (j - 272) % 32 / 8, by omega, by omega⟩
  have hi : i < ws.length := by omega
  have hk := hd.kd
  rw [hj, h.word hi ht] at hk
  refine ⟨i, hi, ?_⟩
  have hz : IsU (ws.getD i 0) := by
    rw [List.getD_eq_getElem?_getD, List.getElem?_eq_getElem hi]; exact h.bd _ (List.getElem_mem hi)
  have h4 : lev (bts ((4 : Nat) : Int) 8) = (4 : Nat) := lev_bts (by omega)
  match t, ht with
  | 0, _ => omega
  | 1, _ =>
    have h32 : lev (bts ((32 : Nat) : Int) 8) = (32 : Nat) := lev_bts (by omega)
    simp at hk
    have : (lev (bts 32 8) : Int) = 32 := h32
    omega
  | 2, _ =>
    have hs := hd.sd
    rw [hj, show 272 + 32 * i + 8 * 2 + 8 = 272 + 32 * i + 8 * 3 by omega, h.word hi (by omega)] at hs
    have h1' : lev (bts ((1 : Nat) : Int) 8) = (1 : Nat) := lev_bts (by omega)
    simp at hs
    have h1'' : (lev (bts 1 8) : Int) = 1 := h1'
    have hs1 : s = 1 := by omega
    subst hs1
    unfold decB at hb
    have : mayB ((4 : Nat) : Int) ((1 : Nat) : Int) = false := by decide
    rw [this] at hb
    simp at hb
  | 3, _ =>
    have h1' : lev (bts ((1 : Nat) : Int) 8) = (1 : Nat) := lev_bts (by omega)
    simp at hk
    have : (lev (bts 1 8) : Int) = 1 := h1'
    omega

/-- What is followed comes to an end. -/
theorem AR.chain {m : IM} {ws : List Int} (h : AR m.b ws) : ∀ {its : List It} {last pl : Int} {lo : Nat}, (∀ i : Nat, last < ((272 + 32 * i : Nat) : Int) → lo ≤ i) → lo ≤ ws.length → chainAt m 1 1 4 0 last pl its → its.length + lo ≤ ws.length
  | [], _, _, lo, _, hlo, _ => by simpa using hlo
  | t :: its, last, pl, lo, hlast, hlo, ⟨h0, h1, ⟨s, hth, _⟩, h3⟩ => by
    obtain ⟨i, hi, hj⟩ := h.only hth
    have h4 := hlast i (by rw [← hj, ← h1]; exact h0)
    have := AR.chain h (lo := i + 1) (fun i' hi' => by rw [hj] at hi'; omega) (by omega) h3
    simp only [List.length_cons]; omega

/-- There is something to be followed, or not. -/
theorem chain_ex {m : IM} {D F : Int} (hD : 0 ≤ D) (hF : 0 ≤ F) (hb : AreB m.b) {kd wd : Nat} : ∀ (fuel : Nat) (last pl : Int), 0 ≤ last → (m.b.length : Int) - last ≤ fuel → ∃ its, chainAt m D F kd wd last pl its
  | 0, last, pl, h0, hfu => ⟨[], by
    by_cases h : last < pl
    · right; left
      refine .inr fun j k s e hd => ?_
      have := hd.room
      omega
    · exact .inl h⟩
  | fuel + 1, last, pl, h0, hfu => by
    by_cases h : last < pl
    · rcases m.there_or D F pl hD hF with hno | ⟨j, k, s, rfl, hth⟩
      · exact ⟨[], .inr (.inl hno)⟩
      · by_cases hk : k = kd
        · subst hk
          have hroom := hth.2.1.room
          obtain ⟨its, hi⟩ := chain_ex hD hF hb (kd := k) (wd := wd) fuel j ((dW (objB m.b j s) k).getD wd 0) (by omega) (by omega)
          exact ⟨⟨j, dW (objB m.b j s) k, dR (objB m.b j s) k, dI (objB m.b j s) k⟩ :: its, h, rfl, ⟨s, hth, rfl, rfl, rfl⟩, hi⟩
        · exact ⟨[], .inr (.inr ⟨j, k, s, rfl, hth, by omega⟩)⟩
    · exact ⟨[], .inl h⟩

end Go.Proofs.Ytkaepikjklpmaaa
