/-
  PLAIN MATHEMATICS FOR LAYER 12, of no program: an image as its bytes, its bytes as they were, and the words that were set; what each call does to it; that the words made noughts again give what was, and laid over what was give what is.
-/
import Derived.Test.YthdnjjdlhhapbaaImBase
set_option linter.unusedVariables false
set_option maxRecDepth 100000
namespace Go.Proofs.Ythdnjjdlhhapbaa
open Go.RowKit

/-- An image. -/
structure IM where
  b : List Int
  was : List Int
  words : List Nat
  lim : Nat

/-- The word at a place; 0, if there is none. -/
def IM.word (m : IM) (i : Int) : Int := gnum m.b i 8
/-- May a word be set there? -/
def IM.may (m : IM) (i : Int) : Bool := gok m.b.length i 8 && decide (i % 8 = 0) && decide (192 ≤ i)
/-- What Set answers. -/
def IM.setE (m : IM) (i : Int) : Int := if m.may i then (if m.word i = 0 then 0 else 7) else 1
/-- What a word set makes of it. -/
def IM.put8 (m : IM) (k : Nat) (n : Int) : IM := { m with b := splice m.b k (bts n 8), words := if k < m.was.length then m.words ++ [k] else m.words }
def IM.set (m : IM) (i n : Int) : IM := if m.setE i = 0 then m.put8 i.toNat n else m
/-- What Put answers of bytes. -/
def IM.putE (m : IM) (x : List Int) : Int := if x = [] then 1 else if m.lim < m.b.length + x.length then 21 else 0
def IM.putA (m : IM) (x : List Int) : Int := if m.putE x = 0 then m.b.length else 0
def IM.add (m : IM) (x : List Int) : IM := { m with b := m.b ++ x }
def IM.put (m : IM) (x : List Int) : IM := if m.putE x = 0 then m.add x else m
def IM.done (m : IM) : IM := { m with was := m.b, words := [] }
def IM.back (m : IM) : IM := { m with b := m.was, words := [] }

/-- Does a place lie in one of some words? -/
def touched (ws : List Nat) (j : Nat) : Bool := ws.any fun k => decide (k ≤ j) && decide (j < k + 8)
theorem touched_snoc (ws : List Nat) (k j : Nat) : touched (ws ++ [k]) j = (touched ws j || (decide (k ≤ j) && decide (j < k + 8))) := by simp [touched]
theorem touched_cons (ws : List Nat) (k j : Nat) : touched (k :: ws) j = ((decide (k ≤ j) && decide (j < k + 8)) || touched ws j) := by simp [touched]

theorem splice_len (l cs : List Int) (k : Nat) (h : k + cs.length ≤ l.length) : (splice l k cs).length = l.length := by
  unfold splice; simp only [List.length_append, List.length_take, List.length_drop]; omega
theorem lev_zero : ∀ {l : List Int}, AreB l → lev l = 0 → ∀ z ∈ l, z = 0
  | [], _, _, z, h => by cases h
  | x :: r, hb, h, z, hz => by
    have hx := hb x (by simp)
    have hr : AreB r := fun y hy => hb y (by simp [hy])
    have h0 := lev_bound r hr
    simp only [lev] at h
    rcases List.mem_cons.1 hz with rfl | hz
    · omega
    · exact lev_zero hr (by omega) z hz
theorem nz_of_all {l : List Int} (h : ∀ z ∈ l, z = 0) (j : Nat) : nz l j = 0 := by
  by_cases hj : j < l.length
  · rw [nz_in hj]; exact h _ (List.getElem_mem hj)
  · exact nz_out (by omega)

theorem IM.may_at {m : IM} {i : Int} (h : m.may i = true) : ∃ k : Nat, i = k ∧ k + 8 ≤ m.b.length ∧ k % 8 = 0 ∧ 192 ≤ k := by
  simp [IM.may, gok] at h
  exact ⟨i.toNat, by omega, by omega, by omega, by omega⟩
/-- A word that is 0: its bytes are noughts. -/
theorem word_zero {b : List Int} (hb : AreB b) {k : Nat} (hk : k + 8 ≤ b.length) (h : gnum b k 8 = 0) : ∀ j, k ≤ j → j < k + 8 → nz b j = 0 := by
  have hok : gok b.length (k : Int) 8 = true := by simp [gok]; omega
  unfold gnum at h
  rw [hok] at h
  have h2 : lev ((b.drop k).take 8) = 0 := by simpa using h
  intro j h1 h3
  have h4 := nz_of_all (lev_zero ((hb.drop k).take 8) h2) (j - k)
  rw [nz_take, nz_drop, if_pos (by omega)] at h4
  rwa [show k + (j - k) = j by omega] at h4

/-- What holds of every image that calls have led to. -/
structure IM.Good (m : IM) : Prop where
  bb : AreB m.b
  wb : AreB m.was
  le : m.was.length ≤ m.b.length
  ws : ∀ k ∈ m.words, k < m.was.length ∧ k + 8 ≤ m.b.length ∧ k % 8 = 0 ∧ 192 ≤ k
  un : ∀ j, j < m.was.length → nz m.was j = if touched m.words j then 0 else nz m.b j

theorem IM.good_new {b : List Int} (hb : AreB b) (lim : Nat) : (⟨b, b, [], lim⟩ : IM).Good := ⟨hb, hb, Nat.le_refl _, fun k hk => (by cases hk), fun j _ => (by simp [touched])⟩
theorem IM.Good.done {m : IM} (h : m.Good) : m.done.Good := IM.good_new h.bb m.lim
theorem IM.Good.back {m : IM} (h : m.Good) : m.back.Good := IM.good_new h.wb m.lim
theorem IM.Good.add {m : IM} (h : m.Good) {x : List Int} (hx : AreB x) : (m.add x).Good :=
  ⟨h.bb.append hx, h.wb, (by show m.was.length ≤ (m.b ++ x).length; rw [List.length_append]; have := h.le; omega), fun k hk => by
    have h2 := h.ws k hk
    show _ ∧ k + 8 ≤ (m.b ++ x).length ∧ _
    rw [List.length_append]
    exact ⟨h2.1, by omega, h2.2.2⟩, fun j hj => by
    show nz m.was j = if touched m.words j then 0 else nz (m.b ++ x) j
    have hj2 : j < m.was.length := hj
    have := h.le
    rw [nz_append, if_pos (show j < m.b.length by omega)]
    exact h.un j hj2⟩
theorem IM.Good.put {m : IM} (h : m.Good) {x : List Int} (hx : AreB x) : (m.put x).Good := by
  unfold IM.put; split
  · exact h.add hx
  · exact h
theorem IM.Good.put8 {m : IM} (h : m.Good) {k : Nat} {n : Int} (hk : k + 8 ≤ m.b.length) (h8 : k % 8 = 0) (h0 : 192 ≤ k) (hz : gnum m.b k 8 = 0) : (m.put8 k n).Good := by
  have l8 : (bts n 8).length = 8 := by rw [bts_length]; rfl
  have hl : (splice m.b k (bts n 8)).length = m.b.length := splice_len _ _ _ (by omega)
  have hw := word_zero h.bb hk hz
  refine ⟨splice_bytes h.bb (bts_bytes _ _) _, h.wb, ?_, ?_, ?_⟩
  · show m.was.length ≤ (splice m.b k (bts n 8)).length; rw [hl]; exact h.le
  · intro q hq
    show q < m.was.length ∧ q + 8 ≤ (splice m.b k (bts n 8)).length ∧ _
    rw [hl]
    have hq' : q ∈ (if k < m.was.length then m.words ++ [k] else m.words) := hq
    split at hq'
    · rcases List.mem_append.1 hq' with h1 | h1
      · exact h.ws q h1
      · simp at h1; subst h1; exact ⟨by assumption, hk, h8, h0⟩
    · exact h.ws q hq'
  · intro j hj
    have hj : j < m.was.length := hj
    show nz m.was j = if touched (if k < m.was.length then m.words ++ [k] else m.words) j then 0 else nz (splice m.b k (bts n 8)) j
    rw [nz_splice _ _ _ _ (by omega), l8, h.un j hj]
    by_cases hc : k ≤ j ∧ j < k + 8
    · rw [if_pos (show k < m.was.length by omega), touched_snoc, decide_eq_true hc.1, decide_eq_true hc.2, hw j hc.1 hc.2]
      simp
    · rw [if_neg hc]
      have e : touched (if k < m.was.length then m.words ++ [k] else m.words) j = touched m.words j := by
        split
        · rw [touched_snoc]
          have : (decide (k ≤ j) && decide (j < k + 8)) = false := by simp; omega
          rw [this, Bool.or_false]
        · rfl
      rw [e]
theorem IM.setE_may {m : IM} {i : Int} (h : m.setE i = 0) : m.may i = true ∧ m.word i = 0 := by
  unfold IM.setE at h
  split at h
  · split at h
    · exact ⟨by assumption, by assumption⟩
    · omega
  · omega
theorem IM.Good.set {m : IM} (h : m.Good) (i n : Int) : (m.set i n).Good := by
  unfold IM.set; split
  · obtain ⟨h1, h2⟩ := IM.setE_may (by assumption)
    obtain ⟨k, rfl, h3, h4, h5⟩ := IM.may_at h1
    exact h.put8 h3 h4 h5 h2
  · exact h

/-- Words made noughts. -/
def zeroW (b : List Int) (ws : List Nat) : List Int := ws.foldl (fun L k => splice L k (List.replicate 8 0)) b
/-- Words of b laid over other bytes. -/
def layW (b L : List Int) (ws : List Nat) : List Int := ws.foldl (fun L k => splice L k ((b.drop k).take 8)) L

theorem zeroW_length : ∀ (ws : List Nat) (b : List Int), (∀ k ∈ ws, k + 8 ≤ b.length) → (zeroW b ws).length = b.length
  | [], _, _ => rfl
  | k :: ws, b, h => by
    have hk := h k (by simp)
    have e : (splice b k (List.replicate 8 0)).length = b.length := splice_len _ _ _ (by rw [List.length_replicate]; exact hk)
    have := zeroW_length ws (splice b k (List.replicate 8 0)) (fun q hq => by rw [e]; exact h q (by simp [hq]))
    exact this.trans e
theorem nz_zeroW : ∀ (ws : List Nat) (b : List Int), (∀ k ∈ ws, k + 8 ≤ b.length) → ∀ j, nz (zeroW b ws) j = if touched ws j then 0 else nz b j
  | [], _, _, j => by simp [zeroW, touched]
  | k :: ws, b, h, j => by
    have hk := h k (by simp)
    have e : (splice b k (List.replicate 8 0)).length = b.length := splice_len _ _ _ (by rw [List.length_replicate]; exact hk)
    have h1 := nz_zeroW ws (splice b k (List.replicate 8 0)) (fun q hq => by rw [e]; exact h q (by simp [hq])) j
    have h2 : zeroW b (k :: ws) = zeroW (splice b k (List.replicate 8 0)) ws := rfl
    rw [h2, h1, touched_cons, nz_splice _ _ _ _ (by omega), List.length_replicate, nz_zeros]
    by_cases hc : k ≤ j ∧ j < k + 8
    · rw [decide_eq_true hc.1, decide_eq_true hc.2, if_pos hc]; simp
    · rw [if_neg hc, show (decide (k ≤ j) && decide (j < k + 8)) = false by simp; omega, Bool.false_or]
theorem layW_length (b : List Int) : ∀ (ws : List Nat) (L : List Int), L.length = b.length → (∀ k ∈ ws, k + 8 ≤ b.length) → (layW b L ws).length = b.length
  | [], _, h, _ => h
  | k :: ws, L, hL, h => by
    have hk := h k (by simp)
    have e : (splice L k ((b.drop k).take 8)).length = b.length := (splice_len _ _ _ (by rw [List.length_take, List.length_drop]; omega)).trans hL
    exact layW_length b ws _ e (fun q hq => h q (by simp [hq]))
theorem nz_layW (b : List Int) : ∀ (ws : List Nat) (L : List Int), L.length = b.length → (∀ k ∈ ws, k + 8 ≤ b.length) → ∀ j, nz (layW b L ws) j = if touched ws j then nz b j else nz L j
  | [], _, _, _, j => by simp [layW, touched]
  | k :: ws, L, hL, h, j => by
    have hk := h k (by simp)
    have l8 : ((b.drop k).take 8).length = 8 := by rw [List.length_take, List.length_drop]; omega
    have e : (splice L k ((b.drop k).take 8)).length = b.length := (splice_len _ _ _ (by omega)).trans hL
    have h1 := nz_layW b ws (splice L k ((b.drop k).take 8)) e (fun q hq => h q (by simp [hq])) j
    have h2 : layW b L (k :: ws) = layW b (splice L k ((b.drop k).take 8)) ws := rfl
    rw [h2, h1, touched_cons, nz_splice _ _ _ _ (by omega), l8]
    by_cases hc : k ≤ j ∧ j < k + 8
    · rw [decide_eq_true hc.1, decide_eq_true hc.2, if_pos hc, nz_take, if_pos (show j - k < 8 by omega), nz_drop, show k + (j - k) = j by omega]; simp
    · rw [if_neg hc, show (decide (k ≤ j) && decide (j < k + 8)) = false by simp; omega, Bool.false_or]

/-- Its words made noughts, cut at what was: what was. -/
theorem IM.Good.undo {m : IM} (h : m.Good) : (zeroW m.b m.words).take m.was.length = m.was := by
  have hw : ∀ k ∈ m.words, k + 8 ≤ m.b.length := fun k hk => (h.ws k hk).2.1
  have hl := h.le
  refine ext_nz (by rw [List.length_take, zeroW_length _ _ hw]; omega) fun j hj => ?_
  rw [List.length_take, zeroW_length _ _ hw] at hj
  rw [nz_take, if_pos (by omega), nz_zeroW _ _ hw, h.un j (by omega)]
/-- Its words laid over what was, with what is new behind it: what is (P12.5). -/
theorem IM.Good.lay {m : IM} (h : m.Good) : layW m.b (m.was ++ m.b.drop m.was.length) m.words = m.b := by
  have hw : ∀ k ∈ m.words, k + 8 ≤ m.b.length := fun k hk => (h.ws k hk).2.1
  have hl := h.le
  have hL : (m.was ++ m.b.drop m.was.length).length = m.b.length := by rw [List.length_append, List.length_drop]; omega
  refine ext_nz (layW_length _ _ _ hL hw) fun j hj => ?_
  rw [nz_layW _ _ _ hL hw]
  split
  · rfl
  · rw [nz_append]
    split
    · rw [h.un j (by assumption), if_neg (by assumption)]
    · rw [nz_drop]; congr 1; omega

end Go.Proofs.Ythdnjjdlhhapbaa
