/-
  LAYER 15, PLAIN: an item's field as a function of its bytes; places that lead on by the words alone.
-/
import Derived.Test.YtknimfnjmhmamaaGreatStrD
set_option linter.unusedVariables false
set_option maxRecDepth 100000
set_option linter.unusedSimpArgs false
namespace Go.Proofs.YtknimfnjmhmamaaGreat
open Go.RowKit Go.Shelf

/-- The field of an item, as a function of its bytes. -/
def fldI (zs : List Int) : List Int := nums (spF (strOfNums zs))
theorem fldI_nums (s : ByteArray) : fldI (nums s) = nums (spF s) := by unfold fldI; rw [str_nums]

/-- PLACES THAT LEAD ON, by the words alone. -/
def plcs (m : IM) (wd : Nat) : Int → Int → List Nat → Prop
  | last, next, [] => ¬ (last < next ∧ next < (m.b.length : Int))
  | last, next, j :: js => last < next ∧ next = (j : Int) ∧ j < m.b.length ∧ IsU (m.word ((j + (16 + 8 * wd) : Nat) : Int)) ∧ plcs m wd j (m.word ((j + (16 + 8 * wd) : Nat) : Int)) js

section
variable {lo : Nat} {m : IM} {l : List GO}
theorem GB.plcs (H : GB lo m.b l) {wd : Nat} : ∀ {L : List GO} {last p : Int}, 0 ≤ last → (∀ r ∈ L, r ∈ l ∧ wd < r.ws.length ∧ last < r.at_) →
    L.Pairwise (fun r r' => r.at_ + r.len ≤ r'.at_) → Lk wd p L → plcs m wd last p (L.map (·.at_))
  | [], last, p, h0, _, _, hl => by
    show ¬ _
    rw [show p = 0 from hl]; omega
  | r :: L, last, p, h0, hf, hp, ⟨e, hl⟩ => by
    obtain ⟨hr, hk, hla⟩ := hf r (by simp)
    have hrf := H.fine r hr
    rw [List.pairwise_cons] at hp
    have hfr := hrf.1.front
    have hw : m.word ((r.at_ + (16 + 8 * wd) : Nat) : Int) = r.ws.getD wd 0 := H.word hr hk
    have hU : IsU (r.ws.getD wd 0) := by
      refine Lk.isU hl fun q hq => ?_
      have := (H.fine q (hf q (by simp [hq])).1).2.2
      have := H.most
      omega
    have h1 := GB.plcs H (last := r.at_) (p := r.ws.getD wd 0) (by omega) (fun q hq => ⟨(hf q (by simp [hq])).1, (hf q (by simp [hq])).2.1, by have := hp.1 q hq; omega⟩) hp.2 hl
    exact ⟨by rw [e]; exact hla, e, by show r.at_ < m.b.length; have := hrf.2.2; omega, by rw [hw]; exact hU, by rw [hw]; exact h1⟩
/-- The places of a list, from its root. -/
theorem Ch.plcs (H : GB lo m.b l) (hlo : 0 < lo) {p wd : Nat} {pred : GO → Bool} (h : Ch m.b l p wd pred) (hw : ∀ r ∈ l, pred r = true → wd < r.ws.length) : plcs m wd 0 (m.word (p : Nat)) ((l.filter pred).map (·.at_)) := by
  refine GB.plcs H (by omega) (fun r hr => ?_) (H.rise.filter _) h
  obtain ⟨h1, h2⟩ := List.mem_filter.1 hr
  exact ⟨h1, hw r h1 h2, by have := (H.fine r h1).2.1; omega⟩
end
theorem plcs_fine {m : IM} {wd : Nat} : ∀ {js : List Nat} {last next : Int}, 0 ≤ last → plcs m wd last next js → ∀ j ∈ js, last < (j : Int) ∧ j < m.b.length
  | [], _, _, _, _, j, hj => by cases hj
  | i :: js, last, next, h0, ⟨h1, h2, h3, h4, h5⟩, j, hj => by
    rcases List.mem_cons.1 hj with rfl | hj
    · exact ⟨by omega, h3⟩
    · have := plcs_fine (by omega) h5 j hj
      exact ⟨by omega, this.2⟩

end Go.Proofs.YtknimfnjmhmamaaGreat
