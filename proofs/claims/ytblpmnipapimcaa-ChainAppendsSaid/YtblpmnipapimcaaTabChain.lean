/-
  LAYER 13: what is followed in a bucket of a table is the rows of the bucket.
-/
import Derived.Test.YtblpmnipapimcaaTabFn
set_option linter.unusedVariables false
set_option maxRecDepth 100000
set_option linter.unusedSimpArgs false
namespace Go.Proofs.Ytblpmnipapimcaa
open Go.RowKit

theorem chain_of_linked {key D F : Int} {m : IM} {kd : Nat} (hv : 256 + 8 * (D + F) = (newK D F : Nat)) : ∀ {L : List TRow} {last p : Int}, 0 ≤ last → (∀ r ∈ L, r.Fine ∧ r.k = kd ∧ newK D F ≤ r.at_ ∧ last < r.at_) →
    L.Pairwise (fun r r' => r.at_ + tlen r.k r.raw.length ≤ r'.at_) → linked key m.b p L →
    ∃ its : List It, chainAt m D F kd 1 last p its ∧ its.map (fun t => (t.j, t.rs)) = L.map (fun r => (r.at_, r.raw))
  | [], last, p, h0, _, _, hl => ⟨[], .inl (by rw [show p = 0 from hl]; omega), rfl⟩
  | r :: L, last, p, h0, hf, hp, ⟨e, z, hu, hh, hl⟩ => by
    have hr := hf r (by simp)
    rw [List.pairwise_cons] at hp
    have hfr := tlen_front hr.1
    obtain ⟨its, h1, h2⟩ := chain_of_linked hv (last := r.at_) (p := z) (by omega) (fun q hq => ⟨(hf q (by simp [hq])).1, (hf q (by simp [hq])).2.1, (hf q (by simp [hq])).2.2.1, by have := hp.1 q hq; omega⟩) hp.2 hl
    obtain ⟨s, d1, d2, d3, d4, d5, d6⟩ := HoldsB.dec hh hr.1.al (hr.1.rt key z) (tW_bd hu) (by simp)
    rw [hr.2.1] at d1 d2 d4 d5 d6
    refine ⟨⟨r.at_, tW key r z, r.raw, []⟩ :: its, ⟨by rw [e]; exact hr.2.2.2, e, ⟨s, ⟨by have := hr.2.2.1; show _ ≤ ((r.at_ : Nat) : Int); omega, d1, d2⟩, d4, d5, d6⟩, ?_⟩, ?_⟩
    · have : (tW key r z).getD 1 0 = z := rfl
      show chainAt m D F kd 1 r.at_ ((tW key r z).getD 1 0) its
      rw [this]; exact h1
    · simp [h2]

/-- The objects of a bucket. -/
theorem TB.chain {key D F : Int} {m : IM} {l : List TRow} (H : TB key D F m.b l) {kd i : Nat} (hk : kd = 1 ∨ kd = 2) (hi : (i : Int) < nb D F kd) :
    ∃ its : List It, chainAt m D F kd 1 0 (m.word (tb D kd + 8 * i : Nat)) its ∧ its.map (fun t => (t.j, t.rs)) = (chainL key D F kd i l).map (fun r => (r.at_, r.raw)) := by
  refine chain_of_linked (newK_val H.hD H.hF).symm (by omega) (fun r hr => ?_) (H.rise.filter _) (H.chains kd hk i hi)
  have hm := mem_chain hr
  have hf := H.fine r hm.1
  have := newK_val H.hD H.hF
  exact ⟨hf.1, hm.2.1, hf.2.1, by have := H.hD; have := H.hF; omega⟩

/-- What is found. -/
def findR (l : List TRow) (k : Nat) (raw : List Int) : Option Nat := (l.find? (fun r => decide (r.k = k) && decide (r.raw = raw))).map (·.at_)
def findI (its : List It) (raw : List Int) : Option Nat := (its.find? (fun t => decide (t.rs = raw))).map (·.j)

theorem find_pairs (raw : List Int) : ∀ (its : List It) (L : List TRow), its.map (fun t => (t.j, t.rs)) = L.map (fun r => (r.at_, r.raw)) → findI its raw = (L.find? (fun r => decide (r.raw = raw))).map (·.at_)
  | [], [], _ => rfl
  | [], r :: L, h => by simp at h
  | t :: its, [], h => by simp at h
  | t :: its, r :: L, h => by
    simp only [List.map_cons, List.cons.injEq, Prod.mk.injEq] at h
    obtain ⟨⟨h1, h2⟩, h3⟩ := h
    have ih := find_pairs raw its L h3
    unfold findI at ih ⊢
    rw [List.find?_cons, List.find?_cons, h2]
    by_cases h : r.raw = raw
    · rw [decide_eq_true h]; simp [h1]
    · rw [decide_eq_false h]; exact ih
theorem find_bucket {key D F : Int} {kd i : Nat} {raw : List Int} {l : List TRow} {its : List It} (hi : bucket (hsh key raw) (nb D F kd) = i) (h : its.map (fun t => (t.j, t.rs)) = (chainL key D F kd i l).map (fun r => (r.at_, r.raw))) : findI its raw = findR l kd raw := by
  rw [find_pairs raw its _ h, find_chain hi]; rfl

theorem findI_none {its : List It} {raw : List Int} (h : ∀ t ∈ its, t.rs ≠ raw) : findI its raw = none := by
  unfold findI
  rw [List.find?_eq_none.2 (fun t ht => by simpa using h t ht)]; rfl
theorem findI_some {pre rest : List It} {t : It} {raw : List Int} (h : ∀ u ∈ pre, u.rs ≠ raw) (ht : t.rs = raw) : findI (pre ++ t :: rest) raw = some t.j := by
  unfold findI
  rw [List.find?_append, List.find?_eq_none.2 (fun u hu => by simpa using h u hu), List.find?_cons, decide_eq_true ht]; rfl

end Go.Proofs.Ytblpmnipapimcaa
