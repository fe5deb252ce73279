/-
  MERGED BY PROGRAM out of the texts DaIs DaAsk DaAsk2 DaEnt DaEntL DaRefS.
-/
import Derived.Test.YtjpfbkhjhainpaaLDa
import Derived.Test.YtjpfbkhjhainpaaLDb
/-
  LAYER 15: WHAT bucket AND is OF PACKAGE data TELL: contracts.
-/
set_option linter.unusedVariables false
set_option maxRecDepth 100000
set_option linter.unusedSimpArgs false
namespace Go.Proofs.Ytjpfbkhjhainpaa
open Go.RowKit Go.Shelf
attribute [local go_sem] Oper.semAt_some

theorem results_cq {P : Program} {fn : Func} {p : Tmp} {tp : TypeId} (h : fn.results = #[.cell p tp]) (tmps : Array Value) (w : World) (g1 : Nat) (v1 : Value)
    (hp : tmps.getD p undef = .pointer (some ⟨g1, 0, none⟩)) (h1 : (loadVar tp ⟨g1, 0, none⟩).run P w = .ok v1 w) :
    (results fn tmps).run P w = .ok v1 w := by
  have hp' : tmps[p]?.getD undef = .pointer (some ⟨g1, 0, none⟩) := by simpa using hp
  simp [results, h, hp', asAddr, h1]
theorem load_u64q {w : World} {g : Nat} {x : Int} (h : w.cell? ⟨g, 0, none⟩ = some (.int .u64 x)) : (loadVar 47 ⟨g, 0, none⟩).run Try.prog w = .ok (.int .u64 x) w := by simp [go_sem, h]

section
variable {fld : List Int → List Int} {base p : Nat} {S : Nat → Prop} {i k d f h : Int} {m : IM} {bv sv : Value} {l : List GO}

/-- The places of the data in one bucket. -/
theorem DB.plcsBk (D : DB fld k d f 0 0 m.b l) {sum : Int} (hs : IsU sum) : plcs m 1 0 (m.word (tb d 1 + 8 * bktN d f 1 sum : Nat)) ((l.filter (pBk k d f 1 (bktN d f 1 sum) 0)).map (·.at_)) ∧ IsU (m.word (tb d 1 + 8 * bktN d f 1 sum : Nat)) := by
  obtain ⟨g1, g2⟩ := bktN_eq D.hD D.hF (kd := 1) hs
  have hc := D.bks 1 (.inl rfl) _ g2
  have h0 := newK_low d f D.hD D.hF
  exact ⟨hc.plcs D.gb h0.2 (D.bk_w (.inl rfl)), hc.isU D.gb⟩
theorem DB.riseBk (D : DB fld k d f 0 0 m.b l) (pred : GO → Bool) : ((l.filter pred).map (·.at_)).Pairwise (· < ·) := by
  rw [List.pairwise_map]
  refine pairwise_imp_mem (fun r hr q _ h => ?_) (D.gb.rise.filter _)
  have := (D.gb.fine r (List.mem_filter.1 hr).1).1.front
  omega

end

end Go.Proofs.Ytjpfbkhjhainpaa

/-
  LAYER 15: WHAT first, root, Count, Nth, Search AND Refer OF PACKAGE data DO: contracts.
-/
set_option linter.unusedVariables false
set_option maxRecDepth 100000
set_option linter.unusedSimpArgs false
namespace Go.Proofs.Ytjpfbkhjhainpaa
open Go.RowKit Go.Shelf

/-- The entries of a datum: its first one, and its list's. -/
def entsL (x : Int) (Ld : List Int) : List Int := if x = 0 then [] else x :: Ld
section
variable {base p : Nat} {S : Nat → Prop} {a : Nat} {x : Int} {its : List It} {Ld : List Int}
end

end Go.Proofs.Ytjpfbkhjhainpaa

/-
  LAYER 15: WHAT Search AND Refer OF PACKAGE data DO: contracts.
-/
set_option linter.unusedVariables false
set_option maxRecDepth 100000
set_option linter.unusedSimpArgs false
namespace Go.Proofs.Ytjpfbkhjhainpaa
open Go.RowKit Go.Shelf

/-- Is it at the place, or behind it? -/
def geQ (place : Int) (x : Int) : Bool := decide (place ≤ x)
section
variable {base p : Nat} {S : Nat → Prop} {a : Nat} {x : Int} {its : List It} {Ld : List Int}
/-! ### Refer -/
end

end Go.Proofs.Ytjpfbkhjhainpaa

/-
  LAYER 15: WHAT Entries OF PACKAGE data TELLS: the entries that have an item.
-/
set_option linter.unusedVariables false
set_option maxRecDepth 100000
set_option linter.unusedSimpArgs false
namespace Go.Proofs.Ytjpfbkhjhainpaa
open Go.RowKit Go.Shelf
attribute [local go_sem] Oper.semAt_some

/-- An iterator's two boxes. -/
structure EnAt (w : World) (g p : Nat) (at_ : Int) : Prop where
  lo : g + 2 ≤ w.heap.size
  cm : w.cell? ⟨g, 0, none⟩ = some (.pointer (some ⟨p, 0, none⟩))
  ca : w.cell? ⟨g + 1, 0, none⟩ = some (.int .i64 at_)
abbrev enBx (g : Nat) : Array Value := #[.pointer (some ⟨g, 0, none⟩), .pointer (some ⟨g + 1, 0, none⟩)]
theorem EnAt.below {w w' : World} {g p : Nat} {at_ : Int} (h : EnAt w g p at_) (hb : Below w.heap.size w w') : EnAt w' g p at_ :=
  ⟨Nat.le_trans h.lo hb.size, (hb.cell (p := ⟨g, 0, none⟩) (by have := h.lo; show g < _; omega)).trans h.cm, (hb.cell (p := ⟨g + 1, 0, none⟩) (by have := h.lo; show g + 1 < _; omega)).trans h.ca⟩
section
variable {base p : Nat} {S : Nat → Prop} {i k d f h : Int} {m : IM} {bv sv : Value}

end

end Go.Proofs.Ytjpfbkhjhainpaa

/-
  LAYER 15: the entries that have an item, collected; the document's Words and Search.
-/
set_option linter.unusedVariables false
set_option maxRecDepth 100000
set_option linter.unusedSimpArgs false
namespace Go.Proofs.Ytjpfbkhjhainpaa
open Go.RowKit Go.Shelf
attribute [local go_sem] Oper.semAt_some

end Go.Proofs.Ytjpfbkhjhainpaa

/-
  LAYER 15: the entries of a file's items as a statement holds them: Refer, Count, Nth, Search, Entries of a row.
-/
set_option linter.unusedVariables false
set_option maxRecDepth 100000
set_option linter.unusedSimpArgs false
namespace Go.Proofs.Ytjpfbkhjhainpaa
open Go.RowKit Go.Shelf

section
variable {base p : Nat} {S : Nat → Prop} {a : Nat} {x : Int} {its : List It} {Ld : List Int}
end

theorem monoY_rise {place : Int} {L : List Int} (h : L.Pairwise (· ≤ ·)) : MonoY (geQ place) L := by
  intro i j hij hj hq
  rcases Nat.lt_or_ge i j with h1 | h1
  · have h2 := List.pairwise_iff_getElem.1 h i j (by omega) hj h1
    have h3 : place ≤ L.getD i 0 := by simpa [geQ] using hq
    have e1 : L.getD i 0 = L[i]'(by omega) := by rw [List.getD_eq_getElem?_getD, List.getElem?_eq_getElem (by omega)]; rfl
    have e2 : L.getD j 0 = L[j]'hj := by rw [List.getD_eq_getElem?_getD, List.getElem?_eq_getElem hj]; rfl
    show decide (place ≤ L.getD j 0) = true
    rw [e2]
    rw [e1] at h3
    exact decide_eq_true (by omega)
  · have : i = j := by omega
    subst this; exact hq

section
variable {w : World} {base : Nat} {S : Nat → Prop} {p lim : Nat} {k d f : Int} {R : List DR} {tl cnt : Nat}

end

end Go.Proofs.Ytjpfbkhjhainpaa
