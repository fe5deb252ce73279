/-
  MERGED BY PROGRAM out of the texts ObjDecR ObjDecR2 ObjDecR3 ObjDecR4 ObjDecR5.
-/
import Derived.Test.YtknimfnjmhmamaaGreatLOb
import Derived.Deep.RegionHeld3
import Derived.Deep.Cut

/-
  LAYER 9: THE DOCUMENT'S Decode, where no kind and no size stand, or too small a one: contracts.
-/
set_option linter.unusedVariables false
set_option linter.unusedSimpArgs false
set_option maxRecDepth 100000
namespace Go.Proofs.YtknimfnjmhmamaaGreat
open Go.RowKit

end Go.Proofs.YtknimfnjmhmamaaGreat

/-
  LAYER 9: what helps with the document's Decode: a row that is appended to and stored into a field; what its last test says.
-/
set_option linter.unusedVariables false
set_option maxRecDepth 100000
set_option linter.unusedSimpArgs false
namespace Go.Proofs.YtknimfnjmhmamaaGreat
open Go.RowKit

/-- A row of a field that was appended to is stored into it. -/
theorem fld_app {w0 wr wa w3 : World} {X R i : Nat} {T e : TypeId} {cs zs : Array Value} {v v' : Value} {N N' : Nat} {xs xs' : List Value} (hbel : Below w0.heap.size w0 wr) (hX : Blk wr X T cs) (hR : Blk wr R T zs) (hXR : R ≠ X) (hXl : w0.heap.size ≤ X)
    (ha : Below wr.heap.size wr wa) (ho : wr.ownsRow w0.heap.size e 1 v N xs) (hg : wa.grownBy w3 v.ownBlock) (ho3 : w3.ownsRow w0.heap.size e 1 v' N' xs') (hne : e ≠ T) :
    Below w0.heap.size w0 (w3.setCell ⟨X, i, none⟩ v') ∧ Blk (w3.setCell ⟨X, i, none⟩ v') X T (cs.setIfInBounds i v') ∧ Blk (w3.setCell ⟨X, i, none⟩ v') R T zs ∧ (w3.setCell ⟨X, i, none⟩ v').ownsRow w0.heap.size e 1 v' N' xs' ∧
    Chg (fun b => b = X ∨ v.ownBlock = some b) wr (w3.setCell ⟨X, i, none⟩ v') ∧ v.ownBlock ≠ some X := by
  have hvX := own_blk_ne ho hX hne
  have hvR := own_blk_ne ho hR hne
  have c13 : Chg (fun b => v.ownBlock = some b) wr w3 := (Chg.of_below ha (Nat.le_refl _) _).trans (Chg.of_grown hg) (fun _ _ e => e)
  have hX3 := hX.chg c13 hvX
  have hR3 := hR.chg c13 hvR
  have hs := hbel.size
  have hs2 := ha.size
  refine ⟨((hbel.trans (ha.mono hs)).grown hg (by omega) (fun g e => (ho.lt g e).1)).setCell hXl _, hX3.set_ i v', hR3.far hXR v', own_chg ho3 ((Chg.refl (fun b => b = X) w3).setCell (p := ⟨X, i, none⟩) (.inr rfl) _) (fun g e1 e2 => ?_), ?_, hvX⟩
  · subst e2; exact own_blk_ne ho3 hX3 hne e1
  · exact (c13.mono (fun _ _ e => .inr e)).setCell (.inr (.inl rfl)) _

/-- What the last test of the document's Decode says. -/
theorem dec_cases {zs : List Int} {j k s n : Nat} (hz : AreB zs) (hlen : zs.length = n) (h : DecAt zs j k s) (hs : n ≤ 140737488355328) (hf : frontN k ≤ s) (x : List Int) (hx : encR k (dW (objB zs j s) k) (dR (objB zs j s) k) (dI (objB zs j s) k) = x) :
    (decB zs j k s = true ∧ 0 < x.length ∧ x.length = s + padn s 8 ∧ j + x.length ≤ n ∧ x = (zs.drop j).take x.length) ∨
    (decB zs j k s = false ∧ (x.length = 0 ∨ (0 < x.length ∧ n < j + x.length) ∨ (0 < x.length ∧ j + x.length ≤ n ∧ x ≠ (zs.drop j).take x.length))) := by
  by_cases hd : decB zs j k s = true
  · obtain ⟨h1, h2⟩ := enc_of_dec hz h hd
    rw [hx] at h2
    have hl : x.length = s + padn s 8 := by rw [h2, List.length_take, List.length_drop]; omega
    have hp : 0 < s := by unfold frontN at hf; omega
    exact .inl ⟨hd, by omega, hl, by omega, by rw [hl]; exact h2⟩
  · have hd' : decB zs j k s = false := by simpa using hd
    refine .inr ⟨hd', ?_⟩
    by_cases h0 : x.length = 0
    · exact .inl h0
    by_cases h1 : n < j + x.length
    · exact .inr (.inl ⟨by omega, h1⟩)
    refine .inr (.inr ⟨by omega, by omega, fun e => hd ?_⟩)
    exact (dec_of_enc hz h (by omega) hf x hx.symm (fun e => h0 (by rw [e]; rfl)) (by omega) e).1

/-- What the document's Decode tells. -/
def RDec (zs : List Int) (j k s : Nat) (w : World) (e : Ending) (w' : World) : Prop :=
  Below w.heap.size w w' ∧ ((decB zs j k s = true ∧ ∃ A1 n1 c1 A2 n2 c2 A3 n3 c3, e = .returned (.tuple #[obV k A1 n1 c1 A2 n2 c2 A3 n3 c3, .int .i64 (j + (s + padn s 8) : Nat), .bool true]) ∧
      ObR w' w'.heap.size A1 n1 c1 (dW (objB zs j s) k) A2 n2 c2 (dR (objB zs j s) k) A3 n3 c3 (dI (objB zs j s) k)) ∨
    (decB zs j k s = false ∧ e = .returned (.tuple #[obZ, .int .i64 0, .bool false])))

/-- Four cells of a block, stored anew. -/
theorem put4 {w7 : World} {R : Nat} {T : TypeId} {a0 a1 a2 a3 z0 z1 z2 z3 : Value} (hR : Blk w7 R T #[z0, z1, z2, z3]) :
    Blk ((((w7.setCell ⟨R, 0, none⟩ a0).setCell ⟨R, 1, none⟩ a1).setCell ⟨R, 2, none⟩ a2).setCell ⟨R, 3, none⟩ a3) R T #[a0, a1, a2, a3] ∧
    Chg (fun b => b = R) w7 ((((w7.setCell ⟨R, 0, none⟩ a0).setCell ⟨R, 1, none⟩ a1).setCell ⟨R, 2, none⟩ a2).setCell ⟨R, 3, none⟩ a3) := by
  refine ⟨?_, ?_⟩
  · have h := (((hR.set_ 0 a0).set_ 1 a1).set_ 2 a2).set_ 3 a3
    simpa using h
  · exact ((((Chg.refl (fun b => b = R) w7).setCell (p := ⟨R, 0, none⟩) (.inr rfl) _).setCell (p := ⟨R, 1, none⟩) (.inr rfl) _).setCell (p := ⟨R, 2, none⟩) (.inr rfl) _).setCell (p := ⟨R, 3, none⟩) (.inr rfl) _

end Go.Proofs.YtknimfnjmhmamaaGreat

/-
  LAYER 9: THE DOCUMENT'S Decode, where it has bytes
-/
set_option linter.unusedVariables false
set_option linter.unusedSimpArgs false
set_option maxRecDepth 100000
namespace Go.Proofs.YtknimfnjmhmamaaGreat
open Go.RowKit

end Go.Proofs.YtknimfnjmhmamaaGreat

/-
  LAYER 9: THE DOCUMENT'S Decode, where it has numbers
-/
set_option linter.unusedVariables false
set_option linter.unusedSimpArgs false
set_option maxRecDepth 100000
namespace Go.Proofs.YtknimfnjmhmamaaGreat
open Go.RowKit

end Go.Proofs.YtknimfnjmhmamaaGreat

/-
  LAYER 9: THE DOCUMENT'S Decode, all its ways.
-/
set_option linter.unusedVariables false
set_option maxRecDepth 100000
set_option linter.unusedSimpArgs false
namespace Go.Proofs.YtknimfnjmhmamaaGreat
open Go.RowKit

theorem may_one {k s : Nat} (h : mayB k s = true) : 1 ≤ k := by
  rcases Nat.eq_zero_or_pos k with h0 | h0
  · subst h0
    have e1 : hasI ((0 : Nat) : Int) = false := rfl
    have e2 : mostN ((0 : Nat) : Int) = 0 := rfl
    unfold mayB at h
    rw [e1, e2] at h
    simp at h
    omega
  · exact h0

end Go.Proofs.YtknimfnjmhmamaaGreat
