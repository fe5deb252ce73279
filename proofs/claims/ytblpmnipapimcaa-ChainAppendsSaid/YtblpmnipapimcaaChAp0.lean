/-
  LAYER 14: a round of ChainAppends, from its Append on: it is 0
-/
import Derived.Test.YtblpmnipapimcaaChApC
set_option linter.unusedVariables false
set_option maxRecDepth 100000
set_option linter.unusedSimpArgs false
namespace Go.Proofs.Ytblpmnipapimcaa
open Go.RowKit Go.Shelf

set_option maxHeartbeats 32000000 in
theorem ap_tail0 (b off n c : Nat) (V1 : Value) (lim p ga gl i t tl rt : Nat) (Y X : Nat → Value) (wr : World) (P1 : World → Prop) (Q : Exit → Act → World → Prop)
    (hi : i < n) (ht : t < 2) (hn : n ≤ 9223372036854775807) (hlim : lim < 65536) (htl : tl ≤ 1099511627776)
    (K0 : wr.cell? ⟨ga, t, none⟩ = some (.int .i64 rt) ∧ wr.cell? ⟨b, off + i, none⟩ = some (.int .u64 0))
    (HA : Hid (∀ d, Calls Try.prog 9 #[.pointer (some ⟨p, 0, none⟩), .int .i64 rt, .int .u64 0] (wr.drewN d) fun e w1 => e = .returned (.int .i64 1) ∧ P1 w1))
    (K1 : Hid (∀ w1, P1 w1 → w1.cell? ⟨ga, t, none⟩ = some (.int .i64 rt) ∧ w1.cell? ⟨b, off + i, none⟩ = some (.int .u64 0)))
    (HT : Hid (∀ w2, P1 w2 → Calls Try.prog 8 #[.pointer (some ⟨p, 0, none⟩)] w2 fun e w' => e = .returned (.int .i64 (tl : Int)) ∧ w2 = w'))
    (HQ : Hid (∀ w2, P1 w2 → ∀ X, Q (.exit 1) { tmps := apF b off n c V1 lim p ga gl i t tl Y X, defers := [] } w2)) :
    apTail.wp Try.prog Q { tmps := apF b off n c V1 lim p ga gl i t tl Y X, defers := [] } wr := by
  have i1 : (i : Int) < (n : Int) := by omega
  have i2 : (t : Int) < 2 := by omega
  clear htl hlim
  dsimp only [apTail, apRound, apLoop, apBody, cL, cR, cB, cLp, Try.f3, Option.getD]
  go_wp2
  go_region_held3 (fun w' => w'.cell? ⟨ga, t, none⟩ = some (.int .i64 rt) ∧ w'.cell? ⟨b, off + i, none⟩ = some (.int .u64 0))
    (first | assumption | exact K0 | exact hk1)
    ((go_at_call 9; refine (HA.out 1).mono ?_; rintro e w1 ⟨rfl, hp1⟩; have hk1 := K1.out _ hp1))
  obtain ⟨k1, k2⟩ := K1.out _ hp1
  go_wp2_with (go_at_call 8; refine (HT.out _ hp1).mono ?_; rintro e w5 ⟨rfl, rfl⟩)
  exact use_X (HQ.out _ hp1) rfl

end Go.Proofs.Ytblpmnipapimcaa
