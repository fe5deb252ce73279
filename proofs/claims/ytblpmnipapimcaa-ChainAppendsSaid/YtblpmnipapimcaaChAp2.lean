/-
  LAYER 14: a round of ChainAppends, from its Append on: there is no room
-/
import Derived.Test.YtblpmnipapimcaaChApC
set_option linter.unusedVariables false
set_option maxRecDepth 100000
set_option linter.unusedSimpArgs false
namespace Go.Proofs.Ytblpmnipapimcaa
open Go.RowKit Go.Shelf

set_option maxHeartbeats 32000000 in
theorem ap_tail2 (b off n c : Nat) (V1 : Value) (lim p ga gl i t tl rt gt : Nat) (x : Int) (Y X : Nat → Value) (wr : World) (P1 P2 : World → Prop) (Q : Exit → Act → World → Prop)
    (hi : i < n) (ht : t < 2) (hn : n ≤ 9223372036854775807) (hlim : lim < 65536) (htl : tl ≤ 1099511627776) (hx : ¬ x = 0)
    (K0 : wr.cell? ⟨ga, t, none⟩ = some (.int .i64 rt) ∧ wr.cell? ⟨b, off + i, none⟩ = some (.int .u64 x))
    (HA : Hid (∀ d, Calls Try.prog 9 #[.pointer (some ⟨p, 0, none⟩), .int .i64 rt, .int .u64 x] (wr.drewN d) fun e w1 => e = .returned (.int .i64 21) ∧ P1 w1))
    (K1 : Hid (∀ w1, P1 w1 → (w1.cell? ⟨ga, t, none⟩ = some (.int .i64 rt) ∧ w1.cell? ⟨b, off + i, none⟩ = some (.int .u64 x)) ∧ w1.cell? ⟨gl, t, none⟩ = some (.pointer (some ⟨gt, 0, none⟩))))
    (HR : Hid (∀ w1, P1 w1 → ∀ d, Calls Try.prog 10 #[.pointer (some ⟨gt, 0, none⟩), .int .u64 x, .int .i64 ((lim : Int) - (tl : Int))] (w1.drewN d) fun e w2 => e = .returned (.int .i64 (-1)) ∧ P2 w2))
    (K2 : Hid (∀ w2, P2 w2 → w2.cell? ⟨gl, t, none⟩ = some (.pointer (some ⟨gt, 0, none⟩)) ∧ w2.cell? ⟨b, off + i, none⟩ = some (.int .u64 x)))
    (HQ : Hid (∀ w2, P2 w2 → ∀ X, Q .normal { tmps := apF b off n c V1 lim p ga gl i t tl Y X, defers := [] } w2)) :
    apTail.wp Try.prog Q { tmps := apF b off n c V1 lim p ga gl i t tl Y X, defers := [] } wr := by
  have i1 : (i : Int) < (n : Int) := by omega
  have i2 : (t : Int) < 2 := by omega
  have hx1 : (x == 0) = false := by simpa using hx
  have hw1 : IntKind.i64.wrap (lim : Int) = (lim : Int) := wrap_i64_of (by omega) (by omega)
  have hw2 : IntKind.i64.wrap ((lim : Int) - (tl : Int)) = (lim : Int) - (tl : Int) := by rw [IntKind.wrap_i64]; omega
  clear hx htl hlim
  dsimp only [apTail, apRound, apLoop, apBody, cL, cR, cB, cLp, Try.f3, Option.getD]
  go_wp2
  go_region_held3 (fun w' => w'.cell? ⟨ga, t, none⟩ = some (.int .i64 rt) ∧ w'.cell? ⟨b, off + i, none⟩ = some (.int .u64 x))
    (first | assumption | exact K0 | exact hk1.1)
    ((go_at_call 9; refine (HA.out 1).mono ?_; rintro e w1 ⟨rfl, hp1⟩; have hk1 := K1.out _ hp1))
  obtain ⟨⟨k1, k2⟩, k3⟩ := K1.out _ hp1
  go_wp2
  have K3 : (w1.cell? ⟨gl, t, none⟩ = some (.pointer (some ⟨gt, 0, none⟩)) ∧ w1.cell? ⟨b, off + i, none⟩ = some (.int .u64 x)) := ⟨k3, k2⟩
  go_region_held3 (fun w' => w'.cell? ⟨gl, t, none⟩ = some (.pointer (some ⟨gt, 0, none⟩)) ∧ w'.cell? ⟨b, off + i, none⟩ = some (.int .u64 x))
    (first | assumption | exact K3 | exact hk2)
    ((go_at_call 10; refine (HR.out _ hp1 1).mono ?_; rintro e w2 ⟨rfl, hp2⟩; have hk2 := K2.out _ hp2))
  go_wp2
  exact use_X (HQ.out _ hp2) rfl

end Go.Proofs.Ytblpmnipapimcaa
