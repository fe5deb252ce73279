/-
  LAYER 9: Decode OF PACKAGE obj, all its ways.
-/
import Derived.Test.YtbgdaiecmpjcbaaObjDec2
set_option linter.unusedVariables false
set_option linter.unusedSimpArgs false
namespace Go.Proofs.Ytbgdaiecmpjcbaa
open Go.RowKit

/-- Decode, where there is an object: it, and the place behind it. -/
theorem odec_yes {B : Nat} (A : Option Addr) (n c j k s : Nat) (zs : List Int) (w : World) (hr : Reads w B 1 A n (cellsOf .u8 zs)) (hB : B ≤ w.heap.size) (hz : AreB zs) (hl : n ≤ c) (hcap : c ≤ 9223372036854775807) (hn : n ≤ 140737488355328)
    (h : DecAt zs j k s) (hd : decB zs j k s = true) :
    Calls Try.prog 21 #[.slice A n c, .int .i64 j] w fun e w' => ∃ A1 n1 c1 A2 n2 c2 A3 n3 c3, e = .returned (.tuple #[obV k A1 n1 c1 A2 n2 c2 A3 n3 c3, .int .i64 (j + (s + padn s 8) : Nat), .bool true]) ∧ Below w.heap.size w w' ∧
      ObOwn w' w.heap.size A1 n1 c1 (dW (objB zs j s) k) A2 n2 c2 (dR (objB zs j s) k) A3 n3 c3 (dI (objB zs j s) k) := by
  obtain ⟨b, hb⟩ : ∃ b, hasI k = b := ⟨_, rfl⟩
  cases b
  · exact (odec_raw A n c j k s zs w hr hB hz hl hcap hn h hd hb).mono fun e w' ⟨A1, c1, A2, m, c2, h1, h2, h3⟩ => ⟨A1, _, c1, A2, m, c2, none, 0, 0, h1, h2, h3⟩
  · exact (odec_items A n c j k s zs w hr hB hz hl hcap hn h hd hb).mono fun e w' ⟨A1, c1, A2, m, c2, h1, h2, h3⟩ => ⟨A1, _, c1, none, 0, 0, A2, m, c2, h1, h2, h3⟩

/-- Decode, where there is none. -/
theorem odec_no {B : Nat} (A : Option Addr) (n c : Nat) (at_ : Int) (zs : List Int) (w : World) (hr : Reads w B 1 A n (cellsOf .u8 zs)) (hB : B ≤ w.heap.size) (hz : AreB zs) (hl : n ≤ c) (hcap : c ≤ 9223372036854775807) (hn : n ≤ 140737488355328) (h0 : -9223372036854775808 ≤ at_) (h1 : at_ ≤ 4611686018427387904)
    (hno : ∀ j k s, at_ = (j : Nat) → DecAt zs j k s → decB zs j k s = false) :
    Calls Try.prog 21 #[.slice A n c, .int .i64 at_] w fun e w' => e = .returned (.tuple #[obZ, .int .i64 0, .bool false]) ∧ Below w.heap.size w w' := by
  by_cases h : ∃ j k s, at_ = (j : Nat) ∧ DecAt zs j k s
  · obtain ⟨j, k, s, rfl, h⟩ := h
    exact odec_no2 A n c j k s zs w hr hB hz hl hcap hn h (hno j k s rfl h)
  · exact odec_no1 A n c at_ zs w hr hB hz hl hcap hn h0 h1 (fun j k s e hd => h ⟨j, k, s, e, hd⟩)

end Go.Proofs.Ytbgdaiecmpjcbaa
