/-
  THE DOCUMENT'S OWN Same OF LAYER 1: whether two slices of bytes are alike: its contract.
-/
import Derived.Test.YtdpoffedmafmhaaChecked
import Derived.Test.YtdpoffedmafmhaaWords
import Derived.Test.YtdpoffedmafmhaaLeMath
import Derived.WalkKit
import Derived.Lib.Hide
set_option linter.unusedVariables false
namespace Go.Proofs.Ytdpoffedmafmhaa
open Go.RowKit

theorem same_any {B B' : Nat} (A A' : Option Addr) (n n' c c' : Nat) (xs ys : List Int) (w : World) (hx : Reads w B 1 A n (cellsOf .u8 xs)) (hy : Reads w B' 1 A' n' (cellsOf .u8 ys)) (bx : AreB xs) (byy : AreB ys) :
    Calls Try.prog 12 #[.slice A n c, .slice A' n' c'] w fun e w' => e = .returned (.bool (decide (xs = ys))) ∧ w = w' := by
  have h1 := run_text (P := Try.prog) 26 5 9 Try.underlying26 Try.underlying5 Try.underlying9 hx c
  have h2 := run_text (P := Try.prog) 26 5 9 Try.underlying26 Try.underlying5 Try.underlying9 hy c'
  clear hx hy
  go_enter Try.func12, Try.ntmps12
  go_wp2
  go_ret
  exact ⟨ret_bool (strOfNums_beq bx byy), rfl⟩

theorem same_yes {B B' : Nat} (A A' : Option Addr) (n n' c c' : Nat) (xs ys : List Int) (w : World) (hx : Reads w B 1 A n (cellsOf .u8 xs)) (hy : Reads w B' 1 A' n' (cellsOf .u8 ys)) (bx : AreB xs) (h : Hid (xs = ys)) :
    Calls Try.prog 12 #[.slice A n c, .slice A' n' c'] w fun e w' => e = .returned (.bool true) ∧ w = w' :=
  (same_any A A' n n' c c' xs ys w hx hy bx (h.out ▸ bx)).mono fun _ _ ⟨he, hw⟩ => ⟨by rw [he, decide_eq_true h.out], hw⟩

end Go.Proofs.Ytdpoffedmafmhaa
