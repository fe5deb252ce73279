/-
  THE DOCUMENT'S Texts, of alike ones: its contract. (Out of the text on lists of texts of layer 4.)
-/
import Derived.Test.YtakjiklpfddooaaChecked
import Derived.Test.YtakjiklpfddooaaTxt
import Derived.Test.YtakjiklpfddooaaItemText
import Derived.Outline
import Derived.Deep.QuietTactic
import Derived.BigQuiet
import Derived.WalkLawsBesides
import Derived.WalkSpells
import Derived.LoopTactic
set_option linter.unusedVariables false
set_option linter.unusedSimpArgs false
namespace Go.Proofs.Ytakjiklpfddooaa
open Go.RowKit

/-- What a call leaves that only reads: draws. -/
def Drew (w w' : World) : Prop := ∃ n, w' = w.drewN n
theorem Drew.refl (w : World) : Drew w w := ⟨0, rfl⟩
theorem Drew.n (w : World) (n : Nat) : Drew w (w.drewN n) := ⟨n, rfl⟩

theorem texts_same (A1 A2 : Option Addr) (n c1 c2 : Nat) (zs : List ByteArray) (B1 B2 : Nat) (w : World) (h1 : Txt w B1 A1 n c1 zs) (h2 : Txt w B2 A2 n c2 zs) :
    Calls Try.prog 15 #[.slice A1 n c1, .slice A2 n c2] w fun e w' => e = .returned (.bool true) ∧ Drew w w' := by
  have hle := h1.le
  have hcap := h1.cap
  have hle2 := h2.le
  go_enter Try.func15, Try.ntmps15
  go_wp2
  go_loopw [5] (fun i wr => ∃ k q : Nat, k ≤ n ∧ i = .int .i64 k ∧ wr = w.drewN q) (fun i _ => n - (intOf i).toNat)
  case atStart => exact ⟨0, 0, Nat.zero_le _, rfl, rfl⟩
  case round =>
    obtain ⟨k, q, hk, rfl, rfl⟩ := hrel
    have H1 := Lib.hid h1
    have H2 := Lib.hid h2
    by_cases hlt : k < n
    · obtain ⟨b1, o1, rfl, hb1, hc1⟩ := h1.at_ (by omega)
      obtain ⟨b2, o2, rfl, hb2, hc2⟩ := h2.at_ (by omega)
      have e1 := hc1 k hlt
      have e2 := hc2 k hlt
      have hlti : (k : Int) < n := by omega
      have hk0 : (0 : Int) ≤ k := by omega
      generalize nthT zs k = s at *
      clear hc1 hc2 h1 h2
      go_wp2
      go_quiet (fail)
      go_wp2
      go_roundw
      case rel => exact ⟨k + 1, _, by omega, by go_num, by first | rfl | exact World.drewN_drewN _ _ _⟩
      case measure => simp [intOf]; omega
    · obtain rfl : k = n := by omega
      clear h1 h2
      go_wp2
      go_ret
      exact ⟨rfl, Drew.n _ _⟩

end Go.Proofs.Ytakjiklpfddooaa
