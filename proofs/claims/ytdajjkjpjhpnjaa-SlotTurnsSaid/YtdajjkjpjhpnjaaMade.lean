/-
  BYTES THAT A CALL MAKES: told in a row of their own; a writer as a call holds it; a row that grows. For whatever encodes by package le.
-/
import Derived.Test.YtdajjkjpjhpnjaaLeBackP
set_option linter.unusedVariables false
set_option maxRecDepth 100000
set_option linter.unusedSimpArgs false
namespace Go.Proofs.Ytdajjkjpjhpnjaa
open Go.RowKit

theorem padn_eight (n : Nat) : padn n 8 = (8 - n % 8) % 8 := by
  unfold padn
  rw [if_neg (by omega)]
  split <;> omega


/-- Bytes that a function has told: in a row of their own. -/
def Told (zs : List Int) (w : World) (e : Ending) (w' : World) : Prop :=
  ∃ A N c, e = .returned (.slice A N c) ∧ N = zs.length ∧ w'.ownsRow w.heap.size 5 1 (.slice A N c) N (cellsOf .u8 zs) ∧ Below w.heap.size w w' ∧ N ≤ c ∧ c ≤ 9223372036854775807

theorem Told.nil (w w' : World) (h : Below w.heap.size w w') : Told [] w (.returned (.slice none 0 0)) w' := ⟨none, 0, 0, rfl, rfl, World.ownsRow_nil _ _ _ _, h, Nat.le_refl _, by omega⟩

theorem WB.below {w0 wx wy : World} {g : Nat} {v : Value} {zs : List Int} (h : WB w0 g v zs wx) (hb : Below wx.heap.size wx wy) : WB w0 g v zs wy :=
  ⟨h.wr.chg (Chg.of_below hb (Nat.le_refl _) (fun _ => False)) (fun h => h) (fun _ _ h => h), h.bel.trans (hb.mono h.bel.size), h.low⟩
theorem WB.dis {w0 wx wy : World} {g : Nat} {v : Value} {zs : List Int} {L n : Nat} {A : Option Addr} {xs : List Value} (h : WB w0 g v zs wx) (hg : w0.heap.size ≤ g) (hr : Reads wy L 1 A n xs) (hL : L ≤ w0.heap.size) :
    0 < n → ∀ ad, A = some ad → ¬ (ad.block = g ∨ v.ownBlock = some ad.block) := fun hn ad e => by
  obtain ⟨ad', e', hb', _⟩ := hr.2 hn
  rw [e] at e'; injection e' with e'
  subst e'
  rintro (e2 | e2)
  · omega
  · have := h.low _ e2; omega

theorem nob (w : World) : WB w w.heap.size (.slice none 0 0) [] (w.alloc (.cells #[.slice none 0 0] 45)) :=
  ⟨⟨Blk.new _ _ _, World.ownsRow_nil _ _ _ _⟩, (Below.refl _ _).alloc (Nat.le_refl _) _, fun j hj => by simp [Value.ownBlock] at hj⟩

/-- A row that a call is making: these bytes, N of them, in a row of its own. -/
structure OutB (w0 : World) (v : Value) (N : Nat) (zs : List Int) (wx : World) : Prop where
  own : wx.ownsRow w0.heap.size 5 1 v N (cellsOf .u8 zs)
  bel : Below w0.heap.size w0 wx

theorem OutB.len {w0 wx : World} {v : Value} {N : Nat} {zs : List Int} (h : OutB w0 v N zs wx) : zs.length = N := by
  have := h.own.1; rw [cellsOf_length] at this; omega
theorem OutB.below {w0 wx wy : World} {v : Value} {N : Nat} {zs : List Int} (h : OutB w0 v N zs wx) (hb : Below wx.heap.size wx wy) : OutB w0 v N zs wy :=
  ⟨own_below h.own hb, h.bel.trans (hb.mono h.bel.size)⟩
theorem OutB.app {w0 wx wy : World} {v v' : Value} {N M : Nat} {zs ys : List Int} (h : OutB w0 v N zs wx) (ho : wy.ownsRow w0.heap.size 5 1 v' (N + M) (cellsOf .u8 zs ++ cellsOf .u8 ys)) (hg : wx.grownBy wy v.ownBlock) : OutB w0 v' (N + M) (zs ++ ys) wy :=
  ⟨by rw [cellsOf_append]; exact ho, own_grown h.bel h.own (Nat.le_refl _) h.bel.size hg⟩

theorem rbytes8 (x : Int) (w : World) (h0 : Hid (0 ≤ x ∧ x < 18446744073709551616)) : Calls Try.prog 26 #[.int .u64 x, .int .i64 8] w fun e w' =>
    ∃ A c, e = .returned (.slice A 8 c) ∧ w'.ownsRow w.heap.size 5 1 (.slice A 8 c) 8 (cellsOf .u8 (bts x 8)) ∧ Below w.heap.size w w' :=
  rbytes_any x 8 w h0

/-- How long a slice is. -/
def vlen : Value → Nat
  | .slice _ n _ => n
  | _ => 0

end Go.Proofs.Ytdajjkjpjhpnjaa
