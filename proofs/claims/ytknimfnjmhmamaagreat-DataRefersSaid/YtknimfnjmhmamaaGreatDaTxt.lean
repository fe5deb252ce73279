/-
  A ROW OF TEXTS THAT A CALL MAKES: laws for its append (out of the text on layer 4's Put).
-/
import Derived.Test.YtknimfnjmhmamaaGreatDaBase
set_option linter.unusedVariables false
set_option linter.unusedSimpArgs false
namespace Go.Proofs.YtknimfnjmhmamaaGreat
open Go.RowKit

theorem strInfo : (Tryz.prog.info? 9).map (fun i => (i.zero, i.size, i.bytes)) = some (some (.string ⟨#[]⟩), 1, 16) := by kernel_rfl

/-- A row of the call's own that holds texts; below the call's own blocks nothing has turned. -/
structure OwnT (w wr : World) (v : Value) (xs : List ByteArray) : Prop where
  own : wr.ownsRow w.heap.size 9 1 v xs.length (cellsT xs)
  below : Below w.heap.size w wr

theorem OwnT.nil_ (w : World) : OwnT w w (.slice none 0 0) [] := ⟨World.ownsRow_nil _ _ _ _, Below.refl _ _⟩
theorem OwnT.push {w wr w1 : World} {v v1 : Value} {xs : List ByteArray} {s : ByteArray} {o : Obj} (h : OwnT w wr v xs) (hown : w1.ownsRow w.heap.size 9 1 v1 (xs.length + 1) (cellsT xs ++ [.string s])) (hg : (wr.alloc o).grownBy w1 v.ownBlock) : OwnT w w1 v1 (xs ++ [s]) := by
  refine ⟨by rw [List.length_append, cellsT_append]; exact hown, ?_⟩
  exact (h.below.alloc h.below.size o).grown hg (by have := h.below.size; simp; omega) (fun k hk => (h.own.lt k hk).1)
theorem OwnT.drewN {w wr : World} {v : Value} {xs : List ByteArray} (h : OwnT w wr v xs) (n : Nat) : OwnT w (wr.drewN n) v xs := ⟨h.own, below_drewn h.below n⟩

/-- What a call hands back that tells a list of texts. -/
def Tells (xs : List ByteArray) (w : World) (e : Ending) (w' : World) : Prop := ∃ A c, e = .returned (.slice A xs.length c) ∧ Txt w' w'.heap.size A xs.length c xs ∧ Below w.heap.size w w'

theorem OwnT.tells {w wr : World} {v : Value} {xs : List ByteArray} (h : OwnT w wr v xs) (hs : ∀ s ∈ xs, s.size ≤ maxLen) : Tells xs w (.returned v) wr := by
  obtain ⟨A, c, rfl, h1, h2⟩ := own_form h.own
  exact ⟨A, c, rfl, Txt.of_own h.own h1 h2 hs, h.below⟩

theorem newT (w : World) (t : TypeId) (s : ByteArray) : Reads (w.alloc (.cells #[.string s] t)) (w.heap.size + 1) 1 (some ⟨w.heap.size, 0, none⟩) 1 [.string s] := Reads.newN w t #[.string s]
theorem strOne (s : ByteArray) : ∀ u ∈ [Value.string s], u.oneCell' = true := fun u hu => by
  rw [List.mem_singleton] at hu
  subst hu
  rfl
theorem allocLe {w wr : World} {v : Value} {xs : List ByteArray} (h : OwnT w wr v xs) (o : Obj) : w.heap.size ≤ (wr.alloc o).heap.size := by have := h.below.size; simp; omega
theorem sm1 {m : Nat} (h : m ≤ 1001) : m + 1 ≤ maxLen := by unfold maxLen; omega
theorem sm2 {m : Nat} (h : m ≤ 1001) : (m + 1) * 16 ≤ 140737488355328 := by omega
theorem sm3 {m : Nat} (h : m ≤ 1001) : m + 1 + 1 ≤ maxLen := by unfold maxLen; omega
theorem sm4 {m : Nat} (h : m ≤ 1001) : (m + 1 + 1) * 16 ≤ 140737488355328 := by omega

end Go.Proofs.YtknimfnjmhmamaaGreat
