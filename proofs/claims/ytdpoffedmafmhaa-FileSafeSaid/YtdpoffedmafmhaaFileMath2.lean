/-
  PLAIN MATHEMATICS FOR LAYER 6, ON: what a crash leaves by the first ones alone; what holds of every file that small calls have made. Of no program.
-/
import Derived.Test.YtdpoffedmafmhaaFileMath
set_option linter.unusedVariables false
namespace Go.Proofs.Ytdpoffedmafmhaa
open Go.RowKit

theorem crashL_take : ∀ (ops : List OpV) (z : List Int) (ks : List Bool) (n : Nat), ks.length ≤ n ∨ ops.length ≤ n → crashL z (ops.take n) ks = crashL z ops ks
  | [], z, ks, n, _ => by simp
  | o :: r, z, [], n, _ => by rw [crashL_nil, crashL_nil]
  | o :: r, z, k :: s, 0, h => by simp at h
  | o :: r, z, k :: s, n + 1, h => by
    rw [List.take_succ_cons]
    simp only [crashL]
    exact crashL_take r _ s n (by simpa using h)

def truncE (n : Int) : Int := if n < 0 ∨ 1048576 < n then 1 else 0
def FS.truncI (s : FS) (n : Int) : FS := if n < 0 ∨ 1048576 < n then s else s.trunc n.toNat
def writeE (a : Int) (m : Nat) : Int := if a < 0 ∨ 1048576 < a + m then 1 else 0
def FS.writeI (s : FS) (a : Int) (bs : List Int) : FS := if a < 0 ∨ 1048576 < a + bs.length then s else s.write a.toNat bs

/-- What holds of a file behind small calls; not more than n things are pending. -/
structure FS.Good (s : FS) (n : Nat) : Prop where
  ok : s.Ok
  whole : ∀ o ∈ s.ops, o.sz = false → o.data.length = 64
  empty : ∀ o ∈ s.ops, o.sz = true → o.data = []
  few : s.ops.length ≤ n

theorem FS.new_good : FS.new.Good 0 := ⟨FS.new_ok, (fun o h => by cases h), (fun o h => by cases h), Nat.zero_le _⟩
theorem FS.Good.more {s : FS} {n m : Nat} (h : s.Good n) (hn : n ≤ m) : s.Good m := ⟨h.ok, h.whole, h.empty, Nat.le_trans h.few hn⟩
theorem FS.Good.trunc {s : FS} {n k : Nat} (h : s.Good n) (hk : k ≤ 1048576) : (s.trunc k).Good (n + 1) := by
  have hops : ∀ o ∈ (s.trunc k).ops, o ∈ s.ops ∨ o = ⟨true, k, []⟩ := fun o ho => by
    unfold FS.trunc at ho
    split at ho
    · exact .inl ho
    · rcases List.mem_append.1 ho with h | h
      · exact .inl h
      · exact .inr (by simpa using h)
  refine ⟨h.ok.trunc hk, fun o ho hs => ?_, fun o ho hs => ?_, by have := FS.trunc_ops s k; have := h.few; omega⟩
  · rcases hops o ho with h1 | rfl
    · exact h.whole o h1 hs
    · cases hs
  · rcases hops o ho with h1 | rfl
    · exact h.empty o h1 hs
    · rfl
theorem FS.Good.write {s : FS} {n a : Nat} {xs : List Int} (h : s.Good n) (hx : AreB xs) (ha : a + xs.length ≤ 1048576) : (s.write a xs).Good (n + 1 + (xs.length / 64 + 2)) := by
  have hops : ∀ o ∈ (s.write a xs).ops, o ∈ s.ops ∨ (∃ k, o = ⟨true, k, []⟩) ∨ ∃ k z i, o = ⟨false, k, secL z i⟩ := fun o ho => by
    unfold FS.write at ho
    split at ho
    · exact .inl ho
    · rcases List.mem_append.1 ho with ho | ho
      · rcases List.mem_append.1 ho with ho | ho
        · exact .inl ho
        · unfold growO at ho
          split at ho
          · exact .inr (.inl ⟨_, by simpa using ho⟩)
          · cases ho
      · unfold wrO at ho
        obtain ⟨i, _, rfl⟩ := List.mem_map.1 ho
        exact .inr (.inr ⟨_, _, _, rfl⟩)
  refine ⟨h.ok.write hx ha, fun o ho hs => ?_, fun o ho hs => ?_, by have := FS.write_ops s a xs; have := h.few; omega⟩
  · rcases hops o ho with h1 | ⟨k, rfl⟩ | ⟨k, z, i, rfl⟩
    · exact h.whole o h1 hs
    · cases hs
    · exact secL_length _ _
  · rcases hops o ho with h1 | ⟨k, rfl⟩ | ⟨k, z, i, rfl⟩
    · exact h.empty o h1 hs
    · rfl
    · cases hs
theorem FS.Good.sync {s : FS} {n : Nat} (h : s.Good n) : s.sync.Good 0 := ⟨h.ok.sync, (fun o h => by cases h), (fun o h => by cases h), Nat.zero_le _⟩
theorem FS.Good.crash {s : FS} {n : Nat} (h : s.Good n) (ks : List Bool) : (s.crash ks).Good 0 := ⟨h.ok.crash ks, (fun o h => by cases h), (fun o h => by cases h), Nat.zero_le _⟩
theorem FS.Good.truncI {s : FS} {n : Nat} (h : s.Good n) (k : Int) : (s.truncI k).Good (n + 1) := by
  unfold FS.truncI; split
  · exact h.more (by omega)
  · exact h.trunc (by omega)
theorem FS.Good.writeI {s : FS} {n : Nat} (h : s.Good n) (a : Int) {xs : List Int} (hx : AreB xs) : (s.writeI a xs).Good (n + 1 + (xs.length / 64 + 2)) := by
  unfold FS.writeI; split
  · exact h.more (by omega)
  · exact h.write hx (by omega)

end Go.Proofs.Ytdpoffedmafmhaa
