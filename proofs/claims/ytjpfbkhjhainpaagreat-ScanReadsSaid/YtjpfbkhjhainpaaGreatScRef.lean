/-
  LAYER 17: the document's All, Whole: contracts.
-/
import Derived.Test.YtjpfbkhjhainpaaGreatScRows
set_option linter.unusedVariables false
set_option maxRecDepth 100000
set_option linter.unusedSimpArgs false
namespace Go.Proofs.YtjpfbkhjhainpaaGreat
open Go.RowKit Go.Shelf

/-- What the document's All holds between two rounds. -/
structure RAI (w : World) (zt : List Int) (v : Value) (pre : List So) (W : World) : Prop where
  own : W.ownsRow w.heap.size 55 6 v pre.length (cellsS pre)
  each : ∀ x ∈ pre, x.lies zt W ∧ x.apart (fun k => v.ownBlock = some k)
  below : Below w.heap.size w W
theorem RAI.next {w W W1 W2 : World} {zt : List Int} {v v' : Value} {pre : List So} {x : So} {tmp : Obj} (h : RAI w zt v pre W) (hb : Below W.heap.size W W1) (hx : x.lies zt W1) (hn : ∀ k, (x.A.map (·.block) = some k ∨ x.B.map (·.block) = some k ∨ x.C.map (·.block) = some k) → W.heap.size ≤ k)
    (hown : W2.ownsRow w.heap.size 55 6 v' (pre.length + 1) (cellsS pre ++ x.cs)) (hg : (W1.alloc tmp).grownBy W2 v.ownBlock) (hat : v'.ownBlock = v.ownBlock ∨ v'.ownBlock = some (W1.alloc tmp).heap.size) : RAI w zt v' (pre ++ [x]) W2 := by
  have hsa : (W1.alloc tmp).heap.size = W1.heap.size + 1 := World.size_alloc _ _
  have hs := hg.size
  have hs1 := hb.size
  have hvl := h.own.lt
  have G : GrowF (fun k => v.ownBlock = some k) W1 (fun k => v'.ownBlock = some k) W2 := by
    refine ⟨⟨hg.os, hg.tape, hg.output, by omega, fun j hj hn => (hg.block j (by omega) (fun e => hn e.symm)).trans (Below.heap_alloc _ _ _ hj)⟩, fun k hk => ⟨?_, (hown.lt k hk).2⟩⟩
    rcases hat with e | e
    · exact .inl (by rw [← e]; exact hk)
    · rw [e] at hk; injection hk with hk; right; omega
  refine ⟨by rw [List.length_append, cellsS_snoc]; exact hown, fun y hy => ?_, ?_⟩
  · rcases List.mem_append.1 hy with hy | hy
    · obtain ⟨h1, h2⟩ := h.each y hy
      have := h2.grow ((ObR.below h1 hb (Nat.le_refl _)).upto hb.size) G
      exact ⟨this.2, this.1⟩
    · rw [List.mem_singleton.1 hy]
      have hap : x.apart (fun k => v.ownBlock = some k) := ⟨fun _ ad ha e => by have := (hvl _ e).2; have := hn ad.block (.inl (by rw [ha]; rfl)); omega, fun _ ad ha e => by have := (hvl _ e).2; have := hn ad.block (.inr (.inl (by rw [ha]; rfl))); omega, fun _ ad ha e => by have := (hvl _ e).2; have := hn ad.block (.inr (.inr (by rw [ha]; rfl))); omega⟩
      have := hap.grow hx G
      exact ⟨this.2, this.1⟩
  · exact (h.below.trans (hb.mono h.below.size)).trans (G.1.below (by have := h.below.size; omega) (fun q _ e => (hvl _ e).1))
theorem RAI.bel {w W W1 : World} {zt : List Int} {v : Value} {pre : List So} (h : RAI w zt v pre W) (hb : Below W.heap.size W W1) : RAI w zt v pre W1 :=
  ⟨own_below h.own hb, fun x hx => ⟨(ObR.below (h.each x hx).1 hb (Nat.le_refl _)).upto hb.size, (h.each x hx).2⟩, h.below.trans (hb.mono h.below.size)⟩

theorem cellsS_at : ∀ (l : List So) (i : Nat) (x : So), l[i]? = some x → ∀ q, q < 6 → (cellsS l)[i * 6 + q]? = x.cs[q]?
  | [], i, x, h, q, hq => by simp at h
  | y :: l, 0, x, h, q, hq => by
    have e : y = x := by simpa using h
    subst e
    show (y.cs ++ (l.map So.cs).flatten)[0 * 6 + q]? = _
    rw [Nat.zero_mul, Nat.zero_add, List.getElem?_append_left hq]
  | y :: l, i + 1, x, h, q, hq => by
    have h9 := cellsS_at l i x (by simpa using h) q hq
    show (y.cs ++ (l.map So.cs).flatten)[(i + 1) * 6 + q]? = _
    rw [List.getElem?_append_right (by show 6 ≤ _; omega)]
    have e : (i + 1) * 6 + q - y.cs.length = i * 6 + q := by show (i + 1) * 6 + q - 6 = _; omega
    rw [e]; exact h9
/-- The rows, as a walk reads them. -/
theorem RowsS.at_ {zs : List Int} {W : World} {base i : Nat} {v : Value} {l : List So} (h : RowsS zs W base v l) (hi : i < l.length) :
    ∃ b off c x, v = .slice (some ⟨b, off, none⟩) l.length c ∧ l.length ≤ c ∧ c ≤ 9223372036854775807 ∧ l[i]? = some x ∧ base ≤ b ∧ b < W.heap.size ∧ ∀ q u, x.cs[q]? = some u → W.cell? ⟨b, off + i * 6 + q, none⟩ = some u := by
  obtain ⟨A, c, rfl, h1, h2⟩ := own_form h.own
  have hr := Reads.of_own h.own
  obtain ⟨b, off, rfl, hb, hc⟩ := hr.at2 (by omega) (by omega)
  have hx := List.getElem?_eq_getElem hi
  refine ⟨b, off, c, l[i], rfl, h1, by unfold maxLen at h2; omega, hx, (h.own.lt b rfl).1, hb, fun q u hu => ?_⟩
  have hq : q < 6 := by have := (List.getElem?_eq_some_iff.1 hu).1; exact this
  rw [Nat.add_assoc]
  exact hc _ _ ((cellsS_at l i _ hx q hq).trans hu)
end Go.Proofs.YtjpfbkhjhainpaaGreat
