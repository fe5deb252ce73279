/-
  ROWS AND BLOCKS THAT LIE APART; THE BLOCKS OF A THING, AND THOSE THAT HAVE COME SINCE. Of no program.
-/
import Derived.Test.YtakjiklpfddooaaChg
set_option linter.unusedVariables false
namespace Go.Proofs.Ytakjiklpfddooaa
open Go.RowKit

/-- Rows of elements of other types lie in other blocks. -/
theorem own_ne {w : World} {b b' : Nat} {e e' : TypeId} {size size' n m : Nat} {u v : Value} {xs ys : List Value} (h : w.ownsRow b e size u n xs) (h' : w.ownsRow b' e' size' v m ys) (hne : e ≠ e') : ∀ g, u.ownBlock = some g → v.ownBlock ≠ some g := by
  intro g hg hg'
  rcases h.2 with ⟨rfl, _⟩ | ⟨g1, c1, cur1, rfl, _, e1, _⟩
  · simp [Value.ownBlock] at hg
  · rcases h'.2 with ⟨rfl, _⟩ | ⟨g2, c2, cur2, rfl, _, e2, _⟩
    · simp [Value.ownBlock] at hg'
    · simp [Value.ownBlock] at hg hg'
      subst hg; subst hg'
      rw [e1] at e2
      injection e2 with e2
      injection e2 with _ e3
      exact absurd e3 hne
theorem blk_one {w : World} {g : Nat} {t t' : TypeId} {cs cs' : Array Value} (h : Blk w g t cs) (h' : Blk w g t' cs') (hne : t ≠ t') : False := Blk.ne_ h h' hne rfl
theorem chg_set (w : World) (q : Addr) (u : Value) : Chg (fun k => k = q.block) w (w.setCell q u) := (Chg.refl (fun k => k = q.block) w).setCell (.inr rfl) u
theorem own_isblk {w : World} {b : Nat} {e : TypeId} {size n : Nat} {v : Value} {ys : List Value} (h : w.ownsRow b e size v n ys) {g : Nat} (hg : v.ownBlock = some g) : ∃ cs, Blk w g e cs := by
  rcases h.2 with ⟨rfl, _⟩ | ⟨g1, c1, cur1, rfl, _, e1, _⟩
  · simp [Value.ownBlock] at hg
  · simp [Value.ownBlock] at hg
    subst hg
    exact ⟨_, e1⟩

/-- The blocks of a thing, and those that have come since. -/
def grow (S : Nat → Prop) (w w' : World) : Nat → Prop := fun k => S k ∨ (w.heap.size ≤ k ∧ k < w'.heap.size)
theorem chg_lt {T : Nat → Prop} {w w' : World} {base : Nat} {S : Nat → Prop} (h : ∀ k, S k → base ≤ k ∧ k < w.heap.size) (hc : Chg T w w') (hb : base ≤ w.heap.size) : ∀ k, grow S w w' k → base ≤ k ∧ k < w'.heap.size := fun k hk => by
  have := hc.size
  rcases hk with hk | ⟨h1, h2⟩
  · have := h k hk; omega
  · omega
theorem size_set (w : World) (q : Addr) (u : Value) : (w.setCell q u).heap.size = w.heap.size := by simp [World.setCell]

/-- A row of the call's own reads. -/
theorem own_reads {w : World} {base : Nat} {e : TypeId} {size n : Nat} {v : Value} {xs : List Value} (h : w.ownsRow base e size v n xs) : ∃ A c, v = .slice A n c ∧ n ≤ c ∧ c ≤ maxLen ∧ Reads w w.heap.size size A n xs := by
  obtain ⟨A, c, rfl, h1, h2⟩ := own_form h
  exact ⟨A, c, rfl, h1, h2, Reads.of_own h⟩
/-- The cells of a slice that reads. -/
theorem Reads.at2 {w : World} {B size n : Nat} {A : Option Addr} {xs : List Value} (h : Reads w B size A n xs) (hs : 0 < size) (hn : 0 < n) :
    ∃ b off, A = some ⟨b, off, none⟩ ∧ b < B ∧ ∀ j u, xs[j]? = some u → w.cell? ⟨b, off + j, none⟩ = some u := by
  obtain ⟨ad, rfl, hb, hc⟩ := h.2 hn
  obtain ⟨b, off, spot⟩ := ad
  have hl : 0 < xs.length := by rw [h.1]; exact Nat.mul_pos hn hs
  have h0 := hc 0 _ (List.getElem?_eq_getElem hl)
  have hsp : spot = none := by simpa [Addr.add] using World.cell?_spot h0
  subst hsp
  refine ⟨b, off, rfl, hb, fun j u hu => ?_⟩
  have := hc j u hu
  have hp : (⟨b, off, none⟩ : Addr).add j = ⟨b, off + j, none⟩ := by unfold Addr.add; split <;> simp_all
  rwa [hp] at this

end Go.Proofs.Ytakjiklpfddooaa
