import Derived.Test.YtgcmbgniaffdlaaGreatEaB
set_option linter.unusedVariables false
set_option maxRecDepth 100000
set_option linter.unusedSimpArgs false
namespace Go.Proofs.YtgcmbgniaffdlaaGreat
open Go.RowKit Go.Shelf
def tB1 : ByteArray := ⟨#[66, 61, 49]⟩
def tA1 : ByteArray := ⟨#[65, 61, 49]⟩
theorem OneR.txt {O : List GO} {Z : List (List ByteArray)} {W : World} {F : Nat -> Prop} {i : Nat} {r : RC} (h : OneR O Z W F i r) : Txt W W.heap.size r.A r.n r.c r.its := by
 obtain ⟨o, zs, h1, h2, h3, h4, -⟩ := h.ex
 rw [h3]; exact h4
theorem recs_of {O : List GO} {Z : List (List ByteArray)} {W : World} {base : Nat} {v : Value} {l : List RC} (ho : W.ownsRow base 39 5 v l.length (cellsR5 l)) (he : ∀ i r, l[i]? = some r -> OneR O Z W (fun q => v.ownBlock = some q) i r) : ∃ A c, v = .slice A l.length c /\ RecsR W W.heap.size A l.length c l :=
 RecsR.of_own ho (fun r hr => by
   obtain ⟨i, hi⟩ := List.getElem?_of_mem hr
   exact (he i r hi).txt)
end Go.Proofs.YtgcmbgniaffdlaaGreat
