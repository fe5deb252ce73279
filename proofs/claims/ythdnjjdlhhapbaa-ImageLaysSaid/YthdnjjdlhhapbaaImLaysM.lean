/-
  LAYER 12: what ImageLays holds: both images behind the acts of its second row, and a copy of what was there; bytes with words laid over them.
-/
import Derived.Test.YthdnjjdlhhapbaaImLaw
set_option linter.unusedVariables false
set_option maxRecDepth 100000
set_option linter.unusedSimpArgs false
namespace Go.Proofs.Ythdnjjdlhhapbaa
open Go.RowKit

/-- At the head of each round of the second row. -/
structure LayAt (wB w0 wr : World) (p q : Nat) (T : Nat → Prop) (m : IM) (k : Nat) (b0 : List Int) (A : Option Addr) (N c : Nat) : Prop where
  at_ : AtI wB wr p q T 4 4 m k
  was : m.was = b0
  row : wr.ownsRow w0.heap.size 5 1 (.slice A N c) N (cellsOf .u8 b0)
  no : ∀ g, (Value.slice A N c).ownBlock = some g → ¬ T g

theorem LayAt.next {wB w0 wr w1 w2 : World} {p q k : Nat} {T : Nat → Prop} {m : IM} {b0 : List Int} {A : Option Addr} {N c : Nat} {a : ActI} {e : Ending} (H : LayAt wB w0 wr p q T m k b0 A N c) (hb : Below wr.heap.size wr w1) (hy : AreB a.rs) (h2 : a.kind ≠ 2)
    (hd : IDid wB.heap.size T p q 5 6 4 4 0 (m.act a) w1 e w2) : ∃ T', e = .returned (.bool true) ∧ LayAt wB w0 w2 p q T' (m.act a) (k + 1) b0 A N c := by
  obtain ⟨T', he, h1, hc, hT⟩ := H.at_.next hb hy hd
  refine ⟨T', he, h1, ?_, own_chg H.row hc H.no, fun g hg ht => ?_⟩
  · rw [IM.act_was, if_neg h2]; exact H.was
  · rcases hT g ht with h | h
    · exact H.no g hg h
    · have := (H.row.lt g hg).2; omega

/-- The copy has been made. -/
theorem LayAt.made {wB wr wD w3 : World} {p q k : Nat} {T : Nat → Prop} {m : IM} {A : Option Addr} {N c : Nat} (H : AtI wB wr p q T 4 4 m k) (hd : ITurn wB.heap.size T p q 5 6 4 4 0 m.done m.done wr wD) (ho : OutB wD (.slice A N c) N m.b w3) :
    ∃ T', LayAt wB wD w3 p q T' m.done k m.b A N c := by
  have hw := hd.2.foot
  refine ⟨_, ⟨hd.2.below ho.bel, H.ok.done, ?_, ?_⟩, rfl, ho.own, fun g hg ht => ?_⟩
  · show 272 ≤ m.b.length
    have := H.big; have := H.ok.good.le; omega
  · have h1 := hd.1.below H.bel.size (fun j _ hj => (H.two.foot j hj).1)
    have h2 := H.bel.trans h1
    exact h2.trans (ho.bel.mono h2.size)
  · have := (ho.own.lt g hg).1
    have := (hw g ht).2
    omega

/-- Bytes are laid over a row of the call's own. -/
theorem OutB.laid {w0 w w' : World} {g n c a : Nat} {cur : List Value} {zs ys : List Int} (H : OutB w0 (.slice (some ⟨g, 0, none⟩) n c) n zs w) (hl : cur.length = c * 1) (ht : cur.take (n * 1) = cellsOf .u8 zs) (ha : a + ys.length ≤ n)
    (hb2 : Blk w' g 5 (splice cur a (cellsOf .u8 ys)).toArray) (hc : Chg (fun j => j = g) w w') : OutB w0 (.slice (some ⟨g, 0, none⟩) n c) n (splice zs a ys) w' := by
  obtain ⟨A', c', e, h1, h2⟩ := own_form H.own
  injection e with e1 _ e3
  subst e1; subst e3
  have hbg : w0.heap.size ≤ g := (H.own.lt g rfl).1
  have hn := H.len
  have hwl : (splice zs a ys).length = zs.length := splice_len _ _ _ (by omega)
  simp only [Nat.mul_one] at hl ht
  refine ⟨row_shut hbg hb2 h1 h2 (by rw [length_splice _ _ _ (by rw [cellsOf_length, hl]; omega)]; omega) ?_ (by rw [cellsOf_length, hwl]; omega), H.bel.trans (hc.below H.bel.size (fun j _ e => by subst e; exact hbg))⟩
  rw [Nat.mul_one, take_splice ht (by omega) (by rw [cellsOf_length]; omega), splice_cells]

theorem layW_next {b L : List Int} {ws : List Nat} {y a : Nat} (h : ws[y]? = some a) : layW b L (ws.take (y + 1)) = splice (layW b L (ws.take y)) a ((b.drop a).take 8) := by
  obtain ⟨hlt, he⟩ := List.getElem?_eq_some_iff.1 h
  rw [List.take_succ_eq_append_getElem hlt, he]
  simp [layW]

end Go.Proofs.Ythdnjjdlhhapbaa
