/-
  LAYER 16: a record's box behind Checked; records that came in, read later.
-/
import Derived.Test.YtobbkhncnokpiaaGreatEnSt
import Derived.Test.YtobbkhncnokpiaaGreatEnDoc
import Derived.Test.YtobbkhncnokpiaaGreatEnMore
set_option linter.unusedVariables false
set_option maxRecDepth 100000
set_option linter.unusedSimpArgs false
namespace Go.Proofs.YtobbkhncnokpiaaGreat
open Go.RowKit Go.Shelf

theorem InRC.below {w wx : World} {A : Option Addr} {n c : Nat} {l : List RC} (h : InRC w A n c l) (hb : Below w.heap.size w wx) : InRC wx A n c l :=
  ⟨h.length, h.le, h.cap, fun x hx => ((h.ok x hx).below hb).more hb.size, fun hn => by
    obtain ⟨b, off, e, hbl, hc⟩ := h.cells hn
    refine ⟨b, off, e, Nat.lt_of_lt_of_le hbl hb.size, fun i x hi => ?_⟩
    obtain ⟨h0, h1, h2, h3, h4⟩ := hc i x hi
    have g : ∀ o, wx.cell? ⟨b, o, none⟩ = w.cell? ⟨b, o, none⟩ := fun o => hb.cell (p := ⟨b, o, none⟩) hbl
    exact ⟨(g _).trans h0, (g _).trans h1, (g _).trans h2, (g _).trans h3, (g _).trans h4⟩⟩
/-- Behind Checked: the record's box is made. -/
structure ChkBox (wr w1 wx : World) (r : RC) (L : List ByteArray) (B : Option Addr) (d : Nat) : Prop where
  below : Below wr.heap.size wr wx
  txt : Txt wx wx.heap.size B L.length d L
  fr : ∀ ad, B = some ad → wr.heap.size ≤ ad.block
  lo : wr.heap.size ≤ w1.heap.size
  box : Blk wx w1.heap.size 36 #[.int .u64 r.seq, .int .u64 r.real, .int .u64 r.mono, .int .u64 r.boot, .slice B L.length d]
theorem ChkBox.make {wr w1 : World} {r : RC} {L : List ByteArray} {B : Option Addr} {d : Nat} (ht : Txt w1 w1.heap.size B L.length d L) (hb : Below wr.heap.size wr w1) (hf : ∀ ad, B = some ad → wr.heap.size ≤ ad.block) :
    ChkBox wr w1 (w1.alloc (.cells #[.int .u64 r.seq, .int .u64 r.real, .int .u64 r.mono, .int .u64 r.boot, .slice B L.length d] 36)) r L B d :=
  ⟨hb.alloc hb.size _, (ht.below (boxed w1 _)).more (boxed w1 _).size, hf, hb.size, Blk.new w1 _ _⟩

/-- The cells of a boxed record. -/
abbrev RcIn (w : World) (g : Nat) (s0 s1 s2 s3 : Int) (A : Option Addr) (n c : Nat) : Prop :=
  w.cell? ⟨g, 0, none⟩ = some (.int .u64 s0) ∧ w.cell? ⟨g, 1, none⟩ = some (.int .u64 s1) ∧ w.cell? ⟨g, 2, none⟩ = some (.int .u64 s2) ∧ w.cell? ⟨g, 3, none⟩ = some (.int .u64 s3) ∧ w.cell? ⟨g, 4, none⟩ = some (.slice A n c)
theorem rcIn_of {w : World} {g : Nat} {t : TypeId} {s0 s1 s2 s3 : Int} {A : Option Addr} {n c : Nat} (h : Blk w g t #[.int .u64 s0, .int .u64 s1, .int .u64 s2, .int .u64 s3, .slice A n c]) : RcIn w g s0 s1 s2 s3 A n c := ⟨h.cell 0, h.cell 1, h.cell 2, h.cell 3, h.cell 4⟩

end Go.Proofs.YtobbkhncnokpiaaGreat
