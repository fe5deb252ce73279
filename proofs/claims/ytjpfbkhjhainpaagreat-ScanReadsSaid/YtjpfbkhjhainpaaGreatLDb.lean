/-
  MERGED BY PROGRAM out of the texts DaVal DaTxt DaRef DaRef2 DaLaw DaState DaAwake.
-/
import Derived.Test.YtjpfbkhjhainpaaGreatLDa
import Derived.Test.YtjpfbkhjhainpaaGreatDaBase
import Derived.Test.YtjpfbkhjhainpaaGreatLIu
import Derived.RangeFuncBox
/-
  LAYER 15: WHAT Values OF PACKAGE data TELLS: the items of a field.
-/
set_option linter.unusedVariables false
set_option maxRecDepth 100000
set_option linter.unusedSimpArgs false
namespace Go.Proofs.YtjpfbkhjhainpaaGreat
open Go.RowKit Go.Shelf
attribute [local go_sem] Oper.semAt_some

/-- An iterator's two boxes. -/
structure VlAt (w : World) (g p : Nat) (s : ByteArray) : Prop where
  lo : g + 2 ≤ w.heap.size
  cm : w.cell? ⟨g, 0, none⟩ = some (.pointer (some ⟨p, 0, none⟩))
  cs : w.cell? ⟨g + 1, 0, none⟩ = some (.string s)
theorem VlAt.below {w w' : World} {g p : Nat} {s : ByteArray} (h : VlAt w g p s) (hb : Below w.heap.size w w') : VlAt w' g p s :=
  ⟨Nat.le_trans h.lo hb.size, (hb.cell (p := ⟨g, 0, none⟩) (by have := h.lo; show g < _; omega)).trans h.cm, (hb.cell (p := ⟨g + 1, 0, none⟩) (by have := h.lo; show g + 1 < _; omega)).trans h.cs⟩
section
variable {base p : Nat} {S : Nat → Prop} {i k d f h : Int} {m : IM} {bv sv : Value} {l : List GO}

end

end Go.Proofs.YtjpfbkhjhainpaaGreat

/-
  A ROW OF TEXTS THAT A CALL MAKES: layer 4's Put has the words (ItemPut); layer 15's own are in XDaTxtO.
-/
set_option linter.unusedVariables false
namespace Go.Proofs.YtjpfbkhjhainpaaGreat
end Go.Proofs.YtjpfbkhjhainpaaGreat

/-
  LAYER 15: the document's rows of items in memory; its Find, Values, Intern: contracts.
-/
set_option linter.unusedVariables false
set_option maxRecDepth 100000
set_option linter.unusedSimpArgs false
namespace Go.Proofs.YtjpfbkhjhainpaaGreat
open Go.RowKit Go.Shelf

theorem nums_inj {a b : ByteArray} (h : nums a = nums b) : a = b := by rw [← str_nums a, ← str_nums b, h]
/-- A row, as it lies in memory: its item, its place, the slice of its entries. -/
structure XR where
  item : ByteArray
  at_ : Int
  v : Value
def cellsX : List XR → List Value
  | [] => []
  | r :: l => .string r.item :: .int .i64 r.at_ :: r.v :: cellsX l
theorem cellsX_at : ∀ (l : List XR) (i : Nat) (r : XR), l[i]? = some r → (cellsX l)[i * 3]? = some (.string r.item) ∧ (cellsX l)[i * 3 + 1]? = some (.int .i64 r.at_) ∧ (cellsX l)[i * 3 + 2]? = some r.v
  | [], i, r, h => by simp at h
  | a :: l, 0, r, h => by simp at h; subst h; exact ⟨rfl, rfl, rfl⟩
  | a :: l, i + 1, r, h => by
    have h' : l[i]? = some r := by simpa using h
    obtain ⟨h1, h2, h3⟩ := cellsX_at l i r h'
    have e : ∀ k, (cellsX (a :: l))[(i + 1) * 3 + k]? = (cellsX l)[i * 3 + k]? := fun k => by
      have : (i + 1) * 3 + k = i * 3 + k + 1 + 1 + 1 := by omega
      rw [this]; simp [cellsX]
    exact ⟨(e 0).trans h1, (e 1).trans h2, (e 2).trans h3⟩

/-- A slice that reads as rows. -/
structure RowsX (w : World) (B : Nat) (A : Option Addr) (n c : Nat) (l : List XR) : Prop where
  reads : Reads w B 3 A n (cellsX l)
  len : l.length = n
  fine : ∀ r ∈ l, r.item.size ≤ 100000
  most : n ≤ 900
  le : n ≤ c
  cap : c ≤ maxLen
theorem RowsX.at_ {w : World} {B n c : Nat} {A : Option Addr} {l : List XR} (h : RowsX w B A n c l) {i : Nat} (hi : i < n) :
    ∃ b off r, A = some ⟨b, off, none⟩ ∧ b < B ∧ l[i]? = some r ∧ w.cell? ⟨b, off + i * 3, none⟩ = some (.string r.item) ∧ w.cell? ⟨b, off + i * 3 + 1, none⟩ = some (.int .i64 r.at_) ∧ w.cell? ⟨b, off + i * 3 + 2, none⟩ = some r.v := by
  have hl : i < l.length := by rw [h.len]; exact hi
  obtain ⟨h1, h2, h3⟩ := cellsX_at l i l[i] (List.getElem?_eq_getElem hl)
  obtain ⟨b, off, e, hb, hc⟩ := h.reads.at2 (by omega) (by omega)
  exact ⟨b, off, l[i], e, hb, List.getElem?_eq_getElem hl, hc _ _ h1, by have := hc _ _ h2; rwa [← Nat.add_assoc] at this, by have := hc _ _ h3; rwa [← Nat.add_assoc] at this⟩
theorem RowsX.below {w w' : World} {B n c : Nat} {A : Option Addr} {l : List XR} (h : RowsX w B A n c l) (hb : Below B w w') : RowsX w' B A n c l := ⟨h.reads.below hb, h.len, h.fine, h.most, h.le, h.cap⟩

/-- Where an item is; below 0: it isn't there. -/
def idxX (l : List XR) (s : ByteArray) : Int := match l.findIdx? (fun r => decide (r.item = s)) with
  | none => -1
  | some i => (i : Int)
theorem idxX_none {l : List XR} {s : ByteArray} (h : ∀ r ∈ l, r.item ≠ s) : idxX l s = -1 := by
  unfold idxX
  rw [List.findIdx?_eq_none_iff.2 (fun r hr => decide_eq_false (h r hr))]
theorem idxX_at {l : List XR} {s : ByteArray} {i : Nat} {r : XR} (h : ∀ q ∈ l.take i, q.item ≠ s) (hi : l[i]? = some r) (h1 : r.item = s) : idxX l s = i := by
  obtain ⟨hl, e⟩ := List.getElem?_eq_some_iff.1 hi
  have e2 : l.findIdx? (fun r => decide (r.item = s)) = some i := by
    rw [List.findIdx?_eq_some_iff_getElem]
    refine ⟨hl, by rw [e]; exact decide_eq_true h1, fun j hj => ?_⟩
    have := h (l[j]'(by omega)) (by rw [List.mem_take_iff_getElem]; exact ⟨j, by omega, rfl⟩)
    simpa using this
  unfold idxX
  rw [e2]
end Go.Proofs.YtjpfbkhjhainpaaGreat

/-
  LAYER 15: a row of the document's rows that a call owns; its Intern: a contract.
-/
set_option linter.unusedVariables false
set_option maxRecDepth 100000
set_option linter.unusedSimpArgs false
namespace Go.Proofs.YtjpfbkhjhainpaaGreat
open Go.RowKit Go.Shelf

/-- The rows behind Intern. -/
def insX (l : List XR) (s : ByteArray) (at_ : Int) : List XR := if 0 ≤ idxX l s then l else l ++ [⟨s, at_, .slice none 0 0⟩]
end Go.Proofs.YtjpfbkhjhainpaaGreat

/-
  LAYER 15: what the statements share: a fresh image; the items of a field, collected.
-/
set_option linter.unusedVariables false
set_option maxRecDepth 100000
set_option linter.unusedSimpArgs false
namespace Go.Proofs.YtjpfbkhjhainpaaGreat
open Go.RowKit Go.Shelf
attribute [local go_sem] Oper.semAt_some

theorem nz_newB1 {k d f : Int} {j : Nat} (hj : 64 ≤ j) : nz (newB 0 k d f 0) j = 0 := by
  unfold newB
  rw [nz_append, encH_length, if_neg (by omega)]
  exact nz_of_all (fun z hz => (List.mem_replicate.1 hz).2) _

section
variable {base p : Nat} {S : Nat → Prop} {i k d f h : Int} {m : IM} {bv sv : Value} {l : List GO}

end

end Go.Proofs.YtjpfbkhjhainpaaGreat

/-
  LAYER 15: a file of data as a statement holds it: Intern, Find and the items of a field; the rows beside it.
-/
set_option linter.unusedVariables false
set_option maxRecDepth 100000
set_option linter.unusedSimpArgs false
namespace Go.Proofs.YtjpfbkhjhainpaaGreat
open Go.RowKit Go.Shelf

/-- The rows behind Intern. -/
def insD (R : List DR) (zs : List Int) (a : Nat) : List DR := match findD R zs with
  | some _ => R
  | none => R ++ [⟨zs, a, []⟩]
theorem findD_ins {R : List DR} {zs : List Int} {a : Nat} (h : findD R zs = none) : findD (R ++ [⟨zs, a, []⟩]) zs = some a := by
  unfold findD at h ⊢
  rw [Option.map_eq_none_iff] at h
  rw [List.find?_append, h]
  simp
section
variable {w : World} {base : Nat} {S : Nat → Prop} {p lim : Nat} {k d f : Int} {R : List DR} {tl cnt : Nat} {l : List GO} {b : List Int}

end

/-! ### the rows beside it -/
/-- The document's rows are those of the file. -/
def Like (R : List DR) (l : List XR) : Prop := R.map (fun r => (r.item, (r.at_ : Int))) = l.map (fun r => (nums r.item, r.at_))
theorem Like.len {R : List DR} {l : List XR} (h : Like R l) : R.length = l.length := by have := congrArg List.length h; simpa using this
theorem Like.cons {R : List DR} {l : List XR} {r : DR} {x : XR} (h : Like (r :: R) (x :: l)) : r.item = nums x.item ∧ (r.at_ : Int) = x.at_ ∧ Like R l := by
  unfold Like at h
  rw [List.map_cons, List.map_cons] at h
  injection h with h1 h2
  injection h1 with h3 h4
  exact ⟨h3, h4, h2⟩
theorem Like.find (s : ByteArray) : ∀ {R : List DR} {l : List XR}, Like R l → (findD R (nums s) = none ∧ ∀ r ∈ l, r.item ≠ s) ∨ ∃ (a i : Nat) (r : XR), findD R (nums s) = some a ∧ l[i]? = some r ∧ r.item = s ∧ r.at_ = (a : Int) ∧ ∀ q ∈ l.take i, q.item ≠ s
  | [], [], _ => .inl ⟨rfl, fun r hr => by cases hr⟩
  | [], x :: l, h => by have := h.len; simp at this
  | r :: R, [], h => by have := h.len; simp at this
  | r :: R, x :: l, h => by
    obtain ⟨h1, h2, h3⟩ := h.cons
    by_cases e : x.item = s
    · have e1 : (r.item == nums s) = true := by rw [h1, e]; simp
      refine .inr ⟨r.at_, 0, x, ?_, rfl, e, h2.symm, by simp⟩
      unfold findD
      rw [List.find?_cons_of_pos (p := fun r : DR => r.item == nums s) e1]; rfl
    · have e1 : ¬ (r.item == nums s) = true := by
        rw [h1]
        intro h9
        exact e (nums_inj (by simpa using h9))
      have e2 : findD (r :: R) (nums s) = findD R (nums s) := by unfold findD; rw [List.find?_cons_of_neg (p := fun r : DR => r.item == nums s) e1]
      rcases Like.find s h3 with ⟨g1, g2⟩ | ⟨a, i, y, g1, g2, g3, g4, g5⟩
      · refine .inl ⟨e2.trans g1, fun q hq => ?_⟩
        rcases List.mem_cons.1 hq with rfl | hq
        · exact e
        · exact g2 q hq
      · refine .inr ⟨a, i + 1, y, e2.trans g1, by simpa using g2, g3, g4, fun q hq => ?_⟩
        rw [List.take_succ_cons] at hq
        rcases List.mem_cons.1 hq with rfl | hq
        · exact e
        · exact g5 q hq
theorem Like.isSome {R : List DR} {l : List XR} (h : Like R l) (s : ByteArray) : decide (0 ≤ idxX l s) = (findD R (nums s)).isSome := by
  rcases h.find s with ⟨g1, g2⟩ | ⟨a, i, y, g1, g2, g3, g4, g5⟩
  · rw [g1, idxX_none g2]; rfl
  · rw [g1, idxX_at g5 g2 g3]
    exact decide_eq_true (by omega)
theorem Like.ins {R : List DR} {l : List XR} (h : Like R l) (s : ByteArray) (a : Nat) : Like (insD R (nums s) a) (insX l s (a : Int)) := by
  rcases h.find s with ⟨g1, g2⟩ | ⟨b, i, y, g1, g2, g3, g4, g5⟩
  · unfold insD insX
    rw [g1, idxX_none g2]
    show Like (R ++ [_]) (if (0 : Int) ≤ -1 then l else l ++ [_])
    rw [if_neg (by omega)]
    unfold Like at h ⊢
    rw [List.map_append, List.map_append, h]; rfl
  · unfold insD insX
    rw [g1, idxX_at g5 g2 g3, if_pos (by omega)]
    exact h
/-- The row of an item that is there. -/
theorem Like.at_ {R : List DR} {l : List XR} (h : Like R l) {s : ByteArray} {a : Nat} (ha : findD R (nums s) = some a) : ∃ (i : Nat) (r : XR), idxX l s = (i : Nat) ∧ l[i]? = some r ∧ r.item = s ∧ r.at_ = (a : Int) := by
  rcases h.find s with ⟨g1, g2⟩ | ⟨b, i, y, g1, g2, g3, g4, g5⟩
  · rw [ha] at g1; cases g1
  · rw [ha] at g1; injection g1 with g1; subst g1
    exact ⟨i, y, idxX_at g5 g2 g3, g2, g3, g4⟩

end Go.Proofs.YtjpfbkhjhainpaaGreat

/-
  LAYER 15: the example that the statements share.
-/
set_option linter.unusedVariables false
set_option maxRecDepth 100000
set_option linter.unusedSimpArgs false
namespace Go.Proofs.YtjpfbkhjhainpaaGreat
open Go.RowKit Go.Shelf

section
variable {H : Type} {enc : TypeId × Value → H} {w : World}
end

def sA1 : ByteArray := ⟨#[65, 61, 49]⟩
def sB2 : ByteArray := ⟨#[66, 61, 50]⟩
def sA3 : ByteArray := ⟨#[65, 61, 51]⟩
theorem findD_none {R : List DR} {z : List Int} (h : z ∉ R.map (·.item)) : findD R z = none := by
  unfold findD
  rw [List.find?_eq_none.2 (fun r hr h2 => h (List.mem_map.2 ⟨r, hr, by simpa using h2⟩))]
  rfl
theorem insD_items {R : List DR} {z : List Int} {a : Nat} (h : z ∉ R.map (·.item)) : (insD R z a).map (·.item) = R.map (·.item) ++ [z] := by
  unfold insD
  rw [findD_none h, List.map_append]; rfl
/-- At the head of each round. -/
structure AwAt (w wr : World) (S : Nat → Prop) (p b : Nat) (R : List DR) (j : Nat) : Prop where
  ds : DS fldI 3 4 2 wr w.heap.size S p 5000 R (304 + 1200 * j) (3 * j)
  nb : ∀ q, S q → q ≠ b
  below : Below w.heap.size w wr
  blk : Blk wr b 9 #[.string sA1, .string sB2, .string sA3]
  low : w.heap.size ≤ b
  items : R.map (·.item) = ([nums sA1, nums sB2, nums sA3] : List (List Int)).take j
theorem AwAt.next {w wr w2 : World} {S : Nat → Prop} {p b j a : Nat} {R : List DR} {s : ByteArray} (H : AwAt w wr S p b R j) (hs : nums s ∉ R.map (·.item)) (hn : ([nums sA1, nums sB2, nums sA3] : List (List Int)).take (j + 1) = ([nums sA1, nums sB2, nums sA3] : List (List Int)).take j ++ [nums s])
    (hc : Chg S wr w2) (hd : DS fldI 3 4 2 w2 w.heap.size (grow S wr w2) p 5000 (insD R (nums s) a) (304 + 1200 * j + 1200) (3 * j + 3)) : AwAt w w2 (grow S wr w2) p b (insD R (nums s) a) (j + 1) where
  ds := hd
  nb := fun q hq => hq.elim (H.nb q) (fun e => by have := H.blk.lt; omega)
  below := H.below.trans (hc.below H.below.size (fun q _ hq => (H.ds.foot q hq).1))
  blk := H.blk.chg hc (fun e => H.nb b e rfl)
  low := H.low
  items := by rw [insD_items hs, H.items, hn]

end Go.Proofs.YtjpfbkhjhainpaaGreat
