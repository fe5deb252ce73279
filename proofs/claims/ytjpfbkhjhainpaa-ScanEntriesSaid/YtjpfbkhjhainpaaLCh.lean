/-
  MERGED BY PROGRAM out of the texts ChFn ChRows ChAll.
-/
import Derived.Test.YtjpfbkhjhainpaaLRf
import Derived.Test.YtjpfbkhjhainpaaLCm
/-
  LAYER 14: WHAT Size, Arrays, slices.Index, rows AND All OF PACKAGE chain DO AT FIRST: contracts.
-/
set_option linter.unusedVariables false
set_option maxRecDepth 100000
set_option linter.unusedSimpArgs false
namespace Go.Proofs.Ytjpfbkhjhainpaa
open Go.RowKit Go.Shelf
attribute [local go_sem] Oper.semAt_some

/-- Size, as the document says: of n below 0, too. -/
def sizeI (n : Int) : Int := if n < 0 then 0 else (sizeC n.toNat : Nat)
theorem sizeC_ge {n : Nat} (h : 8 ≤ n) : sizeC n = 1024 := sizeC_big (n := 8) (by decide) h
/-- An iterator's two boxes. -/
structure RwAt (w : World) (g p : Nat) (root : Int) : Prop where
  lo : g + 2 ≤ w.heap.size
  cm : w.cell? ⟨g, 0, none⟩ = some (.pointer (some ⟨p, 0, none⟩))
  cr : w.cell? ⟨g + 1, 0, none⟩ = some (.int .i64 root)
abbrev rwB (g : Nat) : Array Value := #[.pointer (some ⟨g, 0, none⟩), .pointer (some ⟨g + 1, 0, none⟩)]
theorem RwAt.below {w w' : World} {g p : Nat} {root : Int} (h : RwAt w g p root) (hb : Below w.heap.size w w') : RwAt w' g p root :=
  ⟨Nat.le_trans h.lo hb.size, (hb.cell (p := ⟨g, 0, none⟩) (by have := h.lo; show g < _; omega)).trans h.cm, (hb.cell (p := ⟨g + 1, 0, none⟩) (by have := h.lo; show g + 1 < _; omega)).trans h.cr⟩
end Go.Proofs.Ytjpfbkhjhainpaa

/-
  LAYER 14: WHAT rows' ITERATOR TELLS: the arrays of a list, and of the one with a 0 what is ahead of it.
-/
set_option linter.unusedVariables false
set_option maxRecDepth 100000
set_option linter.unusedSimpArgs false
namespace Go.Proofs.Ytjpfbkhjhainpaa
open Go.RowKit Go.Shelf
attribute [local go_sem] Oper.semAt_some

/-- A row that is told. -/
structure Rw where
  A : Option Addr
  n : Nat
  c : Nat
  zs : List Int
def Rw.v (x : Rw) : Value := .slice x.A x.n x.c
def Rw.encs (x : Rw) : Array Value := #[x.v]
structure Rw.Lies (x : Rw) (W : World) : Prop where
  rd : Reads W W.heap.size 1 x.A x.n (cellsOf .u64 x.zs)
  cap : x.n ≤ x.c ∧ x.c ≤ 9223372036854775807
def Rw.free (x : Rw) (fp : Nat → Prop) : Prop := ∀ ad, x.A = some ad → ¬ fp ad.block
def TellsR (rs : List (List Int)) (fp : Nat → Prop) (pre : List Rw) (x : Rw) (W : World) : Prop := (∃ rest, pre.map (·.zs) ++ x.zs :: rest = rs) ∧ x.Lies W ∧ x.free fp
theorem Rw.Lies.upto {x : Rw} {W : World} {B : Nat} (h : Reads W B 1 x.A x.n (cellsOf .u64 x.zs)) (hB : B ≤ W.heap.size) (hc : x.n ≤ x.c ∧ x.c ≤ 9223372036854775807) : x.Lies W := ⟨h.upto hB, hc⟩
theorem Rw.Lies.below {x : Rw} {W W' : World} (h : x.Lies W) (hb : Below W.heap.size W W') : x.Lies W' := ⟨(h.rd.below hb).upto hb.size, h.cap⟩
theorem tellsR_own (rs : List (List Int)) (B : Nat) (fp : Nat → Prop) (pre : List Rw) (x : Rw) : OwnFrom B (fun (_ : Unit) W => TellsR rs fp pre x W) :=
  fun _ W W' row hs hg hr => ⟨hs.1, ⟨(hs.2.1.rd.grownF hg (fun r e => (hr r e).2)).upto hg.size, hs.2.1.cap⟩, hs.2.2⟩

/-- An array's row, whole, and up to its first 0. -/
def rwOf (x : Ob) : Rw := ⟨x.C, x.p, x.q, x.t.is⟩
def rwCut (x : Ob) : Rw := ⟨x.C, (placesA x.t.is).length, x.q, placesA x.t.is⟩
theorem rwOf_lies {x : Ob} {W : World} (h : x.lies W) : (rwOf x).Lies W := ⟨h.ir, h.ic⟩
theorem cellsOf_take (k : IntKind) (zs : List Int) (n : Nat) : cellsOf k (zs.take n) = (cellsOf k zs).take n := by simp [cellsOf, List.map_take]
theorem yield_bool {P Q : Prop} {e : Ending} (h : (e = .returned (.bool true) ∧ P) ∨ (e = .returned (.bool false) ∧ Q)) : ∃ b, e = .returned (.bool b) ∧ (P ∨ Q) := by
  rcases h with ⟨h1, h2⟩ | ⟨h1, h2⟩
  · exact ⟨true, h1, .inl h2⟩
  · exact ⟨false, h1, .inr h2⟩
theorem Reads.take {w : World} {B n q : Nat} {A : Option Addr} {xs : List Value} (h : Reads w B 1 A n xs) (hq : q ≤ n) : Reads w B 1 A q (xs.take q) := by
  refine ⟨by rw [List.length_take, h.1]; omega, fun h0 => ?_⟩
  obtain ⟨ad, e, hb, hc⟩ := h.2 (by omega)
  refine ⟨ad, e, hb, fun k u hu => ?_⟩
  rw [List.getElem?_take] at hu
  split at hu
  · exact hc k u hu
  · cases hu
/-- How an iterator has ended. -/
def SeqEnd {α : Type} (S Sp : List α → Prop) (J : (Nat → Prop) → List α → World → Prop) (Jx : List α → World → Prop) (W : World) : Prop := (∃ xs fp', S xs ∧ J fp' xs W) ∨ (∃ pre, Sp pre ∧ Jx pre W)
theorem seqEnd_own {α : Type} {S Sp : List α → Prop} {J : (Nat → Prop) → List α → World → Prop} {Jx : List α → World → Prop} {B C : Nat} (hJ : ∀ fp, OwnFrom B (J fp)) (hJx : OwnFrom B Jx) (hC : B ≤ C) : OwnFrom C (fun (_ : Unit) W => SeqEnd S Sp J Jx W) := by
  rintro _ A D row hs hg hr
  have hr' : ∀ r, row = some r → B ≤ r ∧ ∃ o : Obj, A.heap[r]? = some o ∧ o.isCells = false := fun r e => ⟨Nat.le_trans hC (hr r e).1, (hr r e).2⟩
  rcases hs with ⟨xs, fp', h1, h2⟩ | ⟨pre', h1, h2⟩
  · exact .inl ⟨xs, fp', h1, hJ fp' _ A D row h2 hg hr'⟩
  · exact .inr ⟨pre', h1, hJx _ A D row h2 hg hr'⟩
theorem YieldAt.deep {m : Nat} (m' l' : Nat) {P : Program} {l : Nat} {args : Array Value} {W : World} {R : Ending → World → Prop} (h : YieldAt Fence.wide m P l args W R) : YieldAt (Fence.wide.inRound l') m' P l args W R := by
  obtain ⟨fn, tmps, assign, body, hy, hR⟩ := h
  exact ⟨fn, tmps, assign, body, hy, hR.1, fun c cs _ => hR.2 c cs (fun d h => by cases h)⟩

section
variable {base p : Nat} {S : Nat → Prop} {i k d f h : Int} {m : IM} {bv sv : Value}

end

end Go.Proofs.Ytjpfbkhjhainpaa

/-
  LAYER 14: WHAT All's ITERATOR TELLS: the places of a list.
-/
set_option linter.unusedVariables false
set_option maxRecDepth 100000
set_option linter.unusedSimpArgs false
namespace Go.Proofs.Ytjpfbkhjhainpaa
open Go.RowKit Go.Shelf
attribute [local go_sem] Oper.semAt_some

/-- A place that is told. -/
def placeE (x : Int) : Array Value := #[.int .u64 x]
def TellsP (L : List Int) (fp : Nat → Prop) (pre : List Int) (x : Int) (W : World) : Prop := ∃ rest, pre ++ x :: rest = L
def IsL (L : List Int) (xs : List Int) : Prop := xs = L
def PreL (L : List Int) (pre : List Int) : Prop := ∃ rest, pre ++ rest = L
def flatR (pre : List Rw) : List Int := (pre.map (·.zs)).flatten
theorem flatR_snoc (pre : List Rw) (x : Rw) : flatR (pre ++ [x]) = flatR pre ++ x.zs := by simp [flatR]
theorem tellsP_own (L : List Int) (B : Nat) (fp : Nat → Prop) (pre : List Int) (x : Int) : OwnFrom B (fun (_ : Unit) W => TellsP L fp pre x W) := fun _ W W' row hs hg hr => hs

section
variable {base p : Nat} {S : Nat → Prop} {i k d f h : Int} {m : IM} {bv sv : Value}

end

end Go.Proofs.Ytjpfbkhjhainpaa
