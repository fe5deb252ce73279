/-
  MERGED BY PROGRAM out of the texts DaVal DaTxt DaRef DaRef2 DaLaw DaState DaAwake.
-/
import Derived.Test.YtjpfbkhjhainpaaLDa
import Derived.Test.YtjpfbkhjhainpaaDaBase
import Derived.Test.YtjpfbkhjhainpaaLIu
import Derived.RangeFuncBox
/-
  LAYER 15: WHAT Values OF PACKAGE data TELLS: the items of a field.
-/
set_option linter.unusedVariables false
set_option maxRecDepth 100000
set_option linter.unusedSimpArgs false
namespace Go.Proofs.Ytjpfbkhjhainpaa
open Go.RowKit Go.Shelf
attribute [local go_sem] Oper.semAt_some

/-- An iterator's two boxes. -/
structure VlAt (w : World) (g p : Nat) (s : ByteArray) : Prop where
  lo : g + 2 ≤ w.heap.size
  cm : w.cell? ⟨g, 0, none⟩ = some (.pointer (some ⟨p, 0, none⟩))
  cs : w.cell? ⟨g + 1, 0, none⟩ = some (.string s)
abbrev vlB (g : Nat) : Array Value := #[.pointer (some ⟨g, 0, none⟩), .pointer (some ⟨g + 1, 0, none⟩)]
theorem VlAt.below {w w' : World} {g p : Nat} {s : ByteArray} (h : VlAt w g p s) (hb : Below w.heap.size w w') : VlAt w' g p s :=
  ⟨Nat.le_trans h.lo hb.size, (hb.cell (p := ⟨g, 0, none⟩) (by have := h.lo; show g < _; omega)).trans h.cm, (hb.cell (p := ⟨g + 1, 0, none⟩) (by have := h.lo; show g + 1 < _; omega)).trans h.cs⟩
/-- An item that is told. -/
def itE (x : Nat × List Int) : Array Value := #[.int .i64 x.1, .string (strOfNums x.2)]
def TellsV (L : List (Nat × List Int)) (fp : Nat → Prop) (pre : List (Nat × List Int)) (x : Nat × List Int) (W : World) : Prop := ∃ rest, pre ++ x :: rest = L
def IsV (L xs : List (Nat × List Int)) : Prop := xs = L
def PreV (L pre : List (Nat × List Int)) : Prop := ∃ rest, pre ++ rest = L
theorem tellsV_own (L : List (Nat × List Int)) (B : Nat) (fp : Nat → Prop) (pre : List (Nat × List Int)) (x : Nat × List Int) : OwnFrom B (fun (_ : Unit) W => TellsV L fp pre x W) := fun _ W W' row hs hg hr => hs
/-- The items of a field. -/
def valsG (l : List GO) (fs : List Int) : List (Nat × List Int) := (l.filter (pFld fldI fs 0)).map (fun o => (o.at_, o.raw))
def obI (x : Ob) : Nat × List Int := (x.t.j, x.t.rs)

section
variable {base p : Nat} {S : Nat → Prop} {i k d f h : Int} {m : IM} {bv sv : Value} {l : List GO}

theorem DB.noField (D : DB fldI k d f 0 0 m.b l) {fs : List Int} (h : findG l 2 fs = none) : valsG l fs = [] := by
  unfold valsG
  have e : l.filter (pFld fldI fs 0) = [] := by
    refine List.filter_eq_nil_iff.2 fun r hr hp => ?_
    obtain ⟨⟨h1, h2⟩, h3⟩ := pFld_iff.1 hp
    obtain ⟨fo, hf, hfk, hfr⟩ := D.own r hr h1 h3
    exact findG_none h fo hf hfk (hfr.trans h2)
  rw [e]; rfl

end

end Go.Proofs.Ytjpfbkhjhainpaa

/-
  A ROW OF TEXTS THAT A CALL MAKES: layer 4's Put has the words (ItemPut); layer 15's own are in XDaTxtO.
-/
set_option linter.unusedVariables false
namespace Go.Proofs.Ytjpfbkhjhainpaa
end Go.Proofs.Ytjpfbkhjhainpaa

/-
  LAYER 15: the document's rows of items in memory; its Find, Values, Intern: contracts.
-/
set_option linter.unusedVariables false
set_option maxRecDepth 100000
set_option linter.unusedSimpArgs false
namespace Go.Proofs.Ytjpfbkhjhainpaa
open Go.RowKit Go.Shelf

theorem nums_inj {a b : ByteArray} (h : nums a = nums b) : a = b := by rw [← str_nums a, ← str_nums b, h]
theorem beq_txt (a b : ByteArray) : (a.toList == b.toList) = decide (a = b) := by
  rw [beq_nums, decide_eq_decide]
  exact ⟨nums_inj, fun h => by rw [h]⟩

/-- A row, as it lies in memory: its item, its place, the slice of its entries. -/
structure XR where
  item : ByteArray
  at_ : Int
  v : Value
def cellsX : List XR → List Value
  | [] => []
  | r :: l => .string r.item :: .int .i64 r.at_ :: r.v :: cellsX l
theorem cellsX_length : ∀ l : List XR, (cellsX l).length = l.length * 3
  | [] => rfl
  | r :: l => by simp only [cellsX, List.length_cons, cellsX_length l]; omega
theorem cellsX_append : ∀ (l m : List XR), cellsX (l ++ m) = cellsX l ++ cellsX m
  | [], _ => rfl
  | r :: l, m => by simp only [cellsX, List.cons_append, cellsX_append l m]
theorem cellsX_at : ∀ (l : List XR) (i : Nat) (r : XR), l[i]? = some r → (cellsX l)[i * 3]? = some (.string r.item) ∧ (cellsX l)[i * 3 + 1]? = some (.int .i64 r.at_) ∧ (cellsX l)[i * 3 + 2]? = some r.v
  | [], i, r, h => by simp at h
  | a :: l, 0, r, h => by simp at h; subst h; exact ⟨rfl, rfl, rfl⟩
  | a :: l, i + 1, r, h => by
    have h' : l[i]? = some r := by simpa using h
    obtain ⟨h1, h2, h3⟩ := cellsX_at l i r h'
    have e : ∀ k, (cellsX (a :: l))[(i + 1) * 3 + k]? = (cellsX l)[i * 3 + k]? := fun k => by
      have : (i + 1) * 3 + k = i * 3 + k + 1 + 1 + 1 := by omega
      rw [this]; simp [cellsX]
    exact ⟨(e 0).trans h1, (e 1).trans h2, (e 2).trans h3⟩

/-- A slice that reads as rows. -/
structure RowsX (w : World) (B : Nat) (A : Option Addr) (n c : Nat) (l : List XR) : Prop where
  reads : Reads w B 3 A n (cellsX l)
  len : l.length = n
  fine : ∀ r ∈ l, r.item.size ≤ 100000
  most : n ≤ 900
  le : n ≤ c
  cap : c ≤ maxLen
theorem RowsX.at_ {w : World} {B n c : Nat} {A : Option Addr} {l : List XR} (h : RowsX w B A n c l) {i : Nat} (hi : i < n) :
    ∃ b off r, A = some ⟨b, off, none⟩ ∧ b < B ∧ l[i]? = some r ∧ w.cell? ⟨b, off + i * 3, none⟩ = some (.string r.item) ∧ w.cell? ⟨b, off + i * 3 + 1, none⟩ = some (.int .i64 r.at_) ∧ w.cell? ⟨b, off + i * 3 + 2, none⟩ = some r.v := by
  have hl : i < l.length := by rw [h.len]; exact hi
  obtain ⟨h1, h2, h3⟩ := cellsX_at l i l[i] (List.getElem?_eq_getElem hl)
  obtain ⟨b, off, e, hb, hc⟩ := h.reads.at2 (by omega) (by omega)
  exact ⟨b, off, l[i], e, hb, List.getElem?_eq_getElem hl, hc _ _ h1, by have := hc _ _ h2; rwa [← Nat.add_assoc] at this, by have := hc _ _ h3; rwa [← Nat.add_assoc] at this⟩
theorem RowsX.below {w w' : World} {B n c : Nat} {A : Option Addr} {l : List XR} (h : RowsX w B A n c l) (hb : Below B w w') : RowsX w' B A n c l := ⟨h.reads.below hb, h.len, h.fine, h.most, h.le, h.cap⟩

/-- Where an item is; below 0: it isn't there. -/
def idxX (l : List XR) (s : ByteArray) : Int := match l.findIdx? (fun r => decide (r.item = s)) with
  | none => -1
  | some i => (i : Int)
theorem idxX_none {l : List XR} {s : ByteArray} (h : ∀ r ∈ l, r.item ≠ s) : idxX l s = -1 := by
  unfold idxX
  rw [List.findIdx?_eq_none_iff.2 (fun r hr => decide_eq_false (h r hr))]
theorem idxX_at {l : List XR} {s : ByteArray} {i : Nat} {r : XR} (h : ∀ q ∈ l.take i, q.item ≠ s) (hi : l[i]? = some r) (h1 : r.item = s) : idxX l s = i := by
  obtain ⟨hl, e⟩ := List.getElem?_eq_some_iff.1 hi
  have e2 : l.findIdx? (fun r => decide (r.item = s)) = some i := by
    rw [List.findIdx?_eq_some_iff_getElem]
    refine ⟨hl, by rw [e]; exact decide_eq_true h1, fun j hj => ?_⟩
    have := h (l[j]'(by omega)) (by rw [List.mem_take_iff_getElem]; exact ⟨j, by omega, rfl⟩)
    simpa using this
  unfold idxX
  rw [e2]
theorem idxX_some {l : List XR} {s : ByteArray} (h : ¬ idxX l s = -1) : ∃ i r, idxX l s = (i : Nat) ∧ l[i]? = some r ∧ r.item = s := by
  unfold idxX at h ⊢
  cases hc : l.findIdx? (fun r => decide (r.item = s)) with
  | none => rw [hc] at h; exact absurd rfl h
  | some i =>
    obtain ⟨h1, h2, -⟩ := List.findIdx?_eq_some_iff_getElem.1 hc
    exact ⟨i, _, rfl, List.getElem?_eq_getElem h1, of_decide_eq_true h2⟩

/-- The items of a field. -/
def valsX (l : List XR) (f : ByteArray) : List ByteArray := (l.filter (fun r => decide (spF r.item = f))).map (·.item)
theorem valsX_snoc (l : List XR) (f : ByteArray) (r : XR) : valsX (l ++ [r]) f = if spF r.item = f then valsX l f ++ [r.item] else valsX l f := by
  unfold valsX
  rw [List.filter_append]
  by_cases h : spF r.item = f
  · rw [if_pos h]; simp [h]
  · rw [if_neg h]; simp [h]
theorem valsX_len (l : List XR) (f : ByteArray) : (valsX l f).length ≤ l.length := by
  unfold valsX
  rw [List.length_map]
  exact List.length_filter_le _ _

end Go.Proofs.Ytjpfbkhjhainpaa

/-
  LAYER 15: a row of the document's rows that a call owns; its Intern: a contract.
-/
set_option linter.unusedVariables false
set_option maxRecDepth 100000
set_option linter.unusedSimpArgs false
namespace Go.Proofs.Ytjpfbkhjhainpaa
open Go.RowKit Go.Shelf

theorem rowNew3 (w : World) (t : TypeId) (a b c : Value) : Reads (w.alloc (.cells #[a, b, c] t)) (w.heap.size + 1) 3 (some ⟨w.heap.size, 0, none⟩) 1 [a, b, c] := by
  refine ⟨rfl, fun _ => ⟨_, rfl, Nat.lt_succ_self _, fun j v hj => ?_⟩⟩
  have h := (Blk.new w t #[a, b, c]).cell j
  have e : (⟨w.heap.size, 0, none⟩ : Addr).add j = ⟨w.heap.size, j, none⟩ := by unfold Addr.add; split <;> simp_all
  rw [e, h]
  simpa using hj
theorem rowOne3 (s : ByteArray) (c : Int) : ∀ u ∈ [Value.string s, .int .i64 c, .slice none 0 0], u.oneCell' = true := fun u hu => by
  simp at hu
  rcases hu with rfl | rfl | rfl <;> rfl
theorem grown_chg1 {w w1 : World} {o : Obj} {r : Option Nat} (h : (w.alloc o).grownBy w1 r) : Chg (fun k => r = some k) w w1 := by
  have hs := h.size
  rw [World.size_alloc] at hs
  exact ⟨h.os, h.tape, h.output, by omega, fun k hk hn => (h.block k (by rw [World.size_alloc]; omega) (fun e => hn e.symm)).trans (Below.heap_alloc _ _ _ hk)⟩
theorem sx1 {m : Nat} (h : m ≤ 899) : m + 1 ≤ maxLen := by unfold maxLen; omega
theorem sx2 {m : Nat} (h : m ≤ 899) : (m + 1) * 48 ≤ 140737488355328 := by omega

/-- The rows behind Intern. -/
def insX (l : List XR) (s : ByteArray) (at_ : Int) : List XR := if 0 ≤ idxX l s then l else l ++ [⟨s, at_, .slice none 0 0⟩]
end Go.Proofs.Ytjpfbkhjhainpaa

/-
  LAYER 15: what the statements share: a fresh image; the items of a field, collected.
-/
set_option linter.unusedVariables false
set_option maxRecDepth 100000
set_option linter.unusedSimpArgs false
namespace Go.Proofs.Ytjpfbkhjhainpaa
open Go.RowKit Go.Shelf
attribute [local go_sem] Oper.semAt_some

theorem nz_newB1 {k d f : Int} {j : Nat} (hj : 64 ≤ j) : nz (newB 0 k d f 0) j = 0 := by
  unfold newB
  rw [nz_append, encH_length, if_neg (by omega)]
  exact nz_of_all (fun z hz => (List.mem_replicate.1 hz).2) _

/-- The image that a statement begins with. -/
def freshM (lm : Nat) : IM := ⟨newB 0 3 4 2 0, newB 0 3 4 2 0, [], lm⟩
theorem freshM_len (lm : Nat) : (freshM lm).b.length = 304 := newB_length (k := 3) (d := 4) (f := 2) (by decide)
theorem freshM_good (lm : Nat) : (freshM lm).Good := IM.good_new (newB_bytes _ _ _ _ _) lm
theorem freshM_db (lm : Nat) : DB fldI 3 4 2 0 0 (freshM lm).b [] := DB.nothing (by decide) (by decide) (freshM_len lm) (fun j hj => nz_newB1 (by omega))
/-- What a caller that collects texts holds between two rounds. -/
def CollK (B n₀ : Nat) (w : World) (fq : Nat → Prop) (pre : List (Nat × List Int)) (W : World) : Prop :=
  ∃ v, fq = fpR B v ∧ Boxed W B 39 v ∧ W.ownsRow n₀ 9 1 v (pre.map (fun x => strOfNums x.2)).length (cellsT (pre.map (fun x => strOfNums x.2))) ∧ KeepC n₀ (fun k => k = B) w W
theorem collK_own (B n₀ C : Nat) (w : World) (hC : n₀ ≤ C) (fq : Nat → Prop) : OwnFrom C (CollK B n₀ w fq) := by
  rintro pre W W' row ⟨v, e1, hv, hr, hb⟩ hg hrow
  obtain ⟨v2, h2, h3, h4⟩ := own_row n₀ B C 39 9 1 (fun s : List (Nat × List Int) => (s.map (fun x => strOfNums x.2)).length) (fun s => cellsT (s.map (fun x => strOfNums x.2))) pre W W' row ⟨v, hv, hr, trivial⟩ hg hrow
  have hvv : v2 = v := by
    have := hv.kept hg (fun e => by
      obtain ⟨-, o, ho, hc⟩ := hrow B e.symm
      rw [show W.heap[B]? = _ from hv] at ho; cases ho; cases hc)
    have h5 : some (Obj.cells #[v2] 39 (0, 0)) = some (Obj.cells #[v] 39 (0, 0)) := (show W'.heap[B]? = _ from h2).symm.trans this
    simp at h5
    exact h5
  subst hvv
  exact ⟨v2, e1, h2, h3, keepC_grown hb hC hg (fun r e => (hrow r e).1)⟩

theorem results_c1 {P : Program} {fn : Func} {p : Tmp} {tp : TypeId} (h : fn.results = #[.cell p tp]) (tmps : Array Value) (w : World) (g1 : Nat) (v1 : Value)
    (hp : tmps.getD p undef = .pointer (some ⟨g1, 0, none⟩)) (h1 : (loadVar tp ⟨g1, 0, none⟩).run P w = .ok v1 w) :
    (results fn tmps).run P w = .ok v1 w := by
  have hp' : tmps[p]?.getD undef = .pointer (some ⟨g1, 0, none⟩) := by simpa using hp
  simp [results, h, hp', asAddr, h1]
theorem load_strs {w : World} {g n c : Nat} {A : Option Addr} (h : w.cell? ⟨g, 0, none⟩ = some (.slice A n c)) : (loadVar 39 ⟨g, 0, none⟩).run Try.prog w = .ok (.slice A n c) w := by simp [go_sem, h]

section
variable {base p : Nat} {S : Nat → Prop} {i k d f h : Int} {m : IM} {bv sv : Value} {l : List GO}

theorem DB.findG_mem {fld : List Int → List Int} (D : DB fld k d f 0 0 m.b l) {o : GO} (ho : o ∈ l) (hk : o.k = 1) : findG l 1 o.raw = some o.at_ := by
  cases hc : findG l 1 o.raw with
  | none => exact absurd rfl (findG_none hc o ho hk)
  | some a =>
    obtain ⟨q, hq, q1, q2, q3⟩ := findG_some hc
    have := D.uniq q hq o ho (q1.trans hk.symm) (.inl q1) q2
    subst this
    rw [q3]
theorem DB.valsG_fine (D : DB fldI k d f 0 0 m.b l) {fs : List Int} {x : Nat × List Int} (hx : x ∈ valsG l fs) : AreB x.2 ∧ x.2.length ≤ 1024 ∧ findG l 1 x.2 = some x.1 := by
  obtain ⟨o, ho, rfl⟩ := List.mem_map.1 hx
  obtain ⟨h1, h2⟩ := List.mem_filter.1 ho
  have hk := (pFld_iff.1 h2).1.1
  have hf := (D.gb.fine o h1).1
  exact ⟨hf.by_, (rightN_len hf.right).2.1, D.findG_mem h1 hk⟩

end

end Go.Proofs.Ytjpfbkhjhainpaa

/-
  LAYER 15: a file of data as a statement holds it: Intern, Find and the items of a field; the rows beside it.
-/
set_option linter.unusedVariables false
set_option maxRecDepth 100000
set_option linter.unusedSimpArgs false
namespace Go.Proofs.Ytjpfbkhjhainpaa
open Go.RowKit Go.Shelf

/-- The rows behind Intern. -/
def insD (R : List DR) (zs : List Int) (a : Nat) : List DR := match findD R zs with
  | some _ => R
  | none => R ++ [⟨zs, a, []⟩]
/-- The items of a field, by the rows. -/
def valsD (R : List DR) (fs : List Int) : List ByteArray := (R.filter (fun r => fldI r.item == fs)).map (fun r => strOfNums r.item)
theorem findD_ins {R : List DR} {zs : List Int} {a : Nat} (h : findD R zs = none) : findD (R ++ [⟨zs, a, []⟩]) zs = some a := by
  unfold findD at h ⊢
  rw [Option.map_eq_none_iff] at h
  rw [List.find?_append, h]
  simp
theorem insD_len (R : List DR) (zs : List Int) (a : Nat) : (insD R zs a).length ≤ R.length + 1 := by
  unfold insD
  split
  · omega
  · simp

section
variable {w : World} {base : Nat} {S : Nat → Prop} {p lim : Nat} {k d f : Int} {R : List DR} {tl cnt : Nat} {l : List GO} {b : List Int}

theorem Rows.valsG (D : DB fldI k d f 0 0 b l) (h : Rows l R) (fs : List Int) : (valsG l fs).map (fun x => strOfNums x.2) = valsD R fs := by
  have e := congrArg (List.map (fun x : List Int × Nat => strOfNums x.1)) (h.values D fs)
  rw [List.map_map, List.map_map] at e
  unfold Go.Proofs.Ytjpfbkhjhainpaa.valsG valsD
  rw [List.map_map]
  exact e
theorem Rows.valsG_len (D : DB fldI k d f 0 0 b l) (h : Rows l R) (fs : List Int) : (Go.Proofs.Ytjpfbkhjhainpaa.valsG l fs).length ≤ R.length := by
  have e := congrArg List.length (h.valsG D fs)
  rw [List.length_map] at e
  rw [e]
  unfold valsD
  rw [List.length_map]
  exact List.length_filter_le _ _

end

/-! ### the rows beside it -/
/-- The document's rows are those of the file. -/
def Like (R : List DR) (l : List XR) : Prop := R.map (fun r => (r.item, (r.at_ : Int))) = l.map (fun r => (nums r.item, r.at_))
theorem Like.len {R : List DR} {l : List XR} (h : Like R l) : R.length = l.length := by have := congrArg List.length h; simpa using this
theorem Like.cons {R : List DR} {l : List XR} {r : DR} {x : XR} (h : Like (r :: R) (x :: l)) : r.item = nums x.item ∧ (r.at_ : Int) = x.at_ ∧ Like R l := by
  unfold Like at h
  rw [List.map_cons, List.map_cons] at h
  injection h with h1 h2
  injection h1 with h3 h4
  exact ⟨h3, h4, h2⟩
theorem Like.vals (f : ByteArray) : ∀ {R : List DR} {l : List XR}, Like R l → valsD R (nums f) = valsX l f
  | [], [], _ => rfl
  | [], x :: l, h => by have := h.len; simp at this
  | r :: R, [], h => by have := h.len; simp at this
  | r :: R, x :: l, h => by
    obtain ⟨h1, h2, h3⟩ := h.cons
    have ih := Like.vals f h3
    unfold valsD valsX at ih ⊢
    by_cases e : spF x.item = f
    · have e1 : (fldI r.item == nums f) = true := by rw [h1, fldI_nums, e]; simp
      rw [List.filter_cons_of_pos (p := fun r : DR => fldI r.item == nums f) e1, List.filter_cons_of_pos (p := fun r : XR => decide (spF r.item = f)) (decide_eq_true e), List.map_cons, List.map_cons, ih, h1, str_nums]
    · have e1 : ¬ (fldI r.item == nums f) = true := by
        rw [h1, fldI_nums]
        intro h9
        exact e (nums_inj (by simpa using h9))
      rw [List.filter_cons_of_neg (p := fun r : DR => fldI r.item == nums f) e1, List.filter_cons_of_neg (p := fun r : XR => decide (spF r.item = f)) (by simpa using e), ih]
theorem Like.find (s : ByteArray) : ∀ {R : List DR} {l : List XR}, Like R l → (findD R (nums s) = none ∧ ∀ r ∈ l, r.item ≠ s) ∨ ∃ (a i : Nat) (r : XR), findD R (nums s) = some a ∧ l[i]? = some r ∧ r.item = s ∧ r.at_ = (a : Int) ∧ ∀ q ∈ l.take i, q.item ≠ s
  | [], [], _ => .inl ⟨rfl, fun r hr => by cases hr⟩
  | [], x :: l, h => by have := h.len; simp at this
  | r :: R, [], h => by have := h.len; simp at this
  | r :: R, x :: l, h => by
    obtain ⟨h1, h2, h3⟩ := h.cons
    by_cases e : x.item = s
    · have e1 : (r.item == nums s) = true := by rw [h1, e]; simp
      refine .inr ⟨r.at_, 0, x, ?_, rfl, e, h2.symm, by simp⟩
      unfold findD
      rw [List.find?_cons_of_pos (p := fun r : DR => r.item == nums s) e1]; rfl
    · have e1 : ¬ (r.item == nums s) = true := by
        rw [h1]
        intro h9
        exact e (nums_inj (by simpa using h9))
      have e2 : findD (r :: R) (nums s) = findD R (nums s) := by unfold findD; rw [List.find?_cons_of_neg (p := fun r : DR => r.item == nums s) e1]
      rcases Like.find s h3 with ⟨g1, g2⟩ | ⟨a, i, y, g1, g2, g3, g4, g5⟩
      · refine .inl ⟨e2.trans g1, fun q hq => ?_⟩
        rcases List.mem_cons.1 hq with rfl | hq
        · exact e
        · exact g2 q hq
      · refine .inr ⟨a, i + 1, y, e2.trans g1, by simpa using g2, g3, g4, fun q hq => ?_⟩
        rw [List.take_succ_cons] at hq
        rcases List.mem_cons.1 hq with rfl | hq
        · exact e
        · exact g5 q hq
theorem Like.isSome {R : List DR} {l : List XR} (h : Like R l) (s : ByteArray) : decide (0 ≤ idxX l s) = (findD R (nums s)).isSome := by
  rcases h.find s with ⟨g1, g2⟩ | ⟨a, i, y, g1, g2, g3, g4, g5⟩
  · rw [g1, idxX_none g2]; rfl
  · rw [g1, idxX_at g5 g2 g3]
    exact decide_eq_true (by omega)
theorem Like.ins {R : List DR} {l : List XR} (h : Like R l) (s : ByteArray) (a : Nat) : Like (insD R (nums s) a) (insX l s (a : Int)) := by
  rcases h.find s with ⟨g1, g2⟩ | ⟨b, i, y, g1, g2, g3, g4, g5⟩
  · unfold insD insX
    rw [g1, idxX_none g2]
    show Like (R ++ [_]) (if (0 : Int) ≤ -1 then l else l ++ [_])
    rw [if_neg (by omega)]
    unfold Like at h ⊢
    rw [List.map_append, List.map_append, h]; rfl
  · unfold insD insX
    rw [g1, idxX_at g5 g2 g3, if_pos (by omega)]
    exact h
/-- The row of an item that is there. -/
theorem Like.at_ {R : List DR} {l : List XR} (h : Like R l) {s : ByteArray} {a : Nat} (ha : findD R (nums s) = some a) : ∃ (i : Nat) (r : XR), idxX l s = (i : Nat) ∧ l[i]? = some r ∧ r.item = s ∧ r.at_ = (a : Int) := by
  rcases h.find s with ⟨g1, g2⟩ | ⟨b, i, y, g1, g2, g3, g4, g5⟩
  · rw [ha] at g1; cases g1
  · rw [ha] at g1; injection g1 with g1; subst g1
    exact ⟨i, y, idxX_at g5 g2 g3, g2, g3, g4⟩

end Go.Proofs.Ytjpfbkhjhainpaa

/-
  LAYER 15: the example that the statements share.
-/
set_option linter.unusedVariables false
set_option maxRecDepth 100000
set_option linter.unusedSimpArgs false
namespace Go.Proofs.Ytjpfbkhjhainpaa
open Go.RowKit Go.Shelf

section
variable {H : Type} {enc : TypeId × Value → H} {w : World}
theorem view_strs {A : Option Addr} {len cap : Nat} {d : DataW H} {p : List MemPlace} (h : DataW.Trod enc Try.prog w 0 (fun _ => true) true 39 (.slice A len cap) d p) : ∃ zs, Txt w w.heap.size A len cap zs :=
  view_txt Try.underlying39 Try.underlying9 (by kernel_rfl) h
end

def sA : ByteArray := ⟨#[65]⟩
def sA1 : ByteArray := ⟨#[65, 61, 49]⟩
def sB2 : ByteArray := ⟨#[66, 61, 50]⟩
def sA3 : ByteArray := ⟨#[65, 61, 51]⟩
theorem findD_none {R : List DR} {z : List Int} (h : z ∉ R.map (·.item)) : findD R z = none := by
  unfold findD
  rw [List.find?_eq_none.2 (fun r hr h2 => h (List.mem_map.2 ⟨r, hr, by simpa using h2⟩))]
  rfl
theorem insD_items {R : List DR} {z : List Int} {a : Nat} (h : z ∉ R.map (·.item)) : (insD R z a).map (·.item) = R.map (·.item) ++ [z] := by
  unfold insD
  rw [findD_none h, List.map_append]; rfl
theorem valsD_items (R : List DR) (fs : List Int) : valsD R fs = ((R.map (·.item)).filter (fun z => fldI z == fs)).map strOfNums := by
  unfold valsD
  rw [List.filter_map, List.map_map]
  rfl
theorem vals_ex {R : List DR} (h : R.map (·.item) = [nums sA1, nums sB2, nums sA3]) : valsD R (nums sA) = [sA1, sA3] := by
  rw [valsD_items, h]
  have e1 : (fldI (nums sA1) == nums sA) = true := by rw [fldI_nums]; kernel_rfl
  have e2 : ¬ (fldI (nums sB2) == nums sA) = true := by rw [fldI_nums]; rw [Bool.not_eq_true]; kernel_rfl
  have e3 : (fldI (nums sA3) == nums sA) = true := by rw [fldI_nums]; kernel_rfl
  rw [List.filter_cons_of_pos (p := fun z => fldI z == nums sA) e1, List.filter_cons_of_neg (p := fun z => fldI z == nums sA) e2, List.filter_cons_of_pos (p := fun z => fldI z == nums sA) e3, List.filter_nil]
  simp [str_nums]
theorem txt_two (w : World) (t : TypeId) (a b : ByteArray) (ha : a.size ≤ maxLen) (hb : b.size ≤ maxLen) : Txt (w.alloc (.cells #[.string a, .string b] t)) (w.heap.size + 1) (some ⟨w.heap.size, 0, none⟩) 2 2 [a, b] :=
  ⟨Reads.newN w t #[.string a, .string b], Nat.le_refl _, by omega, fun s hs => by
    rcases List.mem_cons.1 hs with rfl | hs
    · exact ha
    · rw [List.mem_singleton.1 hs]; exact hb⟩

end Go.Proofs.Ytjpfbkhjhainpaa
