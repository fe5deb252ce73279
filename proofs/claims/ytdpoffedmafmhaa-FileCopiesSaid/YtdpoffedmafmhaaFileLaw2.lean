/-
  LAYER 6: a row of trues; a file read whole.
-/
import Derived.Test.YtdpoffedmafmhaaFileLaw
set_option linter.unusedVariables false
set_option linter.unusedSimpArgs false
namespace Go.Proofs.Ytdpoffedmafmhaa
open Go.RowKit

theorem act_cells {w w' : World} {b o : Nat} {u0 u1 u2 u3 : Value} (h0 : w.cell? ⟨b, o, none⟩ = some u0) (h1 : w.cell? ⟨b, o + 1, none⟩ = some u1) (h2 : w.cell? ⟨b, o + 2, none⟩ = some u2) (h3 : w.cell? ⟨b, o + 3, none⟩ = some u3) (hb : Below w.heap.size w w') :
    w'.cell? ⟨b, o, none⟩ = some u0 ∧ w'.cell? ⟨b, o + 1, none⟩ = some u1 ∧ w'.cell? ⟨b, o + 2, none⟩ = some u2 ∧ w'.cell? ⟨b, o + 3, none⟩ = some u3 := by
  have hl : b < w.heap.size := World.block_lt_of_cell? w _ h0
  exact ⟨(hb.cell (p := ⟨b, _, none⟩) hl).trans h0, (hb.cell (p := ⟨b, _, none⟩) hl).trans h1, (hb.cell (p := ⟨b, _, none⟩) hl).trans h2, (hb.cell (p := ⟨b, _, none⟩) hl).trans h3⟩

theorem boolInfo : (Try.prog.info? 4).map (fun i => (i.zero, i.size, i.bytes)) = some (some (.bool false), 1, 1) := by kernel_rfl

/-- The first j of n are true. -/
def trues (n j : Nat) : List Bool := List.replicate j true ++ List.replicate (n - j) false
theorem trues_length {n j : Nat} (h : j ≤ n) : (trues n j).length = n := by unfold trues; simp; omega
theorem trues_set {n j : Nat} (h : j < n) : (cellsB (trues n j)).set j (.bool true) = cellsB (trues n (j + 1)) := by
  unfold trues cellsB
  rw [List.map_append, List.map_append, List.set_append_right _ _ (by simp)]
  simp only [List.length_map, List.length_replicate, Nat.sub_self, List.map_replicate]
  rw [show n - j = (n - (j + 1)) + 1 by omega, List.replicate_succ, List.set_cons_zero]
  rw [show List.replicate (j + 1) (Value.bool true) = List.replicate j (Value.bool true) ++ [Value.bool true] by rw [List.replicate_succ']]
  simp
theorem trues_kept (n : Nat) : ∀ i, i < n → keepAt (trues n n) i = true := fun i hi => by
  unfold keepAt trues
  rw [Nat.sub_self, List.replicate_zero, List.append_nil, List.getD_eq_getElem?_getD, List.getElem?_replicate, if_pos hi]; rfl

theorem falseMade (n : Nat) : (madeCells #[Value.bool false] n).toList = cellsB (trues n 0) := by
  rw [toList_madeCells_one]; simp [cellsB, trues]
theorem made_bools {w : World} {base g n : Nat} {e : TypeId} (h : w.ownsRow base e 1 (.slice (some ⟨g, 0, none⟩) n n) n (madeCells (Value.bool false).cells (n * 1)).toList) : Blk w g e (cellsB (trues n 0)).toArray := by
  rw [Nat.mul_one] at h
  rw [← falseMade]
  exact blk_of_full h

/-- Both files, and a row of which the first j are true. -/
structure AllAt (w wr : World) (p q : Nat) (T : Nat → Prop) (s : FS) (k g n j : Nat) : Prop where
  at_ : AtL w wr p q T s k
  blk : Blk wr g 4 (cellsB (trues n j)).toArray
  ng : ¬ T g
  lo : w.heap.size ≤ g

theorem AllAt.start {w wr w1 : World} {p q k n : Nat} {T : Nat → Prop} {s : FS} (H : AtL w wr p q T s k) (hb : Below wr.heap.size wr w1) (hblk : Blk w1 wr.heap.size 4 (cellsB (trues n 0)).toArray) : AllAt w w1 p q T s k wr.heap.size n 0 :=
  ⟨H.later hb, hblk, fun ht => by have := (H.two.foot _ ht).2; omega, H.below.size⟩
theorem AllAt.next {w wr : World} {p q k g n j : Nat} {T : Nat → Prop} {s : FS} (H : AllAt w wr p q T s k g n j) (hj : j < n) : AllAt w (wr.setCell ⟨g, j, none⟩ (.bool true)) p q T s k g n (j + 1) := by
  refine ⟨⟨H.at_.two.keep (chg_set wr ⟨g, j, none⟩ _) (fun k hk e => H.ng (by rw [← show k = g from e]; exact hk)), H.at_.good, H.at_.below.setCell H.lo _⟩, ?_, H.ng, H.lo⟩
  rw [← trues_set hj]
  have := H.blk.set_ j (.bool true)
  simpa using this
theorem AllAt.cell {w wr : World} {p q k g n j : Nat} {T : Nat → Prop} {s : FS} (H : AllAt w wr p q T s k g n j) (hj : j < n) : ∃ u, wr.cell? ⟨g, j, none⟩ = some u := by
  rw [H.blk.cell, List.getElem?_toArray]
  exact ⟨_, List.getElem?_eq_getElem (by rw [cellsB_length, trues_length (by omega)]; exact hj)⟩

/-- A file read whole. -/
theorem fread_all (p base : Nat) (S : Nat → Prop) (s : FS) (nv sv pv : Value) (w : World) (h : CF w base S p s nv sv pv) (hl : s.now.length ≤ 1048576) :
    Calls Try.prog 14 #[.pointer (some ⟨p, 0, none⟩), .int .i64 0, .int .i64 1048576] w (Gives s.now w) := by
  have := fread_any p 0 1048576 base S s nv sv pv w h (by omega) (by omega) (by omega) (by omega) hl
  rw [FS.read_all s (by omega)] at this
  exact this

/-- The document's bytes, as a walk loads them. -/
theorem Two.now2 {w : World} {base p q : Nat} {T : Nat → Prop} {s s2 : FS} (h : Two w base T p q s s2) : ∃ A c, ∀ w', Below w.heap.size w w' → w'.cell? ⟨q, 0, none⟩ = some (.slice A s2.now.length c) ∧ Reads w' w'.heap.size 1 A s2.now.length (cellsOf .u8 s2.now) := by
  obtain ⟨S, S2, nv, sv, pv, nv2, sv2, ov, xs, c1, c2, -, -, -⟩ := h.ex
  obtain ⟨Ar, cr, rfl, -, -⟩ := own_form c2.now
  exact ⟨Ar, cr, fun w' hb => ⟨(c2.cells3 hb).1, (RF.nowR (c2.below hb) rfl).1⟩⟩
/-- How many things are pending, as a walk asks it. -/
theorem Two.pend {w : World} {base p q : Nat} {T : Nat → Prop} {s s2 : FS} (h : Two w base T p q s s2) :
    Calls Try.prog 11 #[.pointer (some ⟨p, 0, none⟩)] w fun e w' => e = .returned (.int .i64 s.ops.length) ∧ w = w' := by
  obtain ⟨S, S2, nv, sv, pv, nv2, sv2, ov, xs, c1, c2, -, -, -⟩ := h.ex
  obtain ⟨Ap, cp, rfl, -, -⟩ := own_form c1.pend
  exact fpend_any p _ _ _ w (c1.blkB (Below.refl _ _)).2.2.1
theorem cf_pend {w : World} {base p : Nat} {S : Nat → Prop} {s : FS} {nv sv pv : Value} (c1 : CF w base S p s nv sv pv) :
    Calls Try.prog 11 #[.pointer (some ⟨p, 0, none⟩)] w fun e w' => e = .returned (.int .i64 s.ops.length) ∧ w = w' := by
  obtain ⟨Ap, cp, rfl, -, -⟩ := own_form c1.pend
  exact fpend_any p _ _ _ w (c1.blkB (Below.refl _ _)).2.2.1

end Go.Proofs.Ytdpoffedmafmhaa
