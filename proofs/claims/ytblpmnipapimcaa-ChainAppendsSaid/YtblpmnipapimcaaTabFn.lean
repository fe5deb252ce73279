/-
  LAYER 13: WHAT Sum, bucket, Follow AND All OF PACKAGE table DO: contracts.
-/
import Derived.Test.YtblpmnipapimcaaTabFollow
set_option linter.unusedVariables false
set_option maxRecDepth 100000
set_option linter.unusedSimpArgs false
namespace Go.Proofs.Ytblpmnipapimcaa
open Go.RowKit

/-- An iterator's four boxes. -/
structure FlAt (w : World) (g p : Nat) (pl : Int) (kd wd : Nat) : Prop where
  lo : g + 4 ≤ w.heap.size
  cm : w.cell? ⟨g, 0, none⟩ = some (.pointer (some ⟨p, 0, none⟩))
  cp : w.cell? ⟨g + 1, 0, none⟩ = some (.int .u64 pl)
  ck : w.cell? ⟨g + 2, 0, none⟩ = some (.int .i64 kd)
  cw : w.cell? ⟨g + 3, 0, none⟩ = some (.int .i64 wd)
abbrev flV (g : Nat) : Value := .func (.func 71) #[] #[.pointer (some ⟨g + 3, 0, none⟩), .pointer (some ⟨g + 2, 0, none⟩), .pointer (some ⟨g + 1, 0, none⟩), .pointer (some ⟨g, 0, none⟩)]

theorem FlAt.below {w w' : World} {g p : Nat} {pl : Int} {kd wd : Nat} (h : FlAt w g p pl kd wd) (hb : Below w.heap.size w w') : FlAt w' g p pl kd wd :=
  ⟨Nat.le_trans h.lo hb.size, (hb.cell (p := ⟨g, 0, none⟩) (by have := h.lo; show g < _; omega)).trans h.cm, (hb.cell (p := ⟨g + 1, 0, none⟩) (by have := h.lo; show g + 1 < _; omega)).trans h.cp,
   (hb.cell (p := ⟨g + 2, 0, none⟩) (by have := h.lo; show g + 2 < _; omega)).trans h.ck, (hb.cell (p := ⟨g + 3, 0, none⟩) (by have := h.lo; show g + 3 < _; omega)).trans h.cw⟩

theorem cell_kept1 {w : World} {o : Obj} {a : Addr} {v : Value} (h : w.cell? a = some v) : (w.alloc o).cell? a = some v := (World.cell?_alloc_lt w o a (by obtain ⟨o', h', -⟩ := cells_of_cell h; exact (Array.getElem?_eq_some_iff.1 h').1)).trans h
theorem tfollow_any (p : Nat) (pl : Int) (kd wd : Nat) (w : World) :
    Calls Try.prog 48 #[.pointer (some ⟨p, 0, none⟩), .int .u64 pl, .int .i64 kd, .int .i64 wd] w fun e w' => e = .returned (flV w.heap.size) ∧ Below w.heap.size w w' ∧ FlAt w' w.heap.size p pl kd wd := by
  go_enter Try.func48, Try.ntmps48
  go_wp2
  go_ret
  have c0 := (Blk.new w 26 #[.pointer (some ⟨p, 0, none⟩)]).cell 0
  have c1 := (Blk.new (w.alloc (.cells #[.pointer (some ⟨p, 0, none⟩)] 26)) 36 #[.int .u64 pl]).cell 0
  have c2 := (Blk.new ((w.alloc (.cells #[.pointer (some ⟨p, 0, none⟩)] 26)).alloc (.cells #[.int .u64 pl] 36)) 3 #[.int .i64 kd]).cell 0
  have c3 := (Blk.new (((w.alloc (.cells #[.pointer (some ⟨p, 0, none⟩)] 26)).alloc (.cells #[.int .u64 pl] 36)).alloc (.cells #[.int .i64 kd] 3)) 3 #[.int .i64 wd]).cell 0
  have b1 := boxed w (.cells #[.pointer (some ⟨p, 0, none⟩)] 26)
  have b2 := b1.alloc b1.size (.cells #[.int .u64 pl] 36)
  have b3 := b2.alloc b2.size (.cells #[.int .i64 kd] 3)
  have b4 := b3.alloc b3.size (.cells #[.int .i64 wd] 3)
  simp only [World.size_alloc] at c1 c2 c3
  exact ⟨rfl, b4, ⟨by simp, cell_kept1 (cell_kept1 (cell_kept1 c0)), cell_kept1 (cell_kept1 c1), cell_kept1 c2, c3⟩⟩

theorem ret_ib {x y : Int} {b : Bool} (h : x = y) : Ending.returned (.tuple #[.int .i64 x, .bool b]) = .returned (.tuple #[.int .i64 y, .bool b]) := by rw [h]

section
variable {base p : Nat} {S : Nat → Prop} {i k d f h : Int} {m : IM} {bv sv : Value}

/-- The bucket of a sum. -/
def bktN (D F : Int) (kd : Nat) (sum : Int) : Nat := (bucket sum (nb D F kd)).toNat
theorem bktN_eq {D F : Int} (hD : 1 ≤ D ∧ D ≤ 256) (hF : 1 ≤ F ∧ F ≤ 256) {kd : Nat} {sum : Int} (hs : IsU sum) : bucket sum (nb D F kd) = (bktN D F kd sum : Int) ∧ (bktN D F kd sum : Int) < nb D F kd := by
  have h := nb_bd hD hF kd
  unfold bktN bucket
  rw [if_neg (by omega)]
  have h1 := Int.emod_nonneg sum (b := nb D F kd) (by omega)
  have h2 := Int.emod_lt_of_pos sum (b := nb D F kd) (by omega)
  omega

end

end Go.Proofs.Ytblpmnipapimcaa
