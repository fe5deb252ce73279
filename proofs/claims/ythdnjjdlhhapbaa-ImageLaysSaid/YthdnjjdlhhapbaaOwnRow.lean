/-
  ROWS OF A CALL'S OWN, LAID OPEN, CUT, AND MADE ANEW: of no program but bytes.Clone.
-/
import Derived.Test.YthdnjjdlhhapbaaLLe
set_option linter.unusedVariables false
set_option maxRecDepth 100000
set_option linter.unusedSimpArgs false
namespace Go.Proofs.Ythdnjjdlhhapbaa
open Go.RowKit

/-- A row of the call's own, laid open: its block is known whole. -/
theorem row_open {w : World} {base n : Nat} {e : TypeId} {size : Nat} {A : Option Addr} {c : Nat} {xs : List Value} (h : w.ownsRow base e size (.slice A n c) n xs) (hn : 0 < n) :
    ∃ (g : Nat) (cur : List Value), A = some ⟨g, 0, none⟩ ∧ base ≤ g ∧ Blk w g e cur.toArray ∧ n ≤ c ∧ c ≤ maxLen ∧ cur.length = c * size ∧ cur.take (n * size) = xs := by
  rcases h.2 with ⟨_, h0⟩ | ⟨g, cap, cur, hv, hb, hg, hnc, hcm, hcs, ht⟩
  · omega
  · injection hv with h1 _ h3
    subst h1; subst h3
    exact ⟨g, cur.toList, rfl, hb, hg, hnc, hcm, by simpa using hcs, ht⟩
theorem row_shut {w : World} {base n c g : Nat} {e : TypeId} {size : Nat} {cur xs : List Value} (hb : base ≤ g) (hg : Blk w g e cur.toArray) (hnc : n ≤ c) (hcm : c ≤ maxLen) (hl : cur.length = c * size) (ht : cur.take (n * size) = xs) (hx : xs.length = n * size) :
    w.ownsRow base e size (.slice (some ⟨g, 0, none⟩) n c) n xs := ⟨hx, .inr ⟨g, c, _, rfl, hb, hg, hnc, hcm, by simpa using hl, by simpa using ht⟩⟩

/-- The first ones of a row of the call's own. -/
theorem row_cut {w : World} {base n k c : Nat} {e : TypeId} {A : Option Addr} {xs : List Value} (h : w.ownsRow base e 1 (.slice A n c) n xs) (hk : k ≤ n) : w.ownsRow base e 1 (.slice A k c) k (xs.take k) := by
  have hl := h.1
  refine ⟨by rw [List.length_take]; omega, ?_⟩
  rcases h.2 with ⟨hv, h0⟩ | ⟨g, cap, cur, hv, hb, hg, hnc, hcm, hcs, ht⟩
  · injection hv with h1 h2 h3
    subst h1; subst h3
    obtain rfl : k = 0 := by omega
    exact .inl ⟨rfl, rfl⟩
  · injection hv with h1 _ h3
    subst h1; subst h3
    refine .inr ⟨g, c, cur, rfl, hb, hg, by omega, hcm, hcs, ?_⟩
    rw [← ht, List.take_take]
    congr 1; omega

theorem row_nil {w : World} {B size n : Nat} {xs : List Value} (h : Reads w B size none n xs) : n = 0 := by
  rcases Nat.eq_zero_or_pos n with h0 | h0
  · exact h0
  · obtain ⟨ad, e, _⟩ := h.2 h0; cases e

/-- An empty row of the call's own, and what is put behind it. -/
theorem row_lit0 {w w1 : World} {t : TypeId} {n c : Nat} (hg : (w.alloc (.cells #[] t)).grownBy w1 (Value.ownBlock (.slice (some ⟨w.heap.size, 0, none⟩) n c))) : Below w.heap.size w w1 :=
  ((Below.refl _ _).alloc (Nat.le_refl _) _).grown hg (by simp) (fun k hk => by simp [Value.ownBlock] at hk; omega)

/-- What a reader of bytes that a function has told is handed. -/
theorem Told.reads {zs : List Int} {w w' : World} {e : Ending} (h : Told zs w e w') : ∃ A n c, e = .returned (.slice A n c) ∧ n = zs.length ∧ Reads w' w'.heap.size 1 A n (cellsOf .u8 zs) ∧ n ≤ c ∧ c ≤ 9223372036854775807 ∧ Below w.heap.size w w' ∧ w'.ownsRow w.heap.size 5 1 (.slice A n c) n (cellsOf .u8 zs) := by
  obtain ⟨A, n, c, rfl, h1, h2, h3, h4, h5⟩ := h
  exact ⟨A, n, c, rfl, h1, Reads.of_own h2, h4, h5, h3, h2⟩

/-- bytes.Clone. -/
theorem bclone_any (A : Option Addr) (len cap : Nat) (zs : List Int) (B : Nat) (w : World) (hr : Reads w B 1 A len (cellsOf .u8 zs)) (hB : B ≤ w.heap.size) (hn : len ≤ 140737488355328) :
    Calls Try.prog 45 #[.slice A len cap] w (Told zs w) := by
  obtain ⟨i0, hi, hz0, hz1, hz2⟩ := info_parts byteInfo
  have hlen := hr.len
  cases A with
  | none =>
    obtain rfl := row_nil hr
    have hz : zs = [] := List.eq_nil_of_length_eq_zero hlen
    have hq := fun w1 : World => Lib.run_eql_slice_nil (P := Try.prog) w1 39 5 none 0 cap 0 0 Try.underlying39
    clear hr
    go_enter Try.func45, Try.ntmps45
    go_wp2
    go_ret
    subst hz
    exact Told.nil _ _ (Below.refl _ _)
  | some ad =>
    have h2 : 0 + len ≤ maxLen := by unfold maxLen; omega
    have h3 : (0 + len) * 1 ≤ 140737488355328 := by omega
    have HR := Lib.hid hr
    have HL := Lib.hid hlen
    have hq := fun w1 : World => Lib.run_eql_slice_nil (P := Try.prog) w1 39 5 (some ad) len cap 0 0 Try.underlying39
    clear hr hlen
    go_enter Try.func45, Try.ntmps45
    go_wp2_with (at_builtin; refine wpList_append_any _ rfl _ _ _ rfl w.heap.size 5 i0 (.int .u8 0) 1 1 Try.underlying39 hi hz0 hz1 hz2 rfl (Nat.lt_succ_self 0) _ 0 [] rfl (World.ownsRow_lit w #[] 0 (Nat.le_refl _) (Nat.zero_le _) rfl) B (some ad) len cap (cellsOf .u8 zs) rfl (HR.out.alloc hB _) (cellsOf_one _ _) h2 h3 (by simp) ?_; intro v1 w1 hown1 hg1 hat1; rw [Nat.zero_add, List.nil_append] at hown1; obtain ⟨A1, c1, rfl, hc1, hc2⟩ := own_form hown1; have hb1 := row_lit0 hg1; clear hg1 hat1)
    go_ret
    exact ⟨A1, len, c1, rfl, HL.out.symm, hown1, hb1, hc1, by unfold maxLen at hc2; omega⟩

/-- A cut of bytes. -/
theorem take_splice {cur : List Value} {xs ys : List Value} {N a : Nat} (ht : cur.take N = xs) (hN : N ≤ cur.length) (h : a + ys.length ≤ N) : (splice cur a ys).take N = splice xs a ys := by
  subst ht
  unfold splice
  rw [List.take_take, Nat.min_eq_left (show a ≤ N by omega), List.take_append, List.length_take, Nat.min_eq_left (by omega), List.take_of_length_le (by rw [List.length_take]; omega)]
  congr 1
  rw [List.take_append, List.take_of_length_le (by omega)]
  congr 1
  rw [List.drop_take]
  congr 1
  omega
theorem splice_cells (k : IntKind) (xs ys : List Int) (a : Nat) : splice (cellsOf k xs) a (cellsOf k ys) = cellsOf k (splice xs a ys) := by unfold splice; simp [cellsOf]

end Go.Proofs.Ythdnjjdlhhapbaa
