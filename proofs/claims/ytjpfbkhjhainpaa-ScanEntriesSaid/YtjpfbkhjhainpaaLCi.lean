/-
  MERGED BY PROGRAM out of the texts ChAsk ChSearch ChLists ChPut.
-/
import Derived.Test.YtjpfbkhjhainpaaLCh
/-
  LAYER 14: WHAT Len AND Nth DO: contracts.
-/
set_option linter.unusedVariables false
set_option maxRecDepth 100000
set_option linter.unusedSimpArgs false
namespace Go.Proofs.Ytjpfbkhjhainpaa
open Go.RowKit Go.Shelf
attribute [local go_sem] Oper.semAt_some

/-- How long what has come is. -/
theorem flatR_le {pre : List Rw} {zs : List Int} {rest : List (List Int)} {rs : List (List Int)} (h : pre.map (·.zs) ++ zs :: rest = rs) : (flatR pre).length + zs.length ≤ rs.flatten.length ∧ rs.flatten = flatR pre ++ (zs ++ rest.flatten) := by
  have e : rs.flatten = flatR pre ++ (zs ++ rest.flatten) := by rw [← h]; simp [flatR]
  refine ⟨?_, e⟩
  rw [e, List.length_append, List.length_append]; omega
theorem flatR_all {xs : List Rw} {rs : List (List Int)} (h : xs.map (·.zs) = rs) : flatR xs = rs.flatten := by rw [← h]; rfl

section
variable {base p : Nat} {S : Nat → Prop} {root : Int} {its : List It} {L : List Int}

/-- What Nth tells. -/
def nthV (L : List Int) (i : Int) : Int := if 0 ≤ i ∧ i < L.length then L.getD i.toNat 0 else 0
def nthQ (L : List Int) (i : Int) : Bool := decide (0 ≤ i ∧ i < L.length)
theorem nth_yes {L : List Int} {q : Nat} (h : q < L.length) : nthV L q = L.getD q 0 ∧ nthQ L q = true := by
  unfold nthV nthQ
  rw [if_pos (by omega)]
  exact ⟨rfl, decide_eq_true (by omega)⟩
theorem nth_no {L : List Int} {i : Int} (h : i < 0 ∨ (L.length : Int) ≤ i) : nthV L i = 0 ∧ nthQ L i = false := by
  unfold nthV nthQ
  rw [if_neg (by omega)]
  exact ⟨rfl, decide_eq_false (by omega)⟩
def three (g : Nat) : Nat → Prop := fun k => k = g ∨ k = g + 1 ∨ k = g + 1 + 1
theorem load_u64 {w : World} {g : Nat} {x : Int} (h : w.cell? ⟨g, 0, none⟩ = some (.int .u64 x)) : (loadVar 47 ⟨g, 0, none⟩).run Try.prog w = .ok (.int .u64 x) w := by simp [go_sem, h]

end

end Go.Proofs.Ytjpfbkhjhainpaa

/-
  LAYER 14: sort.Search, AND WHAT Search DOES: contracts.
-/
set_option linter.unusedVariables false
set_option maxRecDepth 100000
set_option linter.unusedSimpArgs false
namespace Go.Proofs.Ytjpfbkhjhainpaa
open Go.RowKit Go.Shelf
attribute [local go_sem] Oper.semAt_some

/-- Where a question is answered with yes at first. -/
def firstY (q : Int → Bool) (L : List Int) : Nat := (L.takeWhile fun x => !q x).length
/-- Behind a yes all is yes. -/
def MonoY (q : Int → Bool) (L : List Int) : Prop := ∀ i j, i ≤ j → j < L.length → q (L.getD i 0) = true → q (L.getD j 0) = true
theorem firstY_le (q : Int → Bool) (L : List Int) : firstY q L ≤ L.length := (List.takeWhile_prefix _).length_le
theorem firstY_no {q : Int → Bool} : ∀ {L : List Int} {i : Nat}, i < firstY q L → q (L.getD i 0) = false
  | [], i, h => by simp [firstY] at h
  | x :: L, i, h => by
    by_cases hx : q x = true
    · simp [firstY, hx] at h
    · have hx' : q x = false := by simpa using hx
      have e : firstY q (x :: L) = firstY q L + 1 := by simp [firstY, hx']
      cases i with
      | zero => simpa using hx'
      | succ i => simpa using firstY_no (L := L) (i := i) (by omega)
theorem firstY_at {q : Int → Bool} : ∀ {L : List Int}, firstY q L < L.length → q (L.getD (firstY q L) 0) = true
  | [], h => by simp at h
  | x :: L, h => by
    by_cases hx : q x = true
    · have e : firstY q (x :: L) = 0 := by simp [firstY, hx]
      rw [e]; simpa using hx
    · have hx' : q x = false := by simpa using hx
      have e : firstY q (x :: L) = firstY q L + 1 := by simp [firstY, hx']
      rw [e] at h ⊢
      simpa using firstY_at (L := L) (by simpa using h)
theorem firstY_iff {q : Int → Bool} {L : List Int} (hm : MonoY q L) {i : Nat} (hi : i < L.length) : q (L.getD i 0) = decide (firstY q L ≤ i) := by
  by_cases h : firstY q L ≤ i
  · rw [decide_eq_true h]
    exact hm _ i h hi (firstY_at (by omega))
  · rw [decide_eq_false h]
    exact firstY_no (by omega)
theorem firstY_append (q : Int → Bool) (a b : List Int) : firstY q (a ++ b) = if firstY q a = a.length then a.length + firstY q b else firstY q a := by
  unfold firstY
  rw [List.takeWhile_append]
  split
  · rw [List.length_append]
  · rfl
theorem MonoY.mid {q : Int → Bool} {a b c L : List Int} (hm : MonoY q L) (e : L = a ++ (b ++ c)) : MonoY q b := by
  intro i j hij hj hq
  have h1 : ∀ k, k < b.length → L.getD (a.length + k) 0 = b.getD k 0 := fun k hk => by
    rw [e, List.getD_eq_getElem?_getD, List.getD_eq_getElem?_getD, List.getElem?_append_right (by omega), List.getElem?_append_left (by omega)]
    congr 2; omega
  have h2 := hm (a.length + i) (a.length + j) (by omega) (by rw [e]; simp; omega)
  rw [h1 i (by omega), h1 j hj] at h2
  exact h2 hq

/-- A question as Search is handed one. -/
def Asks (q : Int → Bool) (cl : Nat) (lb : Array Value) (w : World) : Prop :=
  ∀ (W : World) (x : Int), Below w.heap.size w W → Calls Try.prog cl (#[.int .u64 x] ++ lb) W fun e w' => e = .returned (.bool (q x)) ∧ ∃ k, w' = W.drewN k

section
variable {base p : Nat} {S : Nat → Prop} {root : Int} {its : List It} {L : List Int}

end

end Go.Proofs.Ytjpfbkhjhainpaa

/-
  LAYER 14: WHAT sizes AND all OF THE STATEMENTS DO.
-/
set_option linter.unusedVariables false
set_option maxRecDepth 100000
set_option linter.unusedSimpArgs false
namespace Go.Proofs.Ytjpfbkhjhainpaa
open Go.RowKit Go.Shelf
attribute [local go_sem] Oper.semAt_some

theorem intInfo14 : (Try.prog.info? 3).map (fun i => (i.zero, i.size, i.bytes)) = some (some (.int .i64 0), 1, 8) := by kernel_rfl

section
variable {base p : Nat} {S : Nat → Prop} {root : Int} {its : List It} {L : List Int}

def lenC (x : Ob) : List Value := [.int .i64 x.t.is.length]
def placeC (x : Int) : List Value := [.int .u64 x]
theorem placesC_eq (L : List Int) : (L.map placeC).flatten = cellsOf .u64 L := by
  induction L with
  | nil => rfl
  | cons x L ih => rw [List.map_cons, List.flatten_cons, ih]; rfl

theorem lensC_eq : ∀ (xs : List Ob), (xs.map lenC).flatten = cellsOf .i64 (xs.map fun x => (x.t.is.length : Int))
  | [] => rfl
  | x :: xs => by rw [List.map_cons, List.flatten_cons, lensC_eq xs]; rfl

end

end Go.Proofs.Ytjpfbkhjhainpaa

/-
  LAYER 14: WHAT isFree, refusal AND put DO: an array is put behind all objects, and the word that is to lead there is set; or there is no room, and nothing is as it was not.
-/
set_option linter.unusedVariables false
set_option maxRecDepth 100000
set_option linter.unusedSimpArgs false
namespace Go.Proofs.Ytjpfbkhjhainpaa
open Go.RowKit Go.Shelf

section
variable {base p : Nat} {S : Nat → Prop} {i k d f h : Int} {m : IM} {bv sv : Value}

theorem put8_length {m : IM} {q : Nat} {n : Int} (hq : q + 8 ≤ m.b.length) : (m.put8 q n).b.length = m.b.length := by
  show (splice m.b q (bts n 8)).length = _
  rw [splice_len _ _ _ (by rw [bts8_length]; exact hq)]

end

end Go.Proofs.Ytjpfbkhjhainpaa
