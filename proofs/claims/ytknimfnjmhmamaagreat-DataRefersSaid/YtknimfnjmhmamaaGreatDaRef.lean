/-
  LAYER 15: the document's rows of items in memory; its Find, Values, Intern: contracts.
-/
import Derived.Test.YtknimfnjmhmamaaGreatDaVal
import Derived.Test.YtknimfnjmhmamaaGreatDaTxt
set_option linter.unusedVariables false
set_option maxRecDepth 100000
set_option linter.unusedSimpArgs false
namespace Go.Proofs.YtknimfnjmhmamaaGreat
open Go.RowKit Go.Shelf

theorem nums_inj {a b : ByteArray} (h : nums a = nums b) : a = b := by rw [← str_nums a, ← str_nums b, h]
theorem beq_txt (a b : ByteArray) : (a.toList == b.toList) = decide (a = b) := by
  rw [beq_nums, decide_eq_decide]
  exact ⟨nums_inj, fun h => by rw [h]⟩

/-- A row, as it lies in memory: its item, its place, the slice of its entries. -/
structure XR where
  item : ByteArray
  at_ : Int
  v : Value
def cellsX : List XR → List Value
  | [] => []
  | r :: l => .string r.item :: .int .i64 r.at_ :: r.v :: cellsX l
theorem cellsX_length : ∀ l : List XR, (cellsX l).length = l.length * 3
  | [] => rfl
  | r :: l => by simp only [cellsX, List.length_cons, cellsX_length l]; omega
theorem cellsX_append : ∀ (l m : List XR), cellsX (l ++ m) = cellsX l ++ cellsX m
  | [], _ => rfl
  | r :: l, m => by simp only [cellsX, List.cons_append, cellsX_append l m]
theorem cellsX_at : ∀ (l : List XR) (i : Nat) (r : XR), l[i]? = some r → (cellsX l)[i * 3]? = some (.string r.item) ∧ (cellsX l)[i * 3 + 1]? = some (.int .i64 r.at_) ∧ (cellsX l)[i * 3 + 2]? = some r.v
  | [], i, r, h => by simp at h
  | a :: l, 0, r, h => by simp at h; subst h; exact ⟨rfl, rfl, rfl⟩
  | a :: l, i + 1, r, h => by
    have h' : l[i]? = some r := by simpa using h
    obtain ⟨h1, h2, h3⟩ := cellsX_at l i r h'
    have e : ∀ k, (cellsX (a :: l))[(i + 1) * 3 + k]? = (cellsX l)[i * 3 + k]? := fun k => by
      have : (i + 1) * 3 + k = i * 3 + k + 1 + 1 + 1 := by omega
      rw [this]; simp [cellsX]
    exact ⟨(e 0).trans h1, (e 1).trans h2, (e 2).trans h3⟩

/-- A slice that reads as rows. -/
structure RowsX (w : World) (B : Nat) (A : Option Addr) (n c : Nat) (l : List XR) : Prop where
  reads : Reads w B 3 A n (cellsX l)
  len : l.length = n
  fine : ∀ r ∈ l, r.item.size ≤ 100000
  most : n ≤ 900
  le : n ≤ c
  cap : c ≤ maxLen
theorem RowsX.at_ {w : World} {B n c : Nat} {A : Option Addr} {l : List XR} (h : RowsX w B A n c l) {i : Nat} (hi : i < n) :
    ∃ b off r, A = some ⟨b, off, none⟩ ∧ b < B ∧ l[i]? = some r ∧ w.cell? ⟨b, off + i * 3, none⟩ = some (.string r.item) ∧ w.cell? ⟨b, off + i * 3 + 1, none⟩ = some (.int .i64 r.at_) ∧ w.cell? ⟨b, off + i * 3 + 2, none⟩ = some r.v := by
  have hl : i < l.length := by rw [h.len]; exact hi
  obtain ⟨h1, h2, h3⟩ := cellsX_at l i l[i] (List.getElem?_eq_getElem hl)
  obtain ⟨b, off, e, hb, hc⟩ := h.reads.at2 (by omega) (by omega)
  exact ⟨b, off, l[i], e, hb, List.getElem?_eq_getElem hl, hc _ _ h1, by have := hc _ _ h2; rwa [← Nat.add_assoc] at this, by have := hc _ _ h3; rwa [← Nat.add_assoc] at this⟩
theorem RowsX.below {w w' : World} {B n c : Nat} {A : Option Addr} {l : List XR} (h : RowsX w B A n c l) (hb : Below B w w') : RowsX w' B A n c l := ⟨h.reads.below hb, h.len, h.fine, h.most, h.le, h.cap⟩

/-- Where an item is; below 0: it isn't there. -/
def idxX (l : List XR) (s : ByteArray) : Int := match l.findIdx? (fun r => decide (r.item = s)) with
  | none => -1
  | some i => (i : Int)
theorem idxX_none {l : List XR} {s : ByteArray} (h : ∀ r ∈ l, r.item ≠ s) : idxX l s = -1 := by
  unfold idxX
  rw [List.findIdx?_eq_none_iff.2 (fun r hr => decide_eq_false (h r hr))]
theorem idxX_at {l : List XR} {s : ByteArray} {i : Nat} {r : XR} (h : ∀ q ∈ l.take i, q.item ≠ s) (hi : l[i]? = some r) (h1 : r.item = s) : idxX l s = i := by
  obtain ⟨hl, e⟩ := List.getElem?_eq_some_iff.1 hi
  have e2 : l.findIdx? (fun r => decide (r.item = s)) = some i := by
    rw [List.findIdx?_eq_some_iff_getElem]
    refine ⟨hl, by rw [e]; exact decide_eq_true h1, fun j hj => ?_⟩
    have := h (l[j]'(by omega)) (by rw [List.mem_take_iff_getElem]; exact ⟨j, by omega, rfl⟩)
    simpa using this
  unfold idxX
  rw [e2]
theorem idxX_some {l : List XR} {s : ByteArray} (h : ¬ idxX l s = -1) : ∃ i r, idxX l s = (i : Nat) ∧ l[i]? = some r ∧ r.item = s := by
  unfold idxX at h ⊢
  cases hc : l.findIdx? (fun r => decide (r.item = s)) with
  | none => rw [hc] at h; exact absurd rfl h
  | some i =>
    obtain ⟨h1, h2, -⟩ := List.findIdx?_eq_some_iff_getElem.1 hc
    exact ⟨i, _, rfl, List.getElem?_eq_getElem h1, of_decide_eq_true h2⟩

set_option maxHeartbeats 1000000 in
theorem rfind_any {B n c : Nat} {A : Option Addr} {l : List XR} (s : ByteArray) (w : World) (h : RowsX w B A n c l) :
    Calls Tryz.prog 25 #[.slice A n c, .string s] w fun e w' => e = .returned (.int .i64 (idxX l s)) ∧ w = w' := by
  have hmost := h.most
  have hlen := h.len
  go_enter Tryz.func25, Tryz.ntmps25
  go_wp2
  go_loopw [5] (fun i wr => ∃ j : Nat, i = .int .i64 j ∧ j ≤ n ∧ Hid (∀ q ∈ l.take j, q.item ≠ s) ∧ w = wr) (fun i _ => n - (intOf i).toNat)
  case atStart => exact ⟨0, rfl, Nat.zero_le _, Lib.hid (by simp), rfl⟩
  case round =>
    obtain ⟨j, rfl, hj, hno, rfl⟩ := hrel
    by_cases hlt : j < n
    · obtain ⟨b, off, r, rfl, hb, hr, c0, c1, c2⟩ := h.at_ hlt
      have HR := Lib.hid hr
      have hbq := beq_txt r.item s
      by_cases e1 : r.item = s
      · have HF := Lib.hid (idxX_at hno.out hr e1)
        rw [decide_eq_true e1] at hbq
        obtain ⟨s1, hs1⟩ : ∃ s1, r.item = s1 := ⟨_, rfl⟩
        rw [hs1] at c0 hbq
        clear hs1 e1 hno hr h c1 c2
        go_wp2
        go_ret
        exact ⟨by rw [HF.out]; rfl, rfl⟩
      · have HS : Hid (∀ q ∈ l.take (j + 1), q.item ≠ s) := Lib.hid (fun q hq => by
          have hl : j < l.length := by omega
          rw [List.take_succ_eq_append_getElem hl] at hq
          rcases List.mem_append.1 hq with hq | hq
          · exact hno.out q hq
          · rw [List.getElem?_eq_getElem hl] at hr
            injection hr with hr
            rw [List.mem_singleton.1 hq, hr]; exact e1)
        rw [decide_eq_false e1] at hbq
        obtain ⟨s1, hs1⟩ : ∃ s1, r.item = s1 := ⟨_, rfl⟩
        rw [hs1] at c0 hbq
        clear hs1 e1 hno hr c1 c2
        go_wp2
        go_roundw
        case rel => exact ⟨j + 1, by go_num, by omega, HS, by first | rfl | trivial⟩
        case measure => simp [intOf]; omega
    · have hjn : j = n := by omega
      have HF := Lib.hid (idxX_none (l := l) (s := s) (fun r hr => hno.out r (by rw [List.take_of_length_le (by omega)]; exact hr)))
      clear hno
      go_wp2
      go_ret
      exact ⟨by rw [HF.out]; rfl, rfl⟩

/-- The items of a field. -/
def valsX (l : List XR) (f : ByteArray) : List ByteArray := (l.filter (fun r => decide (spF r.item = f))).map (·.item)
theorem valsX_snoc (l : List XR) (f : ByteArray) (r : XR) : valsX (l ++ [r]) f = if spF r.item = f then valsX l f ++ [r.item] else valsX l f := by
  unfold valsX
  rw [List.filter_append]
  by_cases h : spF r.item = f
  · rw [if_pos h]; simp [h]
  · rw [if_neg h]; simp [h]
theorem valsX_len (l : List XR) (f : ByteArray) : (valsX l f).length ≤ l.length := by
  unfold valsX
  rw [List.length_map]
  exact List.length_filter_le _ _

end Go.Proofs.YtknimfnjmhmamaaGreat
