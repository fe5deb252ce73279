/-
  LAYER 13: WHAT THE DOCUMENT'S OWN FUNCTIONS DO (a list of rows), and the statements' light and kind: contracts.
-/
import Derived.Test.YtkaepikjklpmaaaStrB
set_option linter.unusedVariables false
set_option maxRecDepth 100000
set_option linter.unusedSimpArgs false
namespace Go.Proofs.Ytkaepikjklpmaaa
open Go.RowKit

def lightB (f : Bool) (n : Nat) : Bool := decide (1 ≤ n) && (decide (n ≤ 64) || (!f && decide (n ≤ 300)))
def kdN (f : Bool) : Nat := if f then 2 else 1
theorem kdN_or (f : Bool) : kdN f = 1 ∨ kdN f = 2 := by cases f <;> simp [kdN]

theorem light_any (f : Bool) (s : ByteArray) (w : World) :
    Calls Try.prog 8 #[.agg #[.bool f, .string s]] w fun e w' => e = .returned (.bool (lightB f s.size)) ∧ Below w.heap.size w w' := by
  have hb := boxed w (.cells #[.bool f, .string s] 26)
  have HR : ∀ b, Hid (lightB f s.size = b) → Ending.returned (.bool b) = .returned (.bool (lightB f s.size)) := fun b h => by rw [h.out]
  have HB := Lib.hid hb
  clear hb
  by_cases h1 : 1 ≤ s.size
  · have d1 : decide ((1 : Int) ≤ (s.size : Int)) = true := decide_eq_true (by omega)
    by_cases h2 : s.size ≤ 64
    · have d2 : decide ((s.size : Int) ≤ 64) = true := decide_eq_true (by omega)
      have HL := HR true (Lib.hid (by simp [lightB, h1, h2]))
      clear h1 h2
      go_enter Try.func8, Try.ntmps8
      go_wp2
      go_ret
      exact ⟨HL, HB.out⟩
    · have d2 : decide ((s.size : Int) ≤ 64) = false := decide_eq_false (by omega)
      cases f with
      | true =>
        have HL := HR false (Lib.hid (by simp [lightB, h2]))
        clear h1 h2
        go_enter Try.func8, Try.ntmps8
        go_wp2
        go_ret
        exact ⟨HL, HB.out⟩
      | false =>
        by_cases h3 : s.size ≤ 300
        · have d3 : decide ((s.size : Int) ≤ 300) = true := decide_eq_true (by omega)
          have HL := HR true (Lib.hid (by simp [lightB, h1, h3]))
          clear h1 h2 h3
          go_enter Try.func8, Try.ntmps8
          go_wp2
          go_ret
          exact ⟨HL, HB.out⟩
        · have d3 : decide ((s.size : Int) ≤ 300) = false := decide_eq_false (by omega)
          have HL := HR false (Lib.hid (by simp [lightB, h2, h3]))
          clear h1 h2 h3
          go_enter Try.func8, Try.ntmps8
          go_wp2
          go_ret
          exact ⟨HL, HB.out⟩
  · have d1 : decide ((1 : Int) ≤ (s.size : Int)) = false := decide_eq_false (by omega)
    have HL := HR false (Lib.hid (by simp [lightB, h1]))
    clear h1
    go_enter Try.func8, Try.ntmps8
    go_wp2
    go_ret
    exact ⟨HL, HB.out⟩

theorem kind_any (f : Bool) (s : ByteArray) (w : World) :
    Calls Try.prog 10 #[.agg #[.bool f, .string s]] w fun e w' => e = .returned (.int .i64 (kdN f : Nat)) ∧ Below w.heap.size w w' := by
  have HB := Lib.hid (boxed w (.cells #[.bool f, .string s] 26))
  cases f with
  | true =>
    go_enter Try.func10, Try.ntmps10
    go_wp2
    go_ret
    exact ⟨rfl, HB.out⟩
  | false =>
    go_enter Try.func10, Try.ntmps10
    go_wp2
    go_ret
    exact ⟨rfl, HB.out⟩

/-- The rows, as they lie in memory. -/
def cellsR : List TRow → List Value
  | [] => []
  | r :: l => .int .i64 (r.k : Nat) :: .string (strOfNums r.raw) :: .int .i64 (r.at_ : Nat) :: cellsR l
theorem cellsR_length : ∀ l : List TRow, (cellsR l).length = l.length * 3
  | [] => rfl
  | r :: l => by simp only [cellsR, List.length_cons, cellsR_length l]; omega
theorem cellsR_append : ∀ (l m : List TRow), cellsR (l ++ m) = cellsR l ++ cellsR m
  | [], _ => rfl
  | r :: l, m => by simp only [cellsR, List.cons_append, cellsR_append l m]
theorem cellsR_at : ∀ (l : List TRow) (i : Nat) (r : TRow), l[i]? = some r → (cellsR l)[i * 3]? = some (.int .i64 (r.k : Nat)) ∧ (cellsR l)[i * 3 + 1]? = some (.string (strOfNums r.raw)) ∧ (cellsR l)[i * 3 + 2]? = some (.int .i64 (r.at_ : Nat))
  | [], i, r, h => by simp at h
  | a :: l, 0, r, h => by simp at h; subst h; exact ⟨rfl, rfl, rfl⟩
  | a :: l, i + 1, r, h => by
    have h' : l[i]? = some r := by simpa using h
    obtain ⟨h1, h2, h3⟩ := cellsR_at l i r h'
    have e : ∀ k, (cellsR (a :: l))[(i + 1) * 3 + k]? = (cellsR l)[i * 3 + k]? := fun k => by
      have : (i + 1) * 3 + k = i * 3 + k + 1 + 1 + 1 := by omega
      rw [this]; simp [cellsR]
    exact ⟨(e 0).trans h1, (e 1).trans h2, (e 2).trans h3⟩

/-- A slice that reads as rows. -/
structure RowsR (w : World) (B : Nat) (A : Option Addr) (n c : Nat) (l : List TRow) : Prop where
  reads : Reads w B 3 A n (cellsR l)
  len : l.length = n
  fine : ∀ r ∈ l, AreB r.raw ∧ r.raw.length ≤ 100000 ∧ r.at_ ≤ 1099511627776 ∧ (r.k = 1 ∨ r.k = 2)
  most : n ≤ 1000
theorem RowsR.at_ {w : World} {B n c : Nat} {A : Option Addr} {l : List TRow} (h : RowsR w B A n c l) {i : Nat} (hi : i < n) :
    ∃ b off r, A = some ⟨b, off, none⟩ ∧ b < B ∧ l[i]? = some r ∧ w.cell? ⟨b, off + i * 3, none⟩ = some (.int .i64 (r.k : Nat)) ∧ w.cell? ⟨b, off + i * 3 + 1, none⟩ = some (.string (strOfNums r.raw)) ∧ w.cell? ⟨b, off + i * 3 + 2, none⟩ = some (.int .i64 (r.at_ : Nat)) := by
  have hl : i < l.length := by rw [h.len]; exact hi
  obtain ⟨h1, h2, h3⟩ := cellsR_at l i l[i] (List.getElem?_eq_getElem hl)
  obtain ⟨b, off, e, hb, hc⟩ := h.reads.at2 (by omega) (by omega)
  exact ⟨b, off, l[i], e, hb, List.getElem?_eq_getElem hl, hc _ _ h1, by have := hc _ _ h2; rwa [← Nat.add_assoc] at this, by have := hc _ _ h3; rwa [← Nat.add_assoc] at this⟩

theorem findR_none {l : List TRow} {k : Nat} {zs : List Int} (h : ∀ r ∈ l, ¬ (r.k = k ∧ r.raw = zs)) : findR l k zs = none := by
  unfold findR
  rw [List.find?_eq_none.2 (fun r hr => by have := h r hr; simp; intro e1 e2; exact this ⟨e1, e2⟩)]; rfl
theorem findR_at {l : List TRow} {k i : Nat} {zs : List Int} {r : TRow} (h : ∀ q ∈ l.take i, ¬ (q.k = k ∧ q.raw = zs)) (hi : l[i]? = some r) (h1 : r.k = k) (h2 : r.raw = zs) : findR l k zs = some r.at_ := by
  obtain ⟨hl, e⟩ := List.getElem?_eq_some_iff.1 hi
  have e2 : l = l.take i ++ r :: l.drop (i + 1) := by rw [← e, ← List.drop_eq_getElem_cons hl, List.take_append_drop]
  unfold findR
  rw [e2, List.find?_append, List.find?_eq_none.2 (fun q hq => by have := h q hq; simp; intro e1 e2; exact this ⟨e1, e2⟩), List.find?_cons]
  simp [h1, h2]

set_option maxHeartbeats 1000000 in
theorem rfind_any {B n c : Nat} {A : Option Addr} {l : List TRow} (kd : Nat) (zs : List Int) (w : World) (h : RowsR w B A n c l) (hz : AreB zs) (hk : kd ≤ 1000) :
    Calls Try.prog 16 #[.slice A n c, .int .i64 kd, .string (strOfNums zs)] w fun e w' => e = .returned (.tuple #[.int .i64 ((findR l kd zs).getD 0 : Nat), .bool (findR l kd zs).isSome]) ∧ w = w' := by
  have hmost := h.most
  have hlen := h.len
  go_enter Try.func16, Try.ntmps16
  go_wp2
  go_loopw [8] (fun i wr => ∃ j : Nat, i = .int .i64 j ∧ j ≤ n ∧ Hid (∀ q ∈ l.take j, ¬ (q.k = kd ∧ q.raw = zs)) ∧ w = wr) (fun i _ => n - (intOf i).toNat)
  case atStart => exact ⟨0, rfl, Nat.zero_le _, Lib.hid (by simp), rfl⟩
  case round =>
    obtain ⟨j, rfl, hj, hno, rfl⟩ := hrel
    by_cases hlt : j < n
    · obtain ⟨b, off, r, rfl, hb, hr, c0, c1, c2⟩ := h.at_ hlt
      have hf := h.fine r (List.mem_of_getElem? hr)
      have HR := Lib.hid hr
      have hbq := strOfNums_beq hf.1 hz
      have hstep : ¬ (r.k = kd ∧ r.raw = zs) → Hid (∀ q ∈ l.take (j + 1), ¬ (q.k = kd ∧ q.raw = zs)) := fun hn => Lib.hid (fun q hq => by
        have hl : j < l.length := by omega
        rw [List.take_succ_eq_append_getElem hl] at hq
        rcases List.mem_append.1 hq with hq | hq
        · exact hno.out q hq
        · rw [List.getElem?_eq_getElem hl] at hr
          injection hr with hr
          rw [List.mem_singleton.1 hq, hr]; exact hn)
      obtain ⟨s1, hs1⟩ : ∃ s, strOfNums r.raw = s := ⟨_, rfl⟩
      obtain ⟨s2, hs2⟩ : ∃ s, strOfNums zs = s := ⟨_, rfl⟩
      rw [hs1] at c1 hbq
      rw [hs2] at hbq ⊢
      by_cases e1 : r.k = kd
      · have d1 : ((r.k : Int) == (kd : Int)) = true := by simp; omega
        by_cases e2 : r.raw = zs
        · have d2 : (s1.toList == s2.toList) = true := by rw [hbq]; exact decide_eq_true e2
          have HF := Lib.hid (findR_at hno.out HR.out e1 e2)
          clear hs1 hs2 hbq hstep e1 e2 hno hr hf h
          go_wp2
          go_ret2
          rw [HF.out]
          exact ⟨rfl, rfl⟩
        · have d2 : (s1.toList == s2.toList) = false := by rw [hbq]; exact decide_eq_false e2
          have HS := hstep (fun e => e2 e.2)
          clear hs1 hs2 hbq hstep e1 e2 hno hr hf
          go_wp2
          go_roundw
          case rel => exact ⟨j + 1, by simp, by omega, HS, trivial⟩
          case measure => simp [intOf]; omega
      · have d1 : ((r.k : Int) == (kd : Int)) = false := by simp; omega
        have HS := hstep (fun e => e1 e.1)
        clear hs1 hs2 hbq hstep e1 hno hr hf
        go_wp2
        go_roundw
        case rel => exact ⟨j + 1, by simp, by omega, HS, trivial⟩
        case measure => simp [intOf]; omega
    · have hjn : j = n := by omega
      have HF := Lib.hid (findR_none (l := l) (k := kd) (zs := zs) (fun r hr => hno.out r (by rw [List.take_of_length_le (by omega)]; exact hr)))
      clear hno
      go_wp2
      go_ret2
      rw [HF.out]
      exact ⟨rfl, rfl⟩

theorem rsize_any (kd n : Nat) (w : World) (hk : kd = 1 ∨ kd = 2) (hn : n ≤ 100000) :
    Calls Try.prog 24 #[.int .i64 kd, .int .i64 n] w fun e w' => e = .returned (.int .i64 (tlen kd n : Nat)) ∧ w = w' := by
  rcases hk with rfl | rfl
  · have e : (tlen 1 n : Int) = (56 + (n : Int) + 7) / 8 * 8 := by
      have : frontN ((1 : Nat) : Int) = 56 := rfl
      unfold tlen; rw [this]; omega
    have q1 : Int.tdiv (56 + (n : Int) + 7) 8 = (56 + (n : Int) + 7) / 8 := Int.tdiv_eq_ediv_of_nonneg (by omega)
    rw [e]
    obtain ⟨q, hq⟩ : ∃ q, (56 + (n : Int) + 7) / 8 = q := ⟨_, rfl⟩
    rw [hq] at q1 ⊢
    have hq2 : 0 ≤ q ∧ q ≤ 100000 := by omega
    clear hq e
    go_enter Try.func24, Try.ntmps24
    go_wp2
    go_ret
    exact ⟨rfl, rfl⟩
  · have e : (tlen 2 n : Int) = (40 + (n : Int) + 7) / 8 * 8 := by
      have : frontN ((2 : Nat) : Int) = 40 := rfl
      unfold tlen; rw [this]; omega
    have q1 : Int.tdiv (40 + (n : Int) + 7) 8 = (40 + (n : Int) + 7) / 8 := Int.tdiv_eq_ediv_of_nonneg (by omega)
    rw [e]
    obtain ⟨q, hq⟩ : ∃ q, (40 + (n : Int) + 7) / 8 = q := ⟨_, rfl⟩
    rw [hq] at q1 ⊢
    have hq2 : 0 ≤ q ∧ q ≤ 100000 := by omega
    clear hq e
    go_enter Try.func24, Try.ntmps24
    go_wp2
    go_ret
    exact ⟨rfl, rfl⟩

end Go.Proofs.Ytkaepikjklpmaaa
