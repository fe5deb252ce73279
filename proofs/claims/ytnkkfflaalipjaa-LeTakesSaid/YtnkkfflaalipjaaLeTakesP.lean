/-
  LeTakes: a reader beside a place in the bytes: what each method does to both.
-/
import Derived.Test.YtnkkfflaalipjaaLeBackP
import Derived.Test.YtnkkfflaalipjaaLeActs
set_option linter.unusedVariables false
set_option linter.unusedSimpArgs false
namespace Go.Proofs.Ytnkkfflaalipjaa
open Go.RowKit

/-- The reader stands at place pos of bs, or has become bad there. -/
def TS (w0 : World) (B g : Nat) (bs : List Int) (pos : Nat) (bad : Bool) (wr : World) : Prop :=
  pos ≤ bs.length ∧ ∃ A n c, RB w0 B g pos A n c (if bad then [] else bs.drop pos) bad wr

theorem TS.bel {w0 wr : World} {B g pos : Nat} {bs : List Int} {bad : Bool} (h : TS w0 B g bs pos bad wr) : Below w0.heap.size w0 wr := by
  obtain ⟨_, A, n, c, hr⟩ := h
  exact hr.bel
theorem TS.below {w0 wr wy : World} {B g pos : Nat} {bs : List Int} {bad : Bool} (h : TS w0 B g bs pos bad wr) (hb : Below wr.heap.size wr wy) : TS w0 B g bs pos bad wy := by
  obtain ⟨hp, A, n, c, hr⟩ := h
  exact ⟨hp, A, n, c, hr.below hb⟩
theorem TS.len {w0 wr : World} {B g pos : Nat} {bs : List Int} {bad : Bool} (h : TS w0 B g bs pos bad wr) : pos ≤ bs.length := h.1

theorem gok_zero (v : Int) : gok 0 0 v = false := by
  by_cases hw : isw v = true
  · have := isw_cases hw
    rw [gok_isw, hw]; simp; omega
  · rw [gok_isw]; simp [hw]
theorem gok_shift {len pos : Nat} (h : pos ≤ len) (v : Int) : gok (len - pos) 0 v = gok len pos v := by
  rw [gok_isw, gok_isw]
  have e : decide ((0 : Int) ≤ (pos : Int)) = decide ((0 : Int) ≤ 0) := by simp
  rw [e]
  congr 1
  rw [decide_eq_decide]; omega

section
variable {w0 wr : World} {B g pos : Nat} {bs : List Int}

theorem num_good (hg : w0.heap.size ≤ g) (hbs : AreB bs) (hl : bs.length ≤ 2000) (v : Int) (h : TS w0 B g bs pos false wr) (hk : gok bs.length pos v = true) :
    Calls Try.prog 23 #[.pointer (some ⟨g, 0, none⟩), .int .i64 v] wr fun e w' => e = .returned (.int .u64 (gnum bs pos v)) ∧ TS w0 B g bs (pos + v.toNat) false w' := by
  obtain ⟨hp, A, n, c, hr⟩ := h
  obtain ⟨j, m, hj, rfl, hw, hjm⟩ := gok_nat hk
  have hj' : j = pos := by omega
  subst hj'
  have hlen := hr.rd.reads.len
  simp only [Bool.false_eq_true, if_false] at hr hlen
  rw [List.length_drop] at hlen
  refine (num_yes B g n c m j A _ false wr hr.rd (hbs.drop j) hw (by omega) (by omega) (by omega)).mono fun e w' ⟨he, hpost⟩ => ?_
  obtain ⟨A', n', c', hr'⟩ := hr.step hg hpost
  refine ⟨?_, by rw [Int.toNat_natCast]; omega, A', n', c', ?_⟩
  · rw [he]; unfold gnum; rw [hk]; simp
  · simp only [Bool.false_eq_true, if_false, Int.toNat_natCast]
    rw [List.drop_drop] at hr'
    exact hr'

theorem num_badT (hg : w0.heap.size ≤ g) (v : Int) (bad : Bool) (h : TS w0 B g bs pos bad wr) (hk : bad = true ∨ gok bs.length pos v = false) (hv : -9223372036854775808 ≤ v) (hv' : v ≤ 9223372036854775807) :
    Calls Try.prog 23 #[.pointer (some ⟨g, 0, none⟩), .int .i64 v] wr fun e w' => e = .returned (.int .u64 0) ∧ TS w0 B g bs pos true w' := by
  obtain ⟨hp, A, n, c, hr⟩ := h
  have hlen := hr.rd.reads.len
  have hgk : gok n 0 v = false := by
    cases bad with
    | true => simp at hlen; subst hlen; exact gok_zero v
    | false =>
      simp at hlen hk
      rw [← hlen, gok_shift hp]; exact hk
  refine (num_no B g n c pos v A _ bad wr hr.rd hgk hv hv').mono fun e w' ⟨he, hpost⟩ => ?_
  obtain ⟨A', n', c', hr'⟩ := hr.step hg hpost
  exact ⟨he, hp, A', n', c', hr'⟩

theorem words_good (hg : w0.heap.size ≤ g) (hbs : AreB bs) (hl : bs.length ≤ 2000) (m : Nat) (h : TS w0 B g bs pos false wr) (hk : 8 * m ≤ bs.length - pos) :
    Calls Try.prog 24 #[.pointer (some ⟨g, 0, none⟩), .int .i64 m] wr fun e w' => ∃ A1 c1, e = .returned (.slice A1 m c1) ∧ Reads w' w'.heap.size 1 A1 m (cellsOf .u64 (wrds m (bs.drop pos))) ∧ TS w0 B g bs (pos + 8 * m) false w' := by
  obtain ⟨hp, A, n, c, hr⟩ := h
  have hlen := hr.rd.reads.len
  simp only [Bool.false_eq_true, if_false] at hr hlen
  rw [List.length_drop] at hlen
  refine (rwords_at B g n c m pos m A _ false wr hr.rd (hbs.drop pos) rfl (by omega) (by omega) (by omega) (by omega)).mono fun e w' ⟨A1, c1, he, hR, hpost⟩ => ?_
  obtain ⟨A', n', c', hr'⟩ := hr.step hg hpost
  refine ⟨A1, c1, he, hR, by omega, A', n', c', ?_⟩
  simp only [Bool.false_eq_true, if_false]
  rw [List.drop_drop] at hr'
  have e1 : ((pos + 8 * m : Nat) : Int) = (pos : Int) + 8 * (m : Int) := by omega
  rw [e1]
  exact hr'

theorem words_badT (hg : w0.heap.size ≤ g) (hl : bs.length ≤ 2000) (m : Nat) (bad : Bool) (h : TS w0 B g bs pos bad wr) (hk : bad = true ∨ bs.length - pos < 8 * m) :
    Calls Try.prog 24 #[.pointer (some ⟨g, 0, none⟩), .int .i64 m] wr fun e w' => ∃ A1 c1, e = .returned (.slice A1 0 c1) ∧ TS w0 B g bs pos true w' := by
  obtain ⟨hp, A, n, c, hr⟩ := h
  have hlen := hr.rd.reads.len
  by_cases h0 : (n : Int) / 8 < (m : Int)
  · refine (rwords_no B g n c pos m A _ bad wr hr.rd (.inr h0)).mono fun e w' ⟨he, hpost⟩ => ?_
    obtain ⟨A', n', c', hr'⟩ := hr.step hg hpost
    exact ⟨none, 0, he, hp, A', n', c', hr'⟩
  · cases bad with
    | false => simp at hlen hk; omega
    | true =>
      simp at hlen hr
      subst hlen
      have hm : m = 0 := by omega
      subst hm
      refine (rwords_at B g 0 c 0 pos (0 : Nat) A [] true wr hr.rd AreB.nil rfl (by omega) (by omega) (by omega) (by omega)).mono fun e w' ⟨A1, c1, he, hR, hpost⟩ => ?_
      obtain ⟨A', n', c', hr'⟩ := hr.step hg hpost
      exact ⟨A1, c1, he, hp, A', n', c', by simpa using hr'⟩

theorem raw_good (hg : w0.heap.size ≤ g) (hl : bs.length ≤ 2000) (v : Int) (m : Nat) (h : TS w0 B g bs pos false wr) (hv : v = m) (hk : m ≤ bs.length - pos) :
    Calls Try.prog 26 #[.pointer (some ⟨g, 0, none⟩), .int .i64 v] wr fun e w' => ∃ A1 c1, e = .returned (.slice A1 m c1) ∧ Reads w' w'.heap.size 1 A1 m (cellsOf .u8 ((bs.drop pos).take m)) ∧ TS w0 B g bs (pos + m) false w' := by
  obtain ⟨hp, A, n, c, hr⟩ := h
  have hlen := hr.rd.reads.len
  simp only [Bool.false_eq_true, if_false] at hr hlen
  rw [List.length_drop] at hlen
  refine (rraw_at B g n c m pos v A _ false wr hr.rd hv (by omega) (by omega) (by omega) (by omega)).mono fun e w' ⟨A1, c1, he, hR, hpost⟩ => ?_
  obtain ⟨A', n', c', hr'⟩ := hr.step hg hpost
  refine ⟨A1, c1, he, hR, by omega, A', n', c', ?_⟩
  simp only [Bool.false_eq_true, if_false]
  rw [List.drop_drop] at hr'
  have e1 : ((pos + m : Nat) : Int) = (pos : Int) + (m : Int) := by omega
  rw [e1]
  exact hr'

theorem raw_badT (hg : w0.heap.size ≤ g) (hl : bs.length ≤ 2000) (v : Int) (m : Nat) (bad : Bool) (h : TS w0 B g bs pos bad wr) (hv : v = m) (hk : bad = true ∨ bs.length - pos < m) :
    Calls Try.prog 26 #[.pointer (some ⟨g, 0, none⟩), .int .i64 v] wr fun e w' => ∃ A1 c1, e = .returned (.slice A1 0 c1) ∧ TS w0 B g bs pos true w' := by
  obtain ⟨hp, A, n, c, hr⟩ := h
  have hlen := hr.rd.reads.len
  by_cases h0 : (n : Int) < (m : Int)
  · refine (rraw_no B g n c pos v A _ bad wr hr.rd (.inr (by omega))).mono fun e w' ⟨he, hpost⟩ => ?_
    obtain ⟨A', n', c', hr'⟩ := hr.step hg hpost
    exact ⟨none, 0, he, hp, A', n', c', hr'⟩
  · cases bad with
    | false => simp at hlen hk; omega
    | true =>
      simp at hlen hr
      subst hlen
      have hm : m = 0 := by omega
      subst hm
      refine (rraw_at B g 0 c 0 pos v A [] true wr hr.rd hv (by omega) (by omega) (by omega) (by omega)).mono fun e w' ⟨A1, c1, he, hR, hpost⟩ => ?_
      obtain ⟨A', n', c', hr'⟩ := hr.step hg hpost
      exact ⟨A1, c1, he, hp, A', n', c', by simpa using hr'⟩

theorem tat_any (bad : Bool) (h : TS w0 B g bs pos bad wr) :
    Calls Try.prog 27 #[.pointer (some ⟨g, 0, none⟩)] wr fun e w' => e = .returned (.tuple #[.int .i64 pos, .bool (!bad)]) ∧ Below wr.heap.size wr w' := by
  obtain ⟨hp, A, n, c, hr⟩ := h
  exact at_any B g n c pos A _ bad wr hr.rd
end

theorem read_badT (A : Option Addr) (n c : Nat) (bs : List Int) (v : Int) (w : World) (hg : v < 0 ∨ (n : Int) < v) :
    Calls Try.prog 22 #[.slice A n c, .int .i64 v] w fun e w' => ∃ g B, e = .returned (.pointer (some ⟨g, 0, none⟩)) ∧ w.heap.size ≤ g ∧ TS w B g bs 0 true w' :=
  (read_no A n c v w hg).mono fun e w' ⟨g, B, he, hr, hb, hgg⟩ => ⟨g, B, he, hgg, Nat.zero_le _, none, 0, 0, hr, hb⟩

theorem read_good (A : Option Addr) (n c m : Nat) (bs : List Int) (w : World) (hin : InInts w .u8 A n c bs) (hm : m ≤ n) (hn : n ≤ 2000) :
    Calls Try.prog 22 #[.slice A n c, .int .i64 m] w fun e w' => ∃ g B, e = .returned (.pointer (some ⟨g, 0, none⟩)) ∧ w.heap.size ≤ g ∧ TS w B g bs m false w' :=
  (read_yes A n c m bs w hin.reads (Nat.le_refl _) hin.le hin.cap hm (by omega)).mono fun e w' ⟨g, B, A', c', he, hr, hb, hgg⟩ => ⟨g, B, he, hgg, by have := hin.reads.len; omega, A', n - m, c', hr, hb⟩

theorem ActAt.below {w w' : World} {b off : Nat} {a : ActV} (h : ActAt w b off a) (hb : Below w.heap.size w w') (hbl : b < w.heap.size) : ActAt w' b off a :=
  ⟨(hb.cell (p := ⟨b, off, none⟩) hbl).trans h.c0, (hb.cell (p := ⟨b, off + 1, none⟩) hbl).trans h.c1, (hb.cell (p := ⟨b, off + 2, none⟩) hbl).trans h.c2, (hb.cell (p := ⟨b, off + 3, none⟩) hbl).trans h.c3, (hb.cell (p := ⟨b, off + 4, none⟩) hbl).trans h.c4⟩

end Go.Proofs.Ytnkkfflaalipjaa
