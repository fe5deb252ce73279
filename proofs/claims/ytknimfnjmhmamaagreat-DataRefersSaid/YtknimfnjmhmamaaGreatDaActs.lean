/-
  LAYER 15: acts that came in (a number and a step), and what a walk is told of a slice of them.
-/
import Derived.Test.YtknimfnjmhmamaaGreatDaRefS
import Derived.Laws.IdiomStrings
import Derived.OpenShut
import Derived.Deep.Slices
import Derived.Deep.Grids
set_option linter.unusedVariables false
set_option maxRecDepth 100000
set_option linter.unusedSimpArgs false
namespace Go.Proofs.YtknimfnjmhmamaaGreat
open Go.RowKit Go.ChangeShapes Go.WideShapes Go.Deep

structure AC where
  it : Int
  st : Int
/-- What a walk is told of a slice of them. -/
structure InAC (w : World) (A : Option Addr) (len cap : Nat) (l : List AC) : Prop where
  length : l.length = len
  le : len ≤ cap
  cap : cap ≤ 9223372036854775807
  ok : ∀ a ∈ l, (0 ≤ a.it ∧ a.it < 256) ∧ (0 ≤ a.st ∧ a.st < 65536)
  cells : 0 < len → ∃ b off, A = some ⟨b, off, none⟩ ∧ b < w.heap.size ∧ ∀ i a, l[i]? = some a → w.cell? ⟨b, off + i * 2, none⟩ = some (.int .u8 a.it) ∧ w.cell? ⟨b, off + (i * 2 + 1), none⟩ = some (.int .u16 a.st)

section
variable {H : Type} {enc : TypeId × Value → H} {P : Program} {w : World}
theorem ac_fields {e : TypeId} {f0 f1 : Field} {fuel : Nat} {v0 v1 : Value} {x : DataW H × List MemPlace} (he : P.underlying e = some (.struct #[f0, f1])) (o0 : f0.offset = 0) (o1 : f1.offset = 1) (c0 : P.cellsOf f0.type = 1) (c1 : P.cellsOf f1.type = 1)
    (h0 : P.underlying f0.type = some (.int .u8)) (h1 : P.underlying f1.type = some (.int .u16)) (hf : DataW.trod enc P w 0 (fun _ => true) true fuel e [v0, v1] = some x) : ∃ a : AC, ((0 ≤ a.it ∧ a.it < 256) ∧ (0 ≤ a.st ∧ a.st < 65536)) ∧ v0 = .int .u8 a.it ∧ v1 = .int .u16 a.st := by
  obtain ⟨xs, n', _, _, _, hxl, hfs⟩ := DataW.trod_struct he hf
  have g0 := hfs 0 f0 rfl
  have g1 := hfs 1 f1 rfl
  match xs, hxl with
  | [y0, y1], _ =>
    rw [o0, c0] at g0
    rw [o1, c1] at g1
    simp at g0 g1
    obtain ⟨k0, e0, _, w0⟩ := DataW.trod_int h0 g0
    obtain ⟨k1, e1, _, w1⟩ := DataW.trod_int h1 g1
    injection e0 with e0
    injection e1 with e1
    have b0 := bounds_u8 w0
    have b1 := bounds_u16 w1
    exact ⟨⟨k0, k1⟩, ⟨⟨b0.1, by show k0 < 256; omega⟩, ⟨b1.1, by show k1 < 65536; omega⟩⟩, e0, e1⟩
theorem row_add2a (b off k : Nat) : (⟨b, off, none⟩ : Addr).add k = ⟨b, off + k, none⟩ := by unfold Addr.add; split <;> simp_all
theorem view_acg {t e : TypeId} {f0 f1 : Field} {A : Option Addr} {len cap : Nat} {d : DataW H} {p : List MemPlace} (ht : P.underlying t = some (.slice e)) (he : P.underlying e = some (.struct #[f0, f1])) (ce : P.cellsOf e = 2)
    (o0 : f0.offset = 0) (o1 : f1.offset = 1) (c0 : P.cellsOf f0.type = 1) (c1 : P.cellsOf f1.type = 1) (h0 : P.underlying f0.type = some (.int .u8)) (h1 : P.underlying f1.type = some (.int .u16))
    (h : DataW.Trod enc P w 0 (fun _ => true) true t (.slice A len cap) d p) : ∃ l, InAC w A len cap l := by
  obtain ⟨fuel, hf⟩ := h
  rcases Go.Deep.open_slice ht hf with ⟨hcs, _⟩ | ⟨a, len', cap', m, n, D, Pl, hcs, _, hl, hm, hmm, _, hi⟩
  · simp [Value.cells] at hcs
    obtain ⟨rfl, rfl, rfl⟩ := hcs
    exact ⟨[], { length := rfl, le := Nat.le_refl _, cap := by omega, ok := fun a ha => (List.not_mem_nil ha).elim, cells := fun h => absurd h (by omega) }⟩
  · simp [Value.cells] at hcs
    obtain ⟨rfl, rfl, rfl⟩ := hcs
    have hmc : m = cap := by simpa using hmm
    subst hmc
    rw [ce] at hi
    have each : ∀ i, ∃ r : AC, i < m → ((0 ≤ r.it ∧ r.it < 256) ∧ (0 ≤ r.st ∧ r.st < 65536)) ∧ w.cell? (a.add (i * 2)) = some (.int .u8 r.it) ∧ w.cell? (a.add (i * 2 + 1)) = some (.int .u16 r.st) := by
      intro i
      by_cases him : i < m
      · obtain ⟨cs, hcc, ht'⟩ := hi i him
        obtain ⟨_, hlen, hget⟩ := World.cells?_some hcc
        match cs, hlen with
        | [v0, v1], _ =>
          obtain ⟨r, hr, rfl, rfl⟩ := ac_fields he o0 o1 c0 c1 h0 h1 ht'
          refine ⟨r, fun _ => ⟨hr, ?_, ?_⟩⟩
          · have := hget 0 (by omega); rwa [Addr.add_add] at this
          · have := hget 1 (by omega); rwa [Addr.add_add] at this
      · exact ⟨⟨0, 0⟩, fun h => absurd h him⟩
    obtain ⟨f, hfa⟩ := Classical.axiomOfChoice each
    refine ⟨(List.range len).map f, by simp, hl, by unfold maxLen at hm; omega, fun x hx => ?_, fun hn => ?_⟩
    · obtain ⟨i, hi, rfl⟩ := List.mem_map.1 hx
      exact (hfa i (by have := List.mem_range.1 hi; omega)).1
    · obtain ⟨b, off, spot⟩ := a
      have z0 := (hfa 0 (by omega)).2.1
      have hs : spot = none := by simpa [Addr.add] using World.cell?_spot z0
      subst hs
      refine ⟨b, off, rfl, ?_, fun i r hr => ?_⟩
      · rw [row_add2a] at z0
        exact World.block_lt_of_cell? w _ z0
      · have hil : i < len := by
          rcases Nat.lt_or_ge i len with h | h
          · exact h
          · rw [List.getElem?_eq_none (by simpa using h)] at hr; cases hr
        simp [hil] at hr
        subst hr
        have := (hfa i (by omega)).2
        rwa [row_add2a, row_add2a] at this
theorem view_ac {A : Option Addr} {len cap : Nat} {d : DataW H} {p : List MemPlace} (h : DataW.Trod enc Tryz.prog w 0 (fun _ => true) true 23 (.slice A len cap) d p) : ∃ l, InAC w A len cap l :=
  view_acg Tryz.underlying23 Tryz.underlying37 (by kernel_rfl) rfl rfl (by kernel_rfl) (by kernel_rfl) Tryz.underlying5 Tryz.underlying35 h
end

/-- The k-th act, as a round loads it. -/
theorem InAC.at_ {w wr : World} {A : Option Addr} {len cap k : Nat} {l : List AC} (h : InAC w A len cap l) (hb : Below w.heap.size w wr) (hk : k < len) :
    ∃ (b off : Nat) (a : AC), A = some ⟨b, off, none⟩ ∧ b < w.heap.size ∧ ((0 ≤ a.it ∧ a.it < 256) ∧ (0 ≤ a.st ∧ a.st < 65536)) ∧ wr.cell? ⟨b, off + k * 2, none⟩ = some (.int .u8 a.it) ∧ wr.cell? ⟨b, off + k * 2 + 1, none⟩ = some (.int .u16 a.st) := by
  obtain ⟨a, ha⟩ : ∃ a, l[k]? = some a := ⟨_, List.getElem?_eq_getElem (by rw [h.length]; exact hk)⟩
  obtain ⟨b, off, rfl, hbB, hc⟩ := h.cells (by omega)
  obtain ⟨h0, h1⟩ := hc k a ha
  have g : ∀ o, wr.cell? ⟨b, o, none⟩ = w.cell? ⟨b, o, none⟩ := fun o => hb.cell (p := ⟨b, o, none⟩) hbB
  exact ⟨b, off, a, rfl, hbB, h.ok a (List.mem_of_getElem? ha), (g _).trans h0, (g _).trans h1⟩

end Go.Proofs.YtknimfnjmhmamaaGreat
