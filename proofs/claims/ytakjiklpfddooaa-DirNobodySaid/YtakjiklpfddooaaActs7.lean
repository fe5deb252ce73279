/-
  HOW A SLICE OF STRUCTS OF A NUMBER, TWO TEXTS, A NUMBER AND BOOLS IS OPENED: what a walk is told of it. Of no program.
-/
import Derived.Test.YtakjiklpfddooaaActs4
set_option linter.unusedVariables false
namespace Go.Proofs.Ytakjiklpfddooaa
open Go.RowKit Go.ChangeShapes Go.WideShapes Go.Deep

structure ActD where
  kind : Int
  a : ByteArray
  b : ByteArray
  id : Int
  K : Option Addr
  m : Nat
  d : Nat
  ks : List Bool

structure ActDOk (w : World) (x : ActD) : Prop where
  kind : (Lit.int .i64 x.kind).wf = true
  a : x.a.size ≤ maxLen
  b : x.b.size ≤ maxLen
  id : (Lit.int .i64 x.id).wf = true
  ks : InBools w x.K x.m x.d x.ks

/-- What a walk is told of a slice of acts that came in. -/
structure InActsD (w : World) (A : Option Addr) (len cap : Nat) (l : List ActD) : Prop where
  length : l.length = len
  le : len ≤ cap
  cap : cap ≤ 9223372036854775807
  ok : ∀ x ∈ l, ActDOk w x
  cells : 0 < len → ∃ b off, A = some ⟨b, off, none⟩ ∧ b < w.heap.size ∧ ∀ i x, l[i]? = some x →
    w.cell? ⟨b, off + i * 5, none⟩ = some (.int .i64 x.kind) ∧ w.cell? ⟨b, off + (i * 5 + 1), none⟩ = some (.string x.a) ∧
    w.cell? ⟨b, off + (i * 5 + 2), none⟩ = some (.string x.b) ∧ w.cell? ⟨b, off + (i * 5 + 3), none⟩ = some (.int .i64 x.id) ∧ w.cell? ⟨b, off + (i * 5 + 4), none⟩ = some (.slice x.K x.m x.d)

section
variable {H : Type} {enc : TypeId × Value → H} {P : Program} {w : World}
theorem view_actsD {t e ek : TypeId} {f0 f1 f2 f3 f4 : Field} {A : Option Addr} {len cap : Nat} {d : DataW H} {p : List MemPlace} (ht : P.underlying t = some (.slice e)) (he : P.underlying e = some (.struct #[f0, f1, f2, f3, f4])) (ce : P.cellsOf e = 5)
    (o0 : f0.offset = 0) (o1 : f1.offset = 1) (o2 : f2.offset = 2) (o3 : f3.offset = 3) (o4 : f4.offset = 4) (c0 : P.cellsOf f0.type = 1) (c1 : P.cellsOf f1.type = 1) (c2 : P.cellsOf f2.type = 1) (c3 : P.cellsOf f3.type = 1) (c4 : P.cellsOf f4.type = 1)
    (h0 : P.underlying f0.type = some (.int .i64)) (h1 : P.underlying f1.type = some .string) (h2 : P.underlying f2.type = some .string) (h3 : P.underlying f3.type = some (.int .i64))
    (h4 : P.underlying f4.type = some (.slice ek)) (hk : P.underlying ek = some .bool) (ck : P.cellsOf ek = 1)
    (h : DataW.Trod enc P w 0 (fun _ => true) true t (.slice A len cap) d p) : ∃ l, InActsD w A len cap l := by
  obtain ⟨fuel, hf⟩ := h
  rcases open_slice ht hf with ⟨hcs, _⟩ | ⟨a, len', cap', m, n, D, Pl, hcs, _, hl, hm, hmm, _, hi⟩
  · simp [Value.cells] at hcs
    obtain ⟨rfl, rfl, rfl⟩ := hcs
    exact ⟨[], { length := rfl, le := Nat.le_refl _, cap := by omega, ok := fun a ha => (List.not_mem_nil ha).elim, cells := fun h => absurd h (by omega) }⟩
  · simp [Value.cells] at hcs
    obtain ⟨rfl, rfl, rfl⟩ := hcs
    have hmc : m = cap := by simpa using hmm
    subst hmc
    rw [ce] at hi
    have each : ∀ i, ∃ r : ActD, i < m → ActDOk w r ∧ w.cell? (a.add (i * 5)) = some (.int .i64 r.kind) ∧ w.cell? (a.add (i * 5 + 1)) = some (.string r.a) ∧
        w.cell? (a.add (i * 5 + 2)) = some (.string r.b) ∧ w.cell? (a.add (i * 5 + 3)) = some (.int .i64 r.id) ∧ w.cell? (a.add (i * 5 + 4)) = some (.slice r.K r.m r.d) := by
      intro i
      by_cases him : i < m
      · obtain ⟨cs, hcc, ht'⟩ := hi i him
        obtain ⟨_, hlen, hget⟩ := World.cells?_some hcc
        obtain ⟨xs, n', _, _, _, hxl, hfs⟩ := DataW.trod_struct he ht'
        match cs, hlen with
        | [v0, v1, v2, v3, v4], _ =>
          have g0 := hfs 0 f0 rfl
          have g1 := hfs 1 f1 rfl
          have g2 := hfs 2 f2 rfl
          have g3 := hfs 3 f3 rfl
          have g4 := hfs 4 f4 rfl
          match xs, hxl with
          | [y0, y1, y2, y3, y4], _ =>
            rw [o0, c0] at g0
            rw [o1, c1] at g1
            rw [o2, c2] at g2
            rw [o3, c3] at g3
            rw [o4, c4] at g4
            simp at g0 g1 g2 g3 g4
            obtain ⟨k0, e0, _, w0⟩ := DataW.trod_int h0 g0
            obtain ⟨k1, e1, _, w1⟩ := DataW.trod_string h1 g1
            obtain ⟨k2, e2, _, w2⟩ := DataW.trod_string h2 g2
            obtain ⟨k3, e3, _, w3⟩ := DataW.trod_int h3 g3
            obtain ⟨A4, l4, p4, z4, e4, i4⟩ := view_bcells h4 hk ck g4
            injection e0 with e0
            injection e1 with e1
            injection e2 with e2
            injection e3 with e3
            injection e4 with e4
            subst e0; subst e1; subst e2; subst e3; subst e4
            refine ⟨⟨k0, k1, k2, k3, A4, l4, p4, z4⟩, fun _ => ⟨⟨w0, w1, w2, w3, i4⟩, ?_, ?_, ?_, ?_, ?_⟩⟩
            · have := hget 0 (by omega); rwa [add_of_add] at this
            · have := hget 1 (by omega); rwa [add_of_add] at this
            · have := hget 2 (by omega); rwa [add_of_add] at this
            · have := hget 3 (by omega); rwa [add_of_add] at this
            · have := hget 4 (by omega); rwa [add_of_add] at this
      · exact ⟨⟨0, ⟨#[]⟩, ⟨#[]⟩, 0, none, 0, 0, []⟩, fun h => absurd h him⟩
    obtain ⟨f, hfa⟩ := Classical.axiomOfChoice each
    refine ⟨(List.range len).map f, by simp, hl, by unfold maxLen at hm; omega, fun x hx => ?_, fun hn => ?_⟩
    · obtain ⟨i, hi, rfl⟩ := List.mem_map.1 hx
      exact (hfa i (by have := List.mem_range.1 hi; omega)).1
    · obtain ⟨b, off, spot⟩ := a
      have z0 := (hfa 0 (by omega)).2.1
      have hs : spot = none := by simpa [Addr.add] using World.cell?_spot z0
      subst hs
      refine ⟨b, off, rfl, ?_, fun i r hr => ?_⟩
      · rw [row_add4] at z0
        exact World.block_lt_of_cell? w _ z0
      · have hil : i < len := by
          rcases Nat.lt_or_ge i len with h | h
          · exact h
          · rw [List.getElem?_eq_none (by simpa using h)] at hr; cases hr
        simp [hil] at hr
        subst hr
        have := (hfa i (by omega)).2
        rwa [row_add4, row_add4, row_add4, row_add4, row_add4] at this
end

end Go.Proofs.Ytakjiklpfddooaa
