/-
  LAYER 12: HOW THE ACTS THAT CAME IN ARE OPENED: a slice of structs of three numbers and an object.
-/
import Derived.Test.YthdnjjdlhhapbaaImAct
import Derived.OpenShut
import Derived.Deep.Slices
import Derived.Deep.Grids
set_option linter.unusedVariables false
set_option maxRecDepth 100000
namespace Go.Proofs.Ythdnjjdlhhapbaa
open Go.RowKit Go.ChangeShapes Go.WideShapes Go.Deep

theorem row_add12 (b off k : Nat) : (⟨b, off, none⟩ : Addr).add k = ⟨b, off + k, none⟩ := by unfold Addr.add; split <;> simp_all

structure ActIOk (w : World) (a : ActI) : Prop where
  kind : (Lit.int .i64 a.kind).wf = true
  at_ : (Lit.int .i64 a.at_).wf = true
  n : (Lit.int .u64 a.n).wf = true
  ok : (Lit.int .i64 a.ok).wf = true
  wi : InInts w .u64 a.A1 a.n1 a.c1 a.ws
  ri : InInts w .u8 a.A2 a.n2 a.c2 a.rs
  ii : InInts w .u64 a.A3 a.n3 a.c3 a.is

theorem ActAt.of {w0 w : World} {a : ActI} (h : ActIOk w0 a) (hb : Below w0.heap.size w0 w) : ActAt w w0.heap.size a := by
  have b1 := bounds_i64 h.kind
  have b2 := bounds_i64 h.at_
  have b3 := wf_u64_bd h.n
  exact ⟨b1.1, b1.2, b2.1, b2.2, b3, ⟨h.wi.reads.below hb, h.ri.reads.below hb, h.ii.reads.below hb, ⟨h.wi.le, h.wi.cap⟩, ⟨h.ri.le, h.ri.cap⟩, ⟨h.ii.le, h.ii.cap⟩⟩, fun z hz => wf_u8_bd (h.ri.wf z hz), fun z hz => wf_u64_bd (h.wi.wf z hz), fun z hz => wf_u64_bd (h.ii.wf z hz)⟩
theorem ActIOk.bytes {w : World} {a : ActI} (h : ActIOk w a) : AreB a.rs := fun z hz => wf_u8_bd (h.ri.wf z hz)

/-- What a walk is told of a slice of acts that came in. -/
structure InActsI (w : World) (A : Option Addr) (len cap : Nat) (l : List ActI) : Prop where
  length : l.length = len
  le : len ≤ cap
  cap : cap ≤ 9223372036854775807
  ok : ∀ a ∈ l, ActIOk w a
  cells : 0 < len → ∃ b off, A = some ⟨b, off, none⟩ ∧ b < w.heap.size ∧ ∀ i a, l[i]? = some a →
    w.cell? ⟨b, off + i * 7, none⟩ = some (.int .i64 a.kind) ∧ w.cell? ⟨b, off + (i * 7 + 1), none⟩ = some (.int .i64 a.at_) ∧ w.cell? ⟨b, off + (i * 7 + 2), none⟩ = some (.int .u64 a.n) ∧ w.cell? ⟨b, off + (i * 7 + 3), none⟩ = some (.int .i64 a.ok) ∧
    w.cell? ⟨b, off + (i * 7 + 4), none⟩ = some (.slice a.A1 a.n1 a.c1) ∧ w.cell? ⟨b, off + (i * 7 + 5), none⟩ = some (.slice a.A2 a.n2 a.c2) ∧ w.cell? ⟨b, off + (i * 7 + 6), none⟩ = some (.slice a.A3 a.n3 a.c3)

section
variable {H : Type} {enc : TypeId × Value → H} {P : Program} {w : World}
theorem view_actsI {t e e8 e64 : TypeId} {f0 f1 f2 f3 g0 g1 g2 g3 : Field} {A : Option Addr} {len cap : Nat} {d : DataW H} {p : List MemPlace} (ht : P.underlying t = some (.slice e)) (he : P.underlying e = some (.struct #[f0, f1, f2, f3])) (ce : P.cellsOf e = 7)
    (o0 : f0.offset = 0) (o1 : f1.offset = 1) (o2 : f2.offset = 2) (o3 : f3.offset = 3) (c0 : P.cellsOf f0.type = 1) (c1 : P.cellsOf f1.type = 1) (c2 : P.cellsOf f2.type = 1) (c3 : P.cellsOf f3.type = 4)
    (h0 : P.underlying f0.type = some (.int .i64)) (h1 : P.underlying f1.type = some (.int .i64)) (h2 : P.underlying f2.type = some (.int .u64)) (h3 : P.underlying f3.type = some (.struct #[g0, g1, g2, g3]))
    (q0 : g0.offset = 0) (q1 : g1.offset = 1) (q2 : g2.offset = 2) (q3 : g3.offset = 3) (d0 : P.cellsOf g0.type = 1) (d1 : P.cellsOf g1.type = 1) (d2 : P.cellsOf g2.type = 1) (d3 : P.cellsOf g3.type = 1)
    (k0 : P.underlying g0.type = some (.int .i64)) (k1 : P.underlying g1.type = some (.slice e64)) (k2 : P.underlying g2.type = some (.slice e8)) (k3 : P.underlying g3.type = some (.slice e64))
    (h8 : P.underlying e8 = some (.int .u8)) (h64 : P.underlying e64 = some (.int .u64)) (c8 : P.cellsOf e8 = 1) (c64 : P.cellsOf e64 = 1)
    (h : DataW.Trod enc P w 0 (fun _ => true) true t (.slice A len cap) d p) : ∃ l, InActsI w A len cap l := by
  obtain ⟨fuel, hf⟩ := h
  rcases open_slice ht hf with ⟨hcs, _⟩ | ⟨a, len', cap', m, n, D, Pl, hcs, _, hl, hm, hmm, _, hi⟩
  · simp [Value.cells] at hcs
    obtain ⟨rfl, rfl, rfl⟩ := hcs
    exact ⟨[], { length := rfl, le := Nat.le_refl _, cap := by omega, ok := fun a ha => (List.not_mem_nil ha).elim, cells := fun h => absurd h (by omega) }⟩
  · simp [Value.cells] at hcs
    obtain ⟨rfl, rfl, rfl⟩ := hcs
    have hmc : m = cap := by simpa using hmm
    subst hmc
    rw [ce] at hi
    have each : ∀ i, ∃ r : ActI, i < m → ActIOk w r ∧ w.cell? (a.add (i * 7)) = some (.int .i64 r.kind) ∧ w.cell? (a.add (i * 7 + 1)) = some (.int .i64 r.at_) ∧ w.cell? (a.add (i * 7 + 2)) = some (.int .u64 r.n) ∧ w.cell? (a.add (i * 7 + 3)) = some (.int .i64 r.ok) ∧
        w.cell? (a.add (i * 7 + 4)) = some (.slice r.A1 r.n1 r.c1) ∧ w.cell? (a.add (i * 7 + 5)) = some (.slice r.A2 r.n2 r.c2) ∧ w.cell? (a.add (i * 7 + 6)) = some (.slice r.A3 r.n3 r.c3) := by
      intro i
      by_cases him : i < m
      · obtain ⟨cs, hcc, ht'⟩ := hi i him
        obtain ⟨_, hlen, hget⟩ := World.cells?_some hcc
        obtain ⟨xs, n', _, _, _, hxl, hfs⟩ := DataW.trod_struct he ht'
        match cs, hlen with
        | [v0, v1, v2, v3, v4, v5, v6], _ =>
          have y0 := hfs 0 f0 rfl
          have y1 := hfs 1 f1 rfl
          have y2 := hfs 2 f2 rfl
          have y3 := hfs 3 f3 rfl
          match xs, hxl with
          | [x0, x1, x2, x3], _ =>
            rw [o0, c0] at y0
            rw [o1, c1] at y1
            rw [o2, c2] at y2
            rw [o3, c3] at y3
            simp at y0 y1 y2 y3
            obtain ⟨kk0, e0, _, w0⟩ := DataW.trod_int h0 y0
            obtain ⟨kk1, e1, _, w1⟩ := DataW.trod_int h1 y1
            obtain ⟨kk2, e2, _, w2⟩ := DataW.trod_int h2 y2
            obtain ⟨us, n2', _, _, _, hul, hgs⟩ := DataW.trod_struct h3 y3
            have z0 := hgs 0 g0 rfl
            have z1 := hgs 1 g1 rfl
            have z2 := hgs 2 g2 rfl
            have z3 := hgs 3 g3 rfl
            match us, hul with
            | [u0, u1, u2, u3], _ =>
              rw [q0, d0] at z0
              rw [q1, d1] at z1
              rw [q2, d2] at z2
              rw [q3, d3] at z3
              simp at z0 z1 z2 z3
              obtain ⟨kk3, e3, _, w3⟩ := DataW.trod_int k0 z0
              obtain ⟨A4, l4, p4, s4, e4, i4⟩ := view_cells k1 h64 c64 z1
              obtain ⟨A5, l5, p5, s5, e5, i5⟩ := view_cells k2 h8 c8 z2
              obtain ⟨A6, l6, p6, s6, e6, i6⟩ := view_cells k3 h64 c64 z3
              injection e0 with e0
              injection e1 with e1
              injection e2 with e2
              injection e3 with e3
              injection e4 with e4
              injection e5 with e5
              injection e6 with e6
              subst e0; subst e1; subst e2; subst e3; subst e4; subst e5; subst e6
              refine ⟨⟨kk0, kk1, kk2, kk3, A4, l4, p4, s4, A5, l5, p5, s5, A6, l6, p6, s6⟩, fun _ => ⟨⟨w0, w1, w2, w3, i4, i5, i6⟩, ?_, ?_, ?_, ?_, ?_, ?_, ?_⟩⟩
              · have := hget 0 (by omega); rwa [add_of_add] at this
              · have := hget 1 (by omega); rwa [add_of_add] at this
              · have := hget 2 (by omega); rwa [add_of_add] at this
              · have := hget 3 (by omega); rwa [add_of_add] at this
              · have := hget 4 (by omega); rwa [add_of_add] at this
              · have := hget 5 (by omega); rwa [add_of_add] at this
              · have := hget 6 (by omega); rwa [add_of_add] at this
      · exact ⟨⟨0, 0, 0, 0, none, 0, 0, [], none, 0, 0, [], none, 0, 0, []⟩, fun h => absurd h him⟩
    obtain ⟨f, hfa⟩ := Classical.axiomOfChoice each
    refine ⟨(List.range len).map f, by simp, hl, by unfold maxLen at hm; omega, fun x hx => ?_, fun hn => ?_⟩
    · obtain ⟨i, hi, rfl⟩ := List.mem_map.1 hx
      exact (hfa i (by have := List.mem_range.1 hi; omega)).1
    · obtain ⟨b, off, spot⟩ := a
      have z0 := (hfa 0 (by omega)).2.1
      have hs : spot = none := by simpa [Addr.add] using World.cell?_spot z0
      subst hs
      refine ⟨b, off, rfl, ?_, fun i r hr => ?_⟩
      · rw [row_add12] at z0
        exact World.block_lt_of_cell? w _ z0
      · have hil : i < len := by
          rcases Nat.lt_or_ge i len with h | h
          · exact h
          · rw [List.getElem?_eq_none (by simpa using h)] at hr; cases hr
        simp [hil] at hr
        subst hr
        have := (hfa i (by omega)).2
        rwa [row_add12, row_add12, row_add12, row_add12, row_add12, row_add12, row_add12] at this

theorem actsI_view {A : Option Addr} {len cap : Nat} {d : DataW H} {p : List MemPlace}
    (h : DataW.Trod enc Try.prog w 0 (fun _ => true) true 23 (.slice A len cap) d p) : ∃ l, InActsI w A len cap l :=
  view_actsI Try.underlying23 Try.underlying43 (by kernel_rfl) rfl rfl rfl rfl (by kernel_rfl) (by kernel_rfl) (by kernel_rfl) (by kernel_rfl) Try.underlying3 Try.underlying3 Try.underlying25 Try.underlying41
    rfl rfl rfl rfl (by kernel_rfl) (by kernel_rfl) (by kernel_rfl) (by kernel_rfl) Try.underlying3 Try.underlying38 Try.underlying39 Try.underlying38 Try.underlying5 Try.underlying25 (by kernel_rfl) (by kernel_rfl) h
end

/-- The k-th act, as a round loads it. -/
theorem InActsI.at_ {w wr : World} {A : Option Addr} {len cap k : Nat} {l : List ActI} (h : InActsI w A len cap l) (hb : Below w.heap.size w wr) (hk : k < len) :
    ∃ b off a, A = some ⟨b, off, none⟩ ∧ b < w.heap.size ∧ a ∈ l ∧ ActIOk w a ∧ wr.cell? ⟨b, off + k * 7, none⟩ = some (.int .i64 a.kind) ∧ wr.cell? ⟨b, off + k * 7 + 1, none⟩ = some (.int .i64 a.at_) ∧ wr.cell? ⟨b, off + k * 7 + 2, none⟩ = some (.int .u64 a.n) ∧ wr.cell? ⟨b, off + k * 7 + 3, none⟩ = some (.int .i64 a.ok) ∧
      wr.cell? ⟨b, off + k * 7 + 4, none⟩ = some (.slice a.A1 a.n1 a.c1) ∧ wr.cell? ⟨b, off + k * 7 + 5, none⟩ = some (.slice a.A2 a.n2 a.c2) ∧ wr.cell? ⟨b, off + k * 7 + 6, none⟩ = some (.slice a.A3 a.n3 a.c3) := by
  obtain ⟨a, ha⟩ : ∃ a, l[k]? = some a := ⟨_, List.getElem?_eq_getElem (by rw [h.length]; exact hk)⟩
  obtain ⟨b, off, rfl, hbB, hc⟩ := h.cells (by omega)
  obtain ⟨h0, h1, h2, h3, h4, h5, h6⟩ := hc k a ha
  have g : ∀ o, wr.cell? ⟨b, o, none⟩ = w.cell? ⟨b, o, none⟩ := fun o => hb.cell (p := ⟨b, o, none⟩) hbB
  exact ⟨b, off, a, rfl, hbB, List.mem_of_getElem? ha, h.ok a (List.mem_of_getElem? ha), (g _).trans h0, (g _).trans h1, (g _).trans h2, (g _).trans h3, (g _).trans h4, (g _).trans h5, (g _).trans h6⟩

/-- The cells of an act, later. -/
theorem act_cells7 {w w' : World} {b o : Nat} {u0 u1 u2 u3 u4 u5 u6 : Value} (h0 : w.cell? ⟨b, o, none⟩ = some u0) (h1 : w.cell? ⟨b, o + 1, none⟩ = some u1) (h2 : w.cell? ⟨b, o + 2, none⟩ = some u2) (h3 : w.cell? ⟨b, o + 3, none⟩ = some u3) (h4 : w.cell? ⟨b, o + 4, none⟩ = some u4) (h5 : w.cell? ⟨b, o + 5, none⟩ = some u5) (h6 : w.cell? ⟨b, o + 6, none⟩ = some u6) (hb : Below w.heap.size w w') :
    w'.cell? ⟨b, o, none⟩ = some u0 ∧ w'.cell? ⟨b, o + 1, none⟩ = some u1 ∧ w'.cell? ⟨b, o + 2, none⟩ = some u2 ∧ w'.cell? ⟨b, o + 3, none⟩ = some u3 ∧ w'.cell? ⟨b, o + 4, none⟩ = some u4 ∧ w'.cell? ⟨b, o + 5, none⟩ = some u5 ∧ w'.cell? ⟨b, o + 6, none⟩ = some u6 := by
  have hl : b < w.heap.size := World.block_lt_of_cell? w _ h0
  exact ⟨(hb.cell (p := ⟨b, _, none⟩) hl).trans h0, (hb.cell (p := ⟨b, _, none⟩) hl).trans h1, (hb.cell (p := ⟨b, _, none⟩) hl).trans h2, (hb.cell (p := ⟨b, _, none⟩) hl).trans h3, (hb.cell (p := ⟨b, _, none⟩) hl).trans h4, (hb.cell (p := ⟨b, _, none⟩) hl).trans h5, (hb.cell (p := ⟨b, _, none⟩) hl).trans h6⟩

end Go.Proofs.Ythdnjjdlhhapbaa
