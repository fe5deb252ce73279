/-
  HOW A SLICE OF BOOLS, AND A SLICE OF STRUCTS OF TWO NUMBERS, BYTES AND BOOLS, ARE OPENED: what a walk is told of them. Of no program.
-/
import Derived.Test.YtakjiklpfddooaaFrame
import Derived.Deep.Slices
import Derived.Deep.Grids
set_option linter.unusedVariables false
namespace Go.Proofs.Ytakjiklpfddooaa
open Go.RowKit Go.ChangeShapes Go.WideShapes Go.Deep

theorem row_add4 (b off k : Nat) : (⟨b, off, none⟩ : Addr).add k = ⟨b, off + k, none⟩ := by unfold Addr.add; split <;> simp_all

/-- A list of bools, as cells. -/
def cellsB (ks : List Bool) : List Value := ks.map Value.bool
theorem cellsB_length (ks : List Bool) : (cellsB ks).length = ks.length := by simp [cellsB]
theorem cellsB_get {ks : List Bool} {i : Nat} (h : i < ks.length) : (cellsB ks)[i]? = some (.bool (ks.getD i false)) := by
  simp [cellsB, List.getD_eq_getElem?_getD, List.getElem?_eq_getElem h]

/-- What a walk is told of a slice of bools that came in. -/
structure InBools (w : World) (A : Option Addr) (len cap : Nat) (ks : List Bool) : Prop where
  reads : Reads w w.heap.size 1 A len (cellsB ks)
  le : len ≤ cap
  cap : cap ≤ 9223372036854775807
theorem InBools.len {w : World} {A : Option Addr} {len cap : Nat} {ks : List Bool} (h : InBools w A len cap ks) : ks.length = len := by
  have := h.reads.1; rw [cellsB_length] at this; omega
theorem Reads.bools {w : World} {B n : Nat} {A : Option Addr} {ks : List Bool} (h : Reads w B 1 A n (cellsB ks)) (hn : 0 < n) :
    ∃ b off, A = some ⟨b, off, none⟩ ∧ b < B ∧ ∀ i, i < n → w.cell? ⟨b, off + i, none⟩ = some (.bool (ks.getD i false)) := by
  obtain ⟨ad, rfl, hb, hc⟩ := h.2 hn
  have hl : ks.length = n := by have := h.1; rw [cellsB_length] at this; omega
  obtain ⟨b, off, spot⟩ := ad
  have h0 := hc 0 _ (cellsB_get (by omega))
  have hs : spot = none := by simpa [Addr.add] using World.cell?_spot h0
  subst hs
  refine ⟨b, off, rfl, hb, fun i hi => ?_⟩
  have := hc i _ (cellsB_get (by omega))
  rwa [row_add4] at this

structure ActM where
  kind : Int
  at_ : Int
  A : Option Addr
  n : Nat
  c : Nat
  bs : List Int
  K : Option Addr
  m : Nat
  d : Nat
  ks : List Bool

structure ActOk (w : World) (a : ActM) : Prop where
  kind : (Lit.int .i64 a.kind).wf = true
  at_ : (Lit.int .i64 a.at_).wf = true
  bs : InInts w .u8 a.A a.n a.c a.bs
  ks : InBools w a.K a.m a.d a.ks

/-- What a walk is told of a slice of acts that came in. -/
structure InActs (w : World) (A : Option Addr) (len cap : Nat) (l : List ActM) : Prop where
  length : l.length = len
  le : len ≤ cap
  cap : cap ≤ 9223372036854775807
  ok : ∀ a ∈ l, ActOk w a
  cells : 0 < len → ∃ b off, A = some ⟨b, off, none⟩ ∧ b < w.heap.size ∧ ∀ i a, l[i]? = some a →
    w.cell? ⟨b, off + i * 4, none⟩ = some (.int .i64 a.kind) ∧ w.cell? ⟨b, off + (i * 4 + 1), none⟩ = some (.int .i64 a.at_) ∧
    w.cell? ⟨b, off + (i * 4 + 2), none⟩ = some (.slice a.A a.n a.c) ∧ w.cell? ⟨b, off + (i * 4 + 3), none⟩ = some (.slice a.K a.m a.d)

section
variable {H : Type} {enc : TypeId × Value → H} {P : Program} {w : World}
theorem view_bcells {t e : TypeId} {fuel : Nat} {cs : List Value} {x : DataW H × List MemPlace} (ht : P.underlying t = some (.slice e)) (he : P.underlying e = some .bool) (hc : P.cellsOf e = 1)
    (h : DataW.trod enc P w 0 (fun _ => true) true fuel t cs = some x) : ∃ A len cap ks, cs = [.slice A len cap] ∧ InBools w A len cap ks := by
  rcases open_slice1 ht hc h with ⟨hcs, _⟩ | ⟨a, len, cap, m, n, V, D, Pl, hcs, _, hl, hm, hmm, _, hi⟩
  · exact ⟨none, 0, 0, [], hcs, Reads.none_, Nat.le_refl _, by omega⟩
  · have hmc : m = cap := by simpa using hmm
    subst hmc
    have each : ∀ i, ∃ q : Bool, i < m → w.cell? (a.add i) = some (.bool q) := by
      intro i
      by_cases him : i < m
      · obtain ⟨hcl, ht'⟩ := hi i him
        obtain ⟨q, hq, _⟩ := DataW.trod_bool he ht'
        injection hq with hq
        exact ⟨q, fun _ => by rw [hcl, hq]⟩
      · exact ⟨false, fun h => absurd h him⟩
    obtain ⟨f, hf⟩ := Classical.axiomOfChoice each
    refine ⟨some a, len, m, (List.range len).map f, hcs, ⟨?_, fun hn => ⟨a, rfl, ?_, ?_⟩⟩, hl, by unfold maxLen at hm; omega⟩
    · rw [cellsB_length]; simp
    · exact block_of_add a 0 ▸ World.block_lt_of_cell? w _ (hf 0 (by omega))
    · intro j u hu
      have hj : j < len := by
        rcases Nat.lt_or_ge j len with h | h
        · exact h
        · rw [List.getElem?_eq_none (by rw [cellsB_length]; simpa using h)] at hu
          cases hu
      rw [cellsB_get (by simpa using hj)] at hu
      injection hu with hu
      subst hu
      rw [hf j (by omega)]
      simp [List.getD_eq_getElem?_getD, hj]
theorem view_bools {t e : TypeId} {A : Option Addr} {len cap : Nat} {d : DataW H} {p : List MemPlace} (ht : P.underlying t = some (.slice e)) (he : P.underlying e = some .bool) (hc : P.cellsOf e = 1)
    (h : DataW.Trod enc P w 0 (fun _ => true) true t (.slice A len cap) d p) : ∃ ks, InBools w A len cap ks := by
  obtain ⟨fuel, hf⟩ := h
  obtain ⟨A', len', cap', ks, hcs, hi⟩ := view_bcells ht he hc hf
  simp [Value.cells] at hcs
  obtain ⟨rfl, rfl, rfl⟩ := hcs
  exact ⟨ks, hi⟩

theorem view_acts {t e tb eb tk ek : TypeId} {f0 f1 f2 f3 : Field} {A : Option Addr} {len cap : Nat} {d : DataW H} {p : List MemPlace} (ht : P.underlying t = some (.slice e)) (he : P.underlying e = some (.struct #[f0, f1, f2, f3])) (ce : P.cellsOf e = 4)
    (o0 : f0.offset = 0) (o1 : f1.offset = 1) (o2 : f2.offset = 2) (o3 : f3.offset = 3) (c0 : P.cellsOf f0.type = 1) (c1 : P.cellsOf f1.type = 1) (c2 : P.cellsOf f2.type = 1) (c3 : P.cellsOf f3.type = 1)
    (h0 : P.underlying f0.type = some (.int .i64)) (h1 : P.underlying f1.type = some (.int .i64)) (h2 : P.underlying f2.type = some (.slice eb)) (hb : P.underlying eb = some (.int .u8)) (cb : P.cellsOf eb = 1)
    (h3 : P.underlying f3.type = some (.slice ek)) (hk : P.underlying ek = some .bool) (ck : P.cellsOf ek = 1)
    (h : DataW.Trod enc P w 0 (fun _ => true) true t (.slice A len cap) d p) : ∃ l, InActs w A len cap l := by
  obtain ⟨fuel, hf⟩ := h
  rcases open_slice ht hf with ⟨hcs, _⟩ | ⟨a, len', cap', m, n, D, Pl, hcs, _, hl, hm, hmm, _, hi⟩
  · simp [Value.cells] at hcs
    obtain ⟨rfl, rfl, rfl⟩ := hcs
    exact ⟨[], { length := rfl, le := Nat.le_refl _, cap := by omega, ok := fun a ha => (List.not_mem_nil ha).elim, cells := fun h => absurd h (by omega) }⟩
  · simp [Value.cells] at hcs
    obtain ⟨rfl, rfl, rfl⟩ := hcs
    have hmc : m = cap := by simpa using hmm
    subst hmc
    rw [ce] at hi
    have each : ∀ i, ∃ r : ActM, i < m → ActOk w r ∧ w.cell? (a.add (i * 4)) = some (.int .i64 r.kind) ∧ w.cell? (a.add (i * 4 + 1)) = some (.int .i64 r.at_) ∧
        w.cell? (a.add (i * 4 + 2)) = some (.slice r.A r.n r.c) ∧ w.cell? (a.add (i * 4 + 3)) = some (.slice r.K r.m r.d) := by
      intro i
      by_cases him : i < m
      · obtain ⟨cs, hcc, ht'⟩ := hi i him
        obtain ⟨_, hlen, hget⟩ := World.cells?_some hcc
        obtain ⟨xs, n', _, _, _, hxl, hfs⟩ := DataW.trod_struct he ht'
        match cs, hlen with
        | [v0, v1, v2, v3], _ =>
          have g0 := hfs 0 f0 rfl
          have g1 := hfs 1 f1 rfl
          have g2 := hfs 2 f2 rfl
          have g3 := hfs 3 f3 rfl
          match xs, hxl with
          | [y0, y1, y2, y3], _ =>
            rw [o0, c0] at g0
            rw [o1, c1] at g1
            rw [o2, c2] at g2
            rw [o3, c3] at g3
            simp at g0 g1 g2 g3
            obtain ⟨k0, e0, _, w0⟩ := DataW.trod_int h0 g0
            obtain ⟨k1, e1, _, w1⟩ := DataW.trod_int h1 g1
            obtain ⟨A2, l2, p2, z2, e2, i2⟩ := view_cells h2 hb cb g2
            obtain ⟨A3, l3, p3, z3, e3, i3⟩ := view_bcells h3 hk ck g3
            injection e0 with e0
            injection e1 with e1
            injection e2 with e2
            injection e3 with e3
            subst e0; subst e1; subst e2; subst e3
            refine ⟨⟨k0, k1, A2, l2, p2, z2, A3, l3, p3, z3⟩, fun _ => ⟨⟨w0, w1, i2, i3⟩, ?_, ?_, ?_, ?_⟩⟩
            · have := hget 0 (by omega); rwa [add_of_add] at this
            · have := hget 1 (by omega); rwa [add_of_add] at this
            · have := hget 2 (by omega); rwa [add_of_add] at this
            · have := hget 3 (by omega); rwa [add_of_add] at this
      · exact ⟨⟨0, 0, none, 0, 0, [], none, 0, 0, []⟩, fun h => absurd h him⟩
    obtain ⟨f, hfa⟩ := Classical.axiomOfChoice each
    refine ⟨(List.range len).map f, by simp, hl, by unfold maxLen at hm; omega, fun x hx => ?_, fun hn => ?_⟩
    · obtain ⟨i, hi, rfl⟩ := List.mem_map.1 hx
      exact (hfa i (by have := List.mem_range.1 hi; omega)).1
    · obtain ⟨b, off, spot⟩ := a
      have z0 := (hfa 0 (by omega)).2.1
      have hs : spot = none := by simpa [Addr.add] using World.cell?_spot z0
      subst hs
      refine ⟨b, off, rfl, ?_, fun i r hr => ?_⟩
      · rw [row_add4] at z0
        exact World.block_lt_of_cell? w _ z0
      · have hil : i < len := by
          rcases Nat.lt_or_ge i len with h | h
          · exact h
          · rw [List.getElem?_eq_none (by simpa using h)] at hr; cases hr
        simp [hil] at hr
        subst hr
        have := (hfa i (by omega)).2
        rwa [row_add4, row_add4, row_add4, row_add4] at this
end

end Go.Proofs.Ytakjiklpfddooaa
