/-
  HOW A SLICE OF STRUCTS OF ONE-CELL FIELDS IS OPENED, and the acts of layer 1: five fields, two of them slices of numbers. (The first lemma goes by the guide's page of lemmas that are meant to be copied into one's own text.)
-/
import Derived.Test.YtnkkfflaalipjaaFrame
import Derived.Test.YtnkkfflaalipjaaChecked
import Derived.Deep.Slices
import Derived.Deep.Fields
set_option linter.unusedVariables false
namespace Go.Proofs.Ytnkkfflaalipjaa
open Go.RowKit Go.ChangeShapes Go.WideShapes Go.Deep

section
variable {H : Type} {enc : TypeId × Value → H} {P : Program} {w : World} {base : Nat} {spare : Nat → Bool} {held : Bool}
theorem open_slice_fields {t e : TypeId} {fs : Array Field} {fuel : Nat} {cs : List Value} {x : DataW H × List MemPlace} (ht : P.underlying t = some (.slice e)) (he : P.underlying e = some (.struct fs))
    (hone : oneCellFields P fs = true) (hC : P.cellsOf e = fs.size) (h : DataW.trod enc P w base spare held fuel t cs = some x) :
    (cs = [.slice none 0 0] ∧ x = (.nil, [])) ∨
    ∃ (a : Addr) (len cap m : Nat) (D : Nat → DataW H) (Pl : Nat → List MemPlace), cs = [.slice (some a) len cap] ∧ base ≤ a.block ∧ len ≤ cap ∧ cap ≤ maxLen ∧ m = (if spare a.block then cap else len) ∧
      x = (.slice ((List.range len).map D) ((List.range (m - len)).map fun j => D (len + j)), MemPlace.row a (m * fs.size) ++ (List.range m).flatMap Pl) ∧
      ∀ i, i < m → ∃ (ys : List (DataW H × List MemPlace)) (n : Nat), D i = .agg (ys.map (·.1)) ∧ Pl i = ys.flatMap (·.2) ∧ ys.length = fs.size ∧
        ∀ (j : Nat) (f : Field), fs[j]? = some f → ∃ (v : Value) (y : DataW H × List MemPlace), w.cell? (a.add (i * fs.size + j)) = some v ∧ ys[j]? = some y ∧ DataW.trod enc P w base spare held n f.type [v] = some y := by
  rcases open_slice ht h with h0 | ⟨a, len, cap, m, n, D, Pl, hcs, hb, hl, hm, hmm, hx, hi⟩
  · exact .inl h0
  · refine .inr ⟨a, len, cap, m, D, Pl, hcs, hb, hl, hm, hmm, by rw [hC] at hx; exact hx, fun i him => ?_⟩
    obtain ⟨cs', hc, ht'⟩ := hi i him
    rw [hC] at hc
    obtain ⟨ys, n', hn', hy, hlen, hyl, hf⟩ := DataW.trod_struct he ht'
    obtain ⟨_, hcl, hat⟩ := World.cells?_some hc
    simp only [Prod.mk.injEq] at hy
    refine ⟨ys, n', hy.1, hy.2, hyl, fun j f hj => ?_⟩
    obtain ⟨ho, hk⟩ := hone_of hone j f hj
    have hjl : j < fs.size := (Array.getElem?_eq_some_iff.1 hj).1
    have hcell := hat j hjl
    have hv : cs'[j]? = some (cs'[j]'(by omega)) := List.getElem?_eq_getElem (by omega)
    have h1 := hf j f hj
    rw [ho, hk] at h1
    have hone' : (cs'.drop j).take 1 = [cs'[j]'(by omega)] := by
      rw [List.drop_eq_getElem_cons (by omega)]
      rfl
    rw [hone'] at h1
    have hys : ys[j]? = some (ys[j]'(by omega)) := List.getElem?_eq_getElem (by omega)
    refine ⟨_, _, ?_, hys, h1.trans hys⟩
    rw [← Go.Deep.add_add, hcell, hv]
end

theorem plain_add (b off k : Nat) : (⟨b, off, none⟩ : Addr).add k = ⟨b, off + k, none⟩ := by unfold Addr.add; split <;> simp_all

structure ActV where
  kind : Int
  n : Int
  width : Int
  lA : Option Addr
  ln : Nat
  lc : Nat
  l : List Int
  bA : Option Addr
  bn : Nat
  bc : Nat
  b : List Int

structure ActOk (w : World) (a : ActV) : Prop where
  kind : (Lit.int .i64 a.kind).wf = true
  n : (Lit.int .u64 a.n).wf = true
  width : (Lit.int .i64 a.width).wf = true
  l : InInts w .u64 a.lA a.ln a.lc a.l
  b : InInts w .u8 a.bA a.bn a.bc a.b

structure ActAt (w : World) (b off : Nat) (a : ActV) : Prop where
  c0 : w.cell? ⟨b, off, none⟩ = some (.int .i64 a.kind)
  c1 : w.cell? ⟨b, off + 1, none⟩ = some (.int .u64 a.n)
  c2 : w.cell? ⟨b, off + 2, none⟩ = some (.int .i64 a.width)
  c3 : w.cell? ⟨b, off + 3, none⟩ = some (.slice a.lA a.ln a.lc)
  c4 : w.cell? ⟨b, off + 4, none⟩ = some (.slice a.bA a.bn a.bc)

structure InActs (w : World) (A : Option Addr) (len cap : Nat) (acts : List ActV) : Prop where
  length : acts.length = len
  le : len ≤ cap
  cap : cap ≤ 9223372036854775807
  ok : ∀ a ∈ acts, ActOk w a
  cells : 0 < len → ∃ b off, A = some ⟨b, off, none⟩ ∧ b < w.heap.size ∧ ∀ i a, acts[i]? = some a → ActAt w b (off + i * 5) a

section
variable {H : Type} {enc : TypeId × Value → H} {w : World}
theorem actOne : oneCellFields Try.prog #[{ name := "Kind", type := 3, offset := 0, embedded := false, tag := "", pkgPath := "", byteOffset := 0 }, { name := "N", type := 24, offset := 1, embedded := false, tag := "", pkgPath := "", byteOffset := 8 }, { name := "Width", type := 3, offset := 2, embedded := false, tag := "", pkgPath := "", byteOffset := 16 }, { name := "L", type := 35, offset := 3, embedded := false, tag := "", pkgPath := "", byteOffset := 24 }, { name := "B", type := 22, offset := 4, embedded := false, tag := "", pkgPath := "", byteOffset := 48 }] = true := by kernel_rfl
theorem view_acts {A : Option Addr} {len cap : Nat} {d : DataW H} {p : List MemPlace}
    (h : DataW.Trod enc Try.prog w 0 (fun _ => true) true 32 (.slice A len cap) d p) : ∃ acts, InActs w A len cap acts := by
  obtain ⟨fuel, hf⟩ := h
  rcases open_slice_fields Try.underlying32 Try.underlying37 actOne (by kernel_rfl) hf with ⟨hcs, _⟩ | ⟨a, len', cap', m, D, Pl, hcs, _, hl, hm, hmm, _, hi⟩
  · simp [Value.cells] at hcs
    obtain ⟨rfl, rfl, rfl⟩ := hcs
    exact ⟨[], { length := rfl, le := Nat.le_refl _, cap := by omega, ok := fun a ha => (List.not_mem_nil ha).elim, cells := fun h => absurd h (by omega) }⟩
  · simp [Value.cells] at hcs
    obtain ⟨rfl, rfl, rfl⟩ := hcs
    have hmc : m = cap := by simpa using hmm
    subst hmc
    have each : ∀ i, ∃ act : ActV, i < m → ActOk w act ∧ (∀ k : Nat, True) ∧ w.cell? (a.add (i * 5 + 0)) = some (.int .i64 act.kind) ∧ w.cell? (a.add (i * 5 + 1)) = some (.int .u64 act.n) ∧ w.cell? (a.add (i * 5 + 2)) = some (.int .i64 act.width) ∧
        w.cell? (a.add (i * 5 + 3)) = some (.slice act.lA act.ln act.lc) ∧ w.cell? (a.add (i * 5 + 4)) = some (.slice act.bA act.bn act.bc) := by
      intro i
      by_cases him : i < m
      · obtain ⟨ys, n, _, _, _, hff⟩ := hi i him
        obtain ⟨v0, y0, hc0, _, ht0⟩ := hff 0 _ rfl
        obtain ⟨v1, y1, hc1, _, ht1⟩ := hff 1 _ rfl
        obtain ⟨v2, y2, hc2, _, ht2⟩ := hff 2 _ rfl
        obtain ⟨v3, y3, hc3, _, ht3⟩ := hff 3 _ rfl
        obtain ⟨v4, y4, hc4, _, ht4⟩ := hff 4 _ rfl
        obtain ⟨k0, e0, _, wf0⟩ := DataW.trod_int Try.underlying3 ht0
        obtain ⟨k1, e1, _, wf1⟩ := DataW.trod_int Try.underlying24 ht1
        obtain ⟨k2, e2, _, wf2⟩ := DataW.trod_int Try.underlying3 ht2
        obtain ⟨A3, l3, c3, z3, e3, in3⟩ := view_cells (P := Try.prog) (k := .u64) Try.underlying35 Try.underlying24 (by kernel_rfl) ht3
        obtain ⟨A4, l4, c4, z4, e4, in4⟩ := view_cells (P := Try.prog) (k := .u8) Try.underlying22 Try.underlying5 (by kernel_rfl) ht4
        simp at e0 e1 e2 e3 e4
        subst e0 e1 e2 e3 e4
        exact ⟨⟨k0, k1, k2, A3, l3, c3, z3, A4, l4, c4, z4⟩, fun _ => ⟨⟨wf0, wf1, wf2, in3, in4⟩, fun _ => trivial, hc0, hc1, hc2, hc3, hc4⟩⟩
      · exact ⟨⟨0, 0, 0, none, 0, 0, [], none, 0, 0, []⟩, fun h => absurd h him⟩
    obtain ⟨f, hfa⟩ := Classical.axiomOfChoice each
    refine ⟨(List.range len).map f, by simp, hl, by unfold maxLen at hm; omega, fun x hx => ?_, fun hn => ?_⟩
    · obtain ⟨i, hi, rfl⟩ := List.mem_map.1 hx
      exact (hfa i (by have := List.mem_range.1 hi; omega)).1
    · obtain ⟨b, off, spot⟩ := a
      have h0 := (hfa 0 (by omega)).2.2.1
      have hs : spot = none := by simpa [Addr.add] using World.cell?_spot h0
      subst hs
      have hp : ∀ k, (⟨b, off, none⟩ : Addr).add k = ⟨b, off + k, none⟩ := plain_add b off
      refine ⟨b, off, rfl, ?_, fun i a ha => ?_⟩
      · rw [hp] at h0
        exact World.block_lt_of_cell? w _ h0
      · have hil : i < len := by
          rcases Nat.lt_or_ge i len with h | h
          · exact h
          · rw [List.getElem?_eq_none (by simpa using h)] at ha; cases ha
        simp [hil] at ha
        subst ha
        obtain ⟨_, _, g0, g1, g2, g3, g4⟩ := hfa i (by omega)
        rw [hp] at g0 g1 g2 g3 g4
        refine ⟨g0, ?_, ?_, ?_, ?_⟩
        · rw [Nat.add_assoc]; exact g1
        · rw [Nat.add_assoc]; exact g2
        · rw [Nat.add_assoc]; exact g3
        · rw [Nat.add_assoc]; exact g4
end

end Go.Proofs.Ytnkkfflaalipjaa
