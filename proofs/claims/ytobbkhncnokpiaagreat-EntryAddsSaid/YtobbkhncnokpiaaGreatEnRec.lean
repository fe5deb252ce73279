/-
  LAYER 16: RECORDS IN MEMORY: four numbers and a slice of texts; what a walk is told of a slice of them that came in, and of one by value.
-/
import Derived.Test.YtobbkhncnokpiaaGreatEnBase
import Derived.Laws.IdiomStrings
import Derived.OpenShut
import Derived.Deep.Slices
import Derived.Deep.Grids
set_option linter.unusedVariables false
set_option maxRecDepth 100000
set_option linter.unusedSimpArgs false
namespace Go.Proofs.YtobbkhncnokpiaaGreat
open Go.RowKit Go.ChangeShapes Go.WideShapes Go.Deep

/-- A record: its numbers, its items' slice, and what that reads as. -/
structure RC where
  seq : Int
  real : Int
  mono : Int
  boot : Int
  A : Option Addr
  n : Nat
  c : Nat
  its : List ByteArray
def RC.cs (r : RC) : List Value := [.int .u64 r.seq, .int .u64 r.real, .int .u64 r.mono, .int .u64 r.boot, .slice r.A r.n r.c]
def RC.v (r : RC) : Value := .agg #[.int .u64 r.seq, .int .u64 r.real, .int .u64 r.mono, .int .u64 r.boot, .slice r.A r.n r.c]
/-- The numbers are such, the items read. -/
structure RCOk (w : World) (B : Nat) (r : RC) : Prop where
  u0 : 0 ≤ r.seq ∧ r.seq < 18446744073709551616
  u1 : 0 ≤ r.real ∧ r.real < 18446744073709551616
  u2 : 0 ≤ r.mono ∧ r.mono < 18446744073709551616
  u3 : 0 ≤ r.boot ∧ r.boot < 18446744073709551616
  txt : Txt w B r.A r.n r.c r.its
theorem RCOk.below {w w' : World} {B : Nat} {r : RC} (h : RCOk w B r) (hb : Below B w w') : RCOk w' B r := ⟨h.u0, h.u1, h.u2, h.u3, h.txt.below hb⟩
theorem RCOk.more {w : World} {B B' : Nat} {r : RC} (h : RCOk w B r) (hb : B ≤ B') : RCOk w B' r := ⟨h.u0, h.u1, h.u2, h.u3, h.txt.more hb⟩

/-- What a walk is told of a slice of records that came in. -/
structure InRC (w : World) (A : Option Addr) (len cap : Nat) (l : List RC) : Prop where
  length : l.length = len
  le : len ≤ cap
  cap : cap ≤ 9223372036854775807
  ok : ∀ x ∈ l, RCOk w w.heap.size x
  cells : 0 < len → ∃ b off, A = some ⟨b, off, none⟩ ∧ b < w.heap.size ∧ ∀ i x, l[i]? = some x →
    w.cell? ⟨b, off + i * 5, none⟩ = some (.int .u64 x.seq) ∧ w.cell? ⟨b, off + (i * 5 + 1), none⟩ = some (.int .u64 x.real) ∧
    w.cell? ⟨b, off + (i * 5 + 2), none⟩ = some (.int .u64 x.mono) ∧ w.cell? ⟨b, off + (i * 5 + 3), none⟩ = some (.int .u64 x.boot) ∧ w.cell? ⟨b, off + (i * 5 + 4), none⟩ = some (.slice x.A x.n x.c)

theorem wf_u64 {x : Int} (h : (Lit.int .u64 x).wf = true) : 0 ≤ x ∧ x < 18446744073709551616 := by
  have := bounds_u64 h
  omega
theorem row_add5 (b off k : Nat) : (⟨b, off, none⟩ : Addr).add k = ⟨b, off + k, none⟩ := by unfold Addr.add; split <;> simp_all

section
variable {H : Type} {enc : TypeId × Value → H} {P : Program} {w : World}
theorem view_tcells {t e : TypeId} {fuel : Nat} {cs : List Value} {x : DataW H × List MemPlace} (ht : P.underlying t = some (.slice e)) (he : P.underlying e = some .string) (hc : P.cellsOf e = 1)
    (h : DataW.trod enc P w 0 (fun _ => true) true fuel t cs = some x) : ∃ A len cap zs, cs = [.slice A len cap] ∧ Txt w w.heap.size A len cap zs := by
  rcases open_strings ht he hc h with ⟨hcs, _⟩ | ⟨a, len, cap, zs, hcs, _, hl, hm, hz, _, hcell, hsz⟩
  · exact ⟨none, 0, 0, [], hcs, Txt.nil_ _ _⟩
  · have hz' : zs.length = cap := by simpa using hz
    refine ⟨some a, len, cap, zs.take len, hcs, ⟨?_, fun hn => ⟨a, rfl, ?_, ?_⟩⟩, hl, by unfold maxLen at hm; omega, fun s hs => hsz s (List.mem_of_mem_take hs)⟩
    · rw [cellsT_length, List.length_take, Nat.mul_one]; omega
    · exact block_of_add a 0 ▸ World.block_lt_of_cell? w _ (hcell 0 (by omega))
    · intro j u hu
      have hj : j < (zs.take len).length := by
        rcases Nat.lt_or_ge j (zs.take len).length with h | h
        · exact h
        · rw [List.getElem?_eq_none (by rw [cellsT_length]; exact h)] at hu
          cases hu
      have hj2 : j < len := by rw [List.length_take] at hj; omega
      rw [cellsT_get hj] at hu
      injection hu with hu
      subst hu
      rw [hcell j (by omega)]
      congr 2
      unfold nthT
      simp [List.getD_eq_getElem?_getD, hj2]
      rfl
theorem rc_fields {e et es : TypeId} {f0 f1 f2 f3 f4 : Field} {fuel : Nat} {v0 v1 v2 v3 v4 : Value} {x : DataW H × List MemPlace} (he : P.underlying e = some (.struct #[f0, f1, f2, f3, f4]))
    (o0 : f0.offset = 0) (o1 : f1.offset = 1) (o2 : f2.offset = 2) (o3 : f3.offset = 3) (o4 : f4.offset = 4) (c0 : P.cellsOf f0.type = 1) (c1 : P.cellsOf f1.type = 1) (c2 : P.cellsOf f2.type = 1) (c3 : P.cellsOf f3.type = 1) (c4 : P.cellsOf f4.type = 1)
    (h0 : P.underlying f0.type = some (.int .u64)) (h1 : P.underlying f1.type = some (.int .u64)) (h2 : P.underlying f2.type = some (.int .u64)) (h3 : P.underlying f3.type = some (.int .u64))
    (h4 : P.underlying f4.type = some (.slice es)) (hk : P.underlying es = some .string) (ck : P.cellsOf es = 1)
    (hf : DataW.trod enc P w 0 (fun _ => true) true fuel e [v0, v1, v2, v3, v4] = some x) : ∃ r : RC, RCOk w w.heap.size r ∧ v0 = .int .u64 r.seq ∧ v1 = .int .u64 r.real ∧ v2 = .int .u64 r.mono ∧ v3 = .int .u64 r.boot ∧ v4 = .slice r.A r.n r.c := by
  obtain ⟨xs, n', _, _, _, hxl, hfs⟩ := DataW.trod_struct he hf
  have g0 := hfs 0 f0 rfl
  have g1 := hfs 1 f1 rfl
  have g2 := hfs 2 f2 rfl
  have g3 := hfs 3 f3 rfl
  have g4 := hfs 4 f4 rfl
  match xs, hxl with
  | [y0, y1, y2, y3, y4], _ =>
    rw [o0, c0] at g0
    rw [o1, c1] at g1
    rw [o2, c2] at g2
    rw [o3, c3] at g3
    rw [o4, c4] at g4
    simp at g0 g1 g2 g3 g4
    obtain ⟨k0, e0, _, w0⟩ := DataW.trod_int h0 g0
    obtain ⟨k1, e1, _, w1⟩ := DataW.trod_int h1 g1
    obtain ⟨k2, e2, _, w2⟩ := DataW.trod_int h2 g2
    obtain ⟨k3, e3, _, w3⟩ := DataW.trod_int h3 g3
    obtain ⟨A4, l4, p4, z4, e4, i4⟩ := view_tcells h4 hk ck g4
    injection e0 with e0
    injection e1 with e1
    injection e2 with e2
    injection e3 with e3
    injection e4 with e4
    exact ⟨⟨k0, k1, k2, k3, A4, l4, p4, z4⟩, ⟨wf_u64 w0, wf_u64 w1, wf_u64 w2, wf_u64 w3, i4⟩, e0, e1, e2, e3, e4⟩
theorem view_rcs {t e es : TypeId} {f0 f1 f2 f3 f4 : Field} {A : Option Addr} {len cap : Nat} {d : DataW H} {p : List MemPlace} (ht : P.underlying t = some (.slice e)) (he : P.underlying e = some (.struct #[f0, f1, f2, f3, f4])) (ce : P.cellsOf e = 5)
    (o0 : f0.offset = 0) (o1 : f1.offset = 1) (o2 : f2.offset = 2) (o3 : f3.offset = 3) (o4 : f4.offset = 4) (c0 : P.cellsOf f0.type = 1) (c1 : P.cellsOf f1.type = 1) (c2 : P.cellsOf f2.type = 1) (c3 : P.cellsOf f3.type = 1) (c4 : P.cellsOf f4.type = 1)
    (h0 : P.underlying f0.type = some (.int .u64)) (h1 : P.underlying f1.type = some (.int .u64)) (h2 : P.underlying f2.type = some (.int .u64)) (h3 : P.underlying f3.type = some (.int .u64))
    (h4 : P.underlying f4.type = some (.slice es)) (hk : P.underlying es = some .string) (ck : P.cellsOf es = 1)
    (h : DataW.Trod enc P w 0 (fun _ => true) true t (.slice A len cap) d p) : ∃ l, InRC w A len cap l := by
  obtain ⟨fuel, hf⟩ := h
  rcases Go.Deep.open_slice ht hf with ⟨hcs, _⟩ | ⟨a, len', cap', m, n, D, Pl, hcs, _, hl, hm, hmm, _, hi⟩
  · simp [Value.cells] at hcs
    obtain ⟨rfl, rfl, rfl⟩ := hcs
    exact ⟨[], { length := rfl, le := Nat.le_refl _, cap := by omega, ok := fun a ha => (List.not_mem_nil ha).elim, cells := fun h => absurd h (by omega) }⟩
  · simp [Value.cells] at hcs
    obtain ⟨rfl, rfl, rfl⟩ := hcs
    have hmc : m = cap := by simpa using hmm
    subst hmc
    rw [ce] at hi
    have each : ∀ i, ∃ r : RC, i < m → RCOk w w.heap.size r ∧ w.cell? (a.add (i * 5)) = some (.int .u64 r.seq) ∧ w.cell? (a.add (i * 5 + 1)) = some (.int .u64 r.real) ∧
        w.cell? (a.add (i * 5 + 2)) = some (.int .u64 r.mono) ∧ w.cell? (a.add (i * 5 + 3)) = some (.int .u64 r.boot) ∧ w.cell? (a.add (i * 5 + 4)) = some (.slice r.A r.n r.c) := by
      intro i
      by_cases him : i < m
      · obtain ⟨cs, hcc, ht'⟩ := hi i him
        obtain ⟨_, hlen, hget⟩ := World.cells?_some hcc
        match cs, hlen with
        | [v0, v1, v2, v3, v4], _ =>
          obtain ⟨r, hr, rfl, rfl, rfl, rfl, rfl⟩ := rc_fields (et := e) he o0 o1 o2 o3 o4 c0 c1 c2 c3 c4 h0 h1 h2 h3 h4 hk ck ht'
          refine ⟨r, fun _ => ⟨hr, ?_, ?_, ?_, ?_, ?_⟩⟩
          · have := hget 0 (by omega); rwa [Addr.add_add] at this
          · have := hget 1 (by omega); rwa [Addr.add_add] at this
          · have := hget 2 (by omega); rwa [Addr.add_add] at this
          · have := hget 3 (by omega); rwa [Addr.add_add] at this
          · have := hget 4 (by omega); rwa [Addr.add_add] at this
      · exact ⟨⟨0, 0, 0, 0, none, 0, 0, []⟩, fun h => absurd h him⟩
    obtain ⟨f, hfa⟩ := Classical.axiomOfChoice each
    refine ⟨(List.range len).map f, by simp, hl, by unfold maxLen at hm; omega, fun x hx => ?_, fun hn => ?_⟩
    · obtain ⟨i, hi, rfl⟩ := List.mem_map.1 hx
      exact (hfa i (by have := List.mem_range.1 hi; omega)).1
    · obtain ⟨b, off, spot⟩ := a
      have z0 := (hfa 0 (by omega)).2.1
      have hs : spot = none := by simpa [Addr.add] using World.cell?_spot z0
      subst hs
      refine ⟨b, off, rfl, ?_, fun i r hr => ?_⟩
      · rw [row_add5] at z0
        exact World.block_lt_of_cell? w _ z0
      · have hil : i < len := by
          rcases Nat.lt_or_ge i len with h | h
          · exact h
          · rw [List.getElem?_eq_none (by simpa using h)] at hr; cases hr
        simp [hil] at hr
        subst hr
        have := (hfa i (by omega)).2
        rwa [row_add5, row_add5, row_add5, row_add5, row_add5] at this
theorem view_rc1 {r : Reach} {b0 : Nat} {t es : TypeId} {f0 f1 f2 f3 f4 : Field} {v : Value} {d : DataW H} {p : List MemPlace} (he : P.underlying t = some (.struct #[f0, f1, f2, f3, f4])) (ce : P.cellsOf t = 5)
    (o0 : f0.offset = 0) (o1 : f1.offset = 1) (o2 : f2.offset = 2) (o3 : f3.offset = 3) (o4 : f4.offset = 4) (c0 : P.cellsOf f0.type = 1) (c1 : P.cellsOf f1.type = 1) (c2 : P.cellsOf f2.type = 1) (c3 : P.cellsOf f3.type = 1) (c4 : P.cellsOf f4.type = 1)
    (h0 : P.underlying f0.type = some (.int .u64)) (h1 : P.underlying f1.type = some (.int .u64)) (h2 : P.underlying f2.type = some (.int .u64)) (h3 : P.underlying f3.type = some (.int .u64))
    (h4 : P.underlying f4.type = some (.slice es)) (hk : P.underlying es = some .string) (ck : P.cellsOf es = 1) (hv : Value.okWide P w r b0 t v)
    (h : DataW.Trod enc P w 0 (fun _ => true) true t v d p) : ∃ x : RC, v = x.v ∧ RCOk w w.heap.size x := by
  obtain ⟨cs, rfl, hsz⟩ := okWide_struct he hv
  obtain ⟨l⟩ := cs
  obtain ⟨fuel, hf⟩ := h
  match l, hsz.trans ce with
  | [v0, v1, v2, v3, v4], _ =>
    obtain ⟨r, hr, rfl, rfl, rfl, rfl, rfl⟩ := rc_fields (et := t) he o0 o1 o2 o3 o4 c0 c1 c2 c3 c4 h0 h1 h2 h3 h4 hk ck hf
    exact ⟨r, rfl, hr⟩
end

/-- The k-th record, as a round loads it. -/
theorem InRC.at_ {w wr : World} {A : Option Addr} {len cap k : Nat} {l : List RC} (h : InRC w A len cap l) (hb : Below w.heap.size w wr) (hk : k < len) :
    ∃ b off r, A = some ⟨b, off, none⟩ ∧ b < w.heap.size ∧ l[k]? = some r ∧ RCOk w w.heap.size r ∧ wr.cell? ⟨b, off + k * 5, none⟩ = some (.int .u64 r.seq) ∧ wr.cell? ⟨b, off + k * 5 + 1, none⟩ = some (.int .u64 r.real) ∧ wr.cell? ⟨b, off + k * 5 + 2, none⟩ = some (.int .u64 r.mono) ∧ wr.cell? ⟨b, off + k * 5 + 3, none⟩ = some (.int .u64 r.boot) ∧ wr.cell? ⟨b, off + k * 5 + 4, none⟩ = some (.slice r.A r.n r.c) := by
  obtain ⟨r, hr⟩ : ∃ r, l[k]? = some r := ⟨_, List.getElem?_eq_getElem (by rw [h.length]; exact hk)⟩
  obtain ⟨b, off, rfl, hbB, hc⟩ := h.cells (by omega)
  obtain ⟨h0, h1, h2, h3, h4⟩ := hc k r hr
  have g : ∀ o, wr.cell? ⟨b, o, none⟩ = w.cell? ⟨b, o, none⟩ := fun o => hb.cell (p := ⟨b, o, none⟩) hbB
  exact ⟨b, off, r, rfl, hbB, hr, h.ok r (List.mem_of_getElem? hr), (g _).trans h0, (g _).trans h1, (g _).trans h2, (g _).trans h3, (g _).trans h4⟩

end Go.Proofs.YtobbkhncnokpiaaGreat
