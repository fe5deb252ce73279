/-
  MERGED BY PROGRAM out of the texts EnIns EnRec EnDone EnXor EnIntern EnSmall EnFp.
-/
import Derived.Test.YtjpfbkhjhainpaaEnBase
import Derived.Laws.IdiomStrings
import Derived.OpenShut
import Derived.Deep.Slices
import Derived.Deep.Grids

/-
  LAYER 16, plain: items that are put in, one behind the other; how many of them are new; the entries that rise.
-/
set_option linter.unusedVariables false
set_option maxRecDepth 100000
set_option linter.unusedSimpArgs false
namespace Go.Proofs.Ytjpfbkhjhainpaa
open Go.RowKit Go.Shelf

/-- How many of the items are not there. -/
def newsD (R : List DR) (zs : List (List Int)) : Nat := (zs.filter fun z => (findD R z).isNone).length
theorem newsD_le (R : List DR) (zs : List (List Int)) : newsD R zs ≤ zs.length := List.length_filter_le _ _
theorem newsD_snoc (R : List DR) (zs : List (List Int)) (z : List Int) : newsD R (zs ++ [z]) = newsD R zs + (if findD R z = none then 1 else 0) := by
  unfold newsD
  rw [List.filter_append, List.length_append]
  congr 1
  by_cases h : findD R z = none
  · rw [if_pos h, List.filter_cons_of_pos (by rw [h]; rfl)]; rfl
  · rw [if_neg h, List.filter_cons_of_neg (by cases e : findD R z with
      | none => exact absurd e h
      | some a => simp)]; rfl
theorem newsD_take (R : List DR) (zs : List (List Int)) (j : Nat) : newsD R (zs.take j) ≤ newsD R zs := by
  unfold newsD
  exact (List.Sublist.filter _ (List.take_sublist j zs)).length_le

theorem findD_other {R : List DR} {z y : List Int} {a : Nat} (h : y ≠ z) : findD (insD R z a) y = findD R y := by
  unfold insD
  split
  · rfl
  · unfold findD
    rw [List.find?_append]
    cases hc : R.find? (fun r => r.item == y) with
    | some r => rfl
    | none =>
      have : ¬ ((z == y) = true) := fun e => h (eq_of_beq e).symm
      rw [List.find?_cons_of_neg (p := fun r : DR => r.item == y) (a := ⟨z, a, []⟩) this]
      rfl

/-- ITEMS THAT ARE THERE: R the rows ahead, R' those behind, ps their places. -/
structure InsAt (R R' : List DR) (zs : List (List Int)) (ps : List Int) (O : List GO) (Lr : List Int) (E : List (List (List Int))) : Prop where
  el : EL R' O Lr E
  len : ps.length = zs.length
  known : ∀ (i : Nat) z, zs[i]? = some z → ∃ a : Nat, findD R' z = some a ∧ ps[i]? = some (a : Int)
  same : ∀ y, y ∉ zs → findD R' y = findD R y
theorem InsAt.nothing {R : List DR} {O : List GO} {Lr : List Int} {E : List (List (List Int))} (h : EL R O Lr E) : InsAt R R [] [] O Lr E :=
  ⟨h, rfl, fun i z hz => by simp at hz, fun _ _ => rfl⟩
theorem InsAt.ins {R R' : List DR} {zs : List (List Int)} {ps : List Int} {O : List GO} {Lr : List Int} {E : List (List (List Int))} (h : InsAt R R' zs ps O Lr E) {z : List Int} {a b : Nat} (hf : findD (insD R' z a) z = some b) : InsAt R (insD R' z a) (zs ++ [z]) (ps ++ [(b : Int)]) O Lr E := by
  refine ⟨h.el.ins z a, by rw [List.length_append, List.length_append, h.len]; rfl, fun i y hy => ?_, fun y hy => ?_⟩
  · rcases Nat.lt_or_ge i zs.length with hi | hi
    · rw [List.getElem?_append_left hi] at hy
      obtain ⟨c, h1, h2⟩ := h.known i y hy
      exact ⟨c, findD_insD h1, by rw [List.getElem?_append_left (by rw [h.len]; exact hi)]; exact h2⟩
    · rw [List.getElem?_append_right hi] at hy
      have hi0 : i - zs.length = 0 := by
        rcases Nat.eq_zero_or_pos (i - zs.length) with e | e
        · exact e
        · rw [List.getElem?_eq_none (by simp; omega)] at hy; cases hy
      rw [hi0] at hy
      have : z = y := by simpa using hy
      subst this
      exact ⟨b, hf, by rw [List.getElem?_append_right (by rw [h.len]; exact hi), h.len, hi0]; rfl⟩
  · have h1 : y ∉ zs := fun e => hy (List.mem_append.2 (.inl e))
    have h2 : y ≠ z := fun e => hy (List.mem_append.2 (.inr (by simp [e])))
    rw [findD_other h2]
    exact h.same y h1
theorem InsAt.mem {R R' : List DR} {zs : List (List Int)} {ps : List Int} {O : List GO} {Lr : List Int} {E : List (List (List Int))} (h : InsAt R R' zs ps O Lr E) : ∀ z ∈ zs, (findD R' z).isSome = true := fun z hz => by
  obtain ⟨i, hi⟩ := List.getElem?_of_mem hz
  obtain ⟨a, h1, -⟩ := h.known i z hi
  rw [h1]; rfl
theorem InsAt.eq {R R' : List DR} {zs : List (List Int)} {ps : List Int} {O : List GO} {Lr : List Int} {E : List (List (List Int))} (h : InsAt R R' zs ps O Lr E) : ps = zs.map fun z => (((findD R' z).getD 0 : Nat) : Int) := by
  refine List.ext_getElem? fun i => ?_
  rw [List.getElem?_map]
  cases hz : zs[i]? with
  | none =>
    have := List.getElem?_eq_none_iff.1 hz
    rw [List.getElem?_eq_none (by rw [h.len]; exact this)]; rfl
  | some z =>
    obtain ⟨a, h1, h2⟩ := h.known i z hz
    rw [h2]
    show _ = some (((findD R' z).getD 0 : Nat) : Int)
    rw [h1]; rfl

/-- A row's list is no longer than there are entries. -/
theorem EL.short {R : List DR} {O : List GO} {Lr : List Int} {E : List (List (List Int))} (H : EL R O Lr E) : ∀ r ∈ R, r.L.length ≤ O.length := fun r hr => by
  rw [H.have_ r hr, List.length_map]
  refine Nat.le_trans (List.length_filter_le _ _) ?_
  rw [List.length_zip]; omega
theorem pushAll_short {R : List DR} {x : Int} {zs : List (List Int)} {n : Nat} (hn : zs.Nodup) (h : ∀ r ∈ R, r.L.length ≤ n) : ∀ r ∈ pushAll R zs x, r.L.length ≤ n + 1 := fun r hr => by
  rw [pushAll_eq x zs R hn] at hr
  obtain ⟨q, hq, rfl⟩ := List.mem_map.1 hr
  have := h q hq
  split
  · show (q.L ++ [x]).length ≤ _
    rw [List.length_append]; simp; omega
  · omega

end Go.Proofs.Ytjpfbkhjhainpaa

/-
  LAYER 16: RECORDS IN MEMORY: four numbers and a slice of texts; what a walk is told of a slice of them that came in, and of one by value.
-/
set_option linter.unusedVariables false
set_option maxRecDepth 100000
set_option linter.unusedSimpArgs false
namespace Go.Proofs.Ytjpfbkhjhainpaa
open Go.RowKit Go.ChangeShapes Go.WideShapes Go.Deep

/-- A record: its numbers, its items' slice, and what that reads as. -/
structure RC where
  seq : Int
  real : Int
  mono : Int
  boot : Int
  A : Option Addr
  n : Nat
  c : Nat
  its : List ByteArray
def RC.cs (r : RC) : List Value := [.int .u64 r.seq, .int .u64 r.real, .int .u64 r.mono, .int .u64 r.boot, .slice r.A r.n r.c]
def RC.v (r : RC) : Value := .agg #[.int .u64 r.seq, .int .u64 r.real, .int .u64 r.mono, .int .u64 r.boot, .slice r.A r.n r.c]
/-- The numbers are such, the items read. -/
structure RCOk (w : World) (B : Nat) (r : RC) : Prop where
  u0 : 0 ≤ r.seq ∧ r.seq < 18446744073709551616
  u1 : 0 ≤ r.real ∧ r.real < 18446744073709551616
  u2 : 0 ≤ r.mono ∧ r.mono < 18446744073709551616
  u3 : 0 ≤ r.boot ∧ r.boot < 18446744073709551616
  txt : Txt w B r.A r.n r.c r.its
theorem RCOk.below {w w' : World} {B : Nat} {r : RC} (h : RCOk w B r) (hb : Below B w w') : RCOk w' B r := ⟨h.u0, h.u1, h.u2, h.u3, h.txt.below hb⟩
theorem RCOk.more {w : World} {B B' : Nat} {r : RC} (h : RCOk w B r) (hb : B ≤ B') : RCOk w B' r := ⟨h.u0, h.u1, h.u2, h.u3, h.txt.more hb⟩

/-- What a walk is told of a slice of records that came in. -/
structure InRC (w : World) (A : Option Addr) (len cap : Nat) (l : List RC) : Prop where
  length : l.length = len
  le : len ≤ cap
  cap : cap ≤ 9223372036854775807
  ok : ∀ x ∈ l, RCOk w w.heap.size x
  cells : 0 < len → ∃ b off, A = some ⟨b, off, none⟩ ∧ b < w.heap.size ∧ ∀ i x, l[i]? = some x →
    w.cell? ⟨b, off + i * 5, none⟩ = some (.int .u64 x.seq) ∧ w.cell? ⟨b, off + (i * 5 + 1), none⟩ = some (.int .u64 x.real) ∧
    w.cell? ⟨b, off + (i * 5 + 2), none⟩ = some (.int .u64 x.mono) ∧ w.cell? ⟨b, off + (i * 5 + 3), none⟩ = some (.int .u64 x.boot) ∧ w.cell? ⟨b, off + (i * 5 + 4), none⟩ = some (.slice x.A x.n x.c)

theorem wf_u64 {x : Int} (h : (Lit.int .u64 x).wf = true) : 0 ≤ x ∧ x < 18446744073709551616 := by
  have := bounds_u64 h
  omega
theorem row_add5 (b off k : Nat) : (⟨b, off, none⟩ : Addr).add k = ⟨b, off + k, none⟩ := by unfold Addr.add; split <;> simp_all

section
variable {H : Type} {enc : TypeId × Value → H} {P : Program} {w : World}
theorem view_tcells {t e : TypeId} {fuel : Nat} {cs : List Value} {x : DataW H × List MemPlace} (ht : P.underlying t = some (.slice e)) (he : P.underlying e = some .string) (hc : P.cellsOf e = 1)
    (h : DataW.trod enc P w 0 (fun _ => true) true fuel t cs = some x) : ∃ A len cap zs, cs = [.slice A len cap] ∧ Txt w w.heap.size A len cap zs := by
  rcases open_strings ht he hc h with ⟨hcs, _⟩ | ⟨a, len, cap, zs, hcs, _, hl, hm, hz, _, hcell, hsz⟩
  · exact ⟨none, 0, 0, [], hcs, Txt.nil_ _ _⟩
  · have hz' : zs.length = cap := by simpa using hz
    refine ⟨some a, len, cap, zs.take len, hcs, ⟨?_, fun hn => ⟨a, rfl, ?_, ?_⟩⟩, hl, by unfold maxLen at hm; omega, fun s hs => hsz s (List.mem_of_mem_take hs)⟩
    · rw [cellsT_length, List.length_take, Nat.mul_one]; omega
    · exact block_of_add a 0 ▸ World.block_lt_of_cell? w _ (hcell 0 (by omega))
    · intro j u hu
      have hj : j < (zs.take len).length := by
        rcases Nat.lt_or_ge j (zs.take len).length with h | h
        · exact h
        · rw [List.getElem?_eq_none (by rw [cellsT_length]; exact h)] at hu
          cases hu
      have hj2 : j < len := by rw [List.length_take] at hj; omega
      rw [cellsT_get hj] at hu
      injection hu with hu
      subst hu
      rw [hcell j (by omega)]
      congr 2
      unfold nthT
      simp [List.getD_eq_getElem?_getD, hj2]
      rfl
theorem rc_fields {e et es : TypeId} {f0 f1 f2 f3 f4 : Field} {fuel : Nat} {v0 v1 v2 v3 v4 : Value} {x : DataW H × List MemPlace} (he : P.underlying e = some (.struct #[f0, f1, f2, f3, f4]))
    (o0 : f0.offset = 0) (o1 : f1.offset = 1) (o2 : f2.offset = 2) (o3 : f3.offset = 3) (o4 : f4.offset = 4) (c0 : P.cellsOf f0.type = 1) (c1 : P.cellsOf f1.type = 1) (c2 : P.cellsOf f2.type = 1) (c3 : P.cellsOf f3.type = 1) (c4 : P.cellsOf f4.type = 1)
    (h0 : P.underlying f0.type = some (.int .u64)) (h1 : P.underlying f1.type = some (.int .u64)) (h2 : P.underlying f2.type = some (.int .u64)) (h3 : P.underlying f3.type = some (.int .u64))
    (h4 : P.underlying f4.type = some (.slice es)) (hk : P.underlying es = some .string) (ck : P.cellsOf es = 1)
    (hf : DataW.trod enc P w 0 (fun _ => true) true fuel e [v0, v1, v2, v3, v4] = some x) : ∃ r : RC, RCOk w w.heap.size r ∧ v0 = .int .u64 r.seq ∧ v1 = .int .u64 r.real ∧ v2 = .int .u64 r.mono ∧ v3 = .int .u64 r.boot ∧ v4 = .slice r.A r.n r.c := by
  obtain ⟨xs, n', _, _, _, hxl, hfs⟩ := DataW.trod_struct he hf
  have g0 := hfs 0 f0 rfl
  have g1 := hfs 1 f1 rfl
  have g2 := hfs 2 f2 rfl
  have g3 := hfs 3 f3 rfl
  have g4 := hfs 4 f4 rfl
  match xs, hxl with
  | [y0, y1, y2, y3, y4], _ =>
    rw [o0, c0] at g0
    rw [o1, c1] at g1
    rw [o2, c2] at g2
    rw [o3, c3] at g3
    rw [o4, c4] at g4
    simp at g0 g1 g2 g3 g4
    obtain ⟨k0, e0, _, w0⟩ := DataW.trod_int h0 g0
    obtain ⟨k1, e1, _, w1⟩ := DataW.trod_int h1 g1
    obtain ⟨k2, e2, _, w2⟩ := DataW.trod_int h2 g2
    obtain ⟨k3, e3, _, w3⟩ := DataW.trod_int h3 g3
    obtain ⟨A4, l4, p4, z4, e4, i4⟩ := view_tcells h4 hk ck g4
    injection e0 with e0
    injection e1 with e1
    injection e2 with e2
    injection e3 with e3
    injection e4 with e4
    exact ⟨⟨k0, k1, k2, k3, A4, l4, p4, z4⟩, ⟨wf_u64 w0, wf_u64 w1, wf_u64 w2, wf_u64 w3, i4⟩, e0, e1, e2, e3, e4⟩
theorem view_rcs {t e es : TypeId} {f0 f1 f2 f3 f4 : Field} {A : Option Addr} {len cap : Nat} {d : DataW H} {p : List MemPlace} (ht : P.underlying t = some (.slice e)) (he : P.underlying e = some (.struct #[f0, f1, f2, f3, f4])) (ce : P.cellsOf e = 5)
    (o0 : f0.offset = 0) (o1 : f1.offset = 1) (o2 : f2.offset = 2) (o3 : f3.offset = 3) (o4 : f4.offset = 4) (c0 : P.cellsOf f0.type = 1) (c1 : P.cellsOf f1.type = 1) (c2 : P.cellsOf f2.type = 1) (c3 : P.cellsOf f3.type = 1) (c4 : P.cellsOf f4.type = 1)
    (h0 : P.underlying f0.type = some (.int .u64)) (h1 : P.underlying f1.type = some (.int .u64)) (h2 : P.underlying f2.type = some (.int .u64)) (h3 : P.underlying f3.type = some (.int .u64))
    (h4 : P.underlying f4.type = some (.slice es)) (hk : P.underlying es = some .string) (ck : P.cellsOf es = 1)
    (h : DataW.Trod enc P w 0 (fun _ => true) true t (.slice A len cap) d p) : ∃ l, InRC w A len cap l := by
  obtain ⟨fuel, hf⟩ := h
  rcases Go.Deep.open_slice ht hf with ⟨hcs, _⟩ | ⟨a, len', cap', m, n, D, Pl, hcs, _, hl, hm, hmm, _, hi⟩
  · simp [Value.cells] at hcs
    obtain ⟨rfl, rfl, rfl⟩ := hcs
    exact ⟨[], { length := rfl, le := Nat.le_refl _, cap := by omega, ok := fun a ha => (List.not_mem_nil ha).elim, cells := fun h => absurd h (by omega) }⟩
  · simp [Value.cells] at hcs
    obtain ⟨rfl, rfl, rfl⟩ := hcs
    have hmc : m = cap := by simpa using hmm
    subst hmc
    rw [ce] at hi
    have each : ∀ i, ∃ r : RC, i < m → RCOk w w.heap.size r ∧ w.cell? (a.add (i * 5)) = some (.int .u64 r.seq) ∧ w.cell? (a.add (i * 5 + 1)) = some (.int .u64 r.real) ∧
        w.cell? (a.add (i * 5 + 2)) = some (.int .u64 r.mono) ∧ w.cell? (a.add (i * 5 + 3)) = some (.int .u64 r.boot) ∧ w.cell? (a.add (i * 5 + 4)) = some (.slice r.A r.n r.c) := by
      intro i
      by_cases him : i < m
      · obtain ⟨cs, hcc, ht'⟩ := hi i him
        obtain ⟨_, hlen, hget⟩ := World.cells?_some hcc
        match cs, hlen with
        | [v0, v1, v2, v3, v4], _ =>
          obtain ⟨r, hr, rfl, rfl, rfl, rfl, rfl⟩ := rc_fields (et := e) he o0 o1 o2 o3 o4 c0 c1 c2 c3 c4 h0 h1 h2 h3 h4 hk ck ht'
          refine ⟨r, fun _ => ⟨hr, ?_, ?_, ?_, ?_, ?_⟩⟩
          · have := hget 0 (by omega); rwa [Addr.add_add] at this
          · have := hget 1 (by omega); rwa [Addr.add_add] at this
          · have := hget 2 (by omega); rwa [Addr.add_add] at this
          · have := hget 3 (by omega); rwa [Addr.add_add] at this
          · have := hget 4 (by omega); rwa [Addr.add_add] at this
      · exact ⟨⟨0, 0, 0, 0, none, 0, 0, []⟩, fun h => absurd h him⟩
    obtain ⟨f, hfa⟩ := Classical.axiomOfChoice each
    refine ⟨(List.range len).map f, by simp, hl, by unfold maxLen at hm; omega, fun x hx => ?_, fun hn => ?_⟩
    · obtain ⟨i, hi, rfl⟩ := List.mem_map.1 hx
      exact (hfa i (by have := List.mem_range.1 hi; omega)).1
    · obtain ⟨b, off, spot⟩ := a
      have z0 := (hfa 0 (by omega)).2.1
      have hs : spot = none := by simpa [Addr.add] using World.cell?_spot z0
      subst hs
      refine ⟨b, off, rfl, ?_, fun i r hr => ?_⟩
      · rw [row_add5] at z0
        exact World.block_lt_of_cell? w _ z0
      · have hil : i < len := by
          rcases Nat.lt_or_ge i len with h | h
          · exact h
          · rw [List.getElem?_eq_none (by simpa using h)] at hr; cases hr
        simp [hil] at hr
        subst hr
        have := (hfa i (by omega)).2
        rwa [row_add5, row_add5, row_add5, row_add5, row_add5] at this
theorem view_rc1 {r : Reach} {b0 : Nat} {t es : TypeId} {f0 f1 f2 f3 f4 : Field} {v : Value} {d : DataW H} {p : List MemPlace} (he : P.underlying t = some (.struct #[f0, f1, f2, f3, f4])) (ce : P.cellsOf t = 5)
    (o0 : f0.offset = 0) (o1 : f1.offset = 1) (o2 : f2.offset = 2) (o3 : f3.offset = 3) (o4 : f4.offset = 4) (c0 : P.cellsOf f0.type = 1) (c1 : P.cellsOf f1.type = 1) (c2 : P.cellsOf f2.type = 1) (c3 : P.cellsOf f3.type = 1) (c4 : P.cellsOf f4.type = 1)
    (h0 : P.underlying f0.type = some (.int .u64)) (h1 : P.underlying f1.type = some (.int .u64)) (h2 : P.underlying f2.type = some (.int .u64)) (h3 : P.underlying f3.type = some (.int .u64))
    (h4 : P.underlying f4.type = some (.slice es)) (hk : P.underlying es = some .string) (ck : P.cellsOf es = 1) (hv : Value.okWide P w r b0 t v)
    (h : DataW.Trod enc P w 0 (fun _ => true) true t v d p) : ∃ x : RC, v = x.v ∧ RCOk w w.heap.size x := by
  obtain ⟨cs, rfl, hsz⟩ := okWide_struct he hv
  obtain ⟨l⟩ := cs
  obtain ⟨fuel, hf⟩ := h
  match l, hsz.trans ce with
  | [v0, v1, v2, v3, v4], _ =>
    obtain ⟨r, hr, rfl, rfl, rfl, rfl, rfl⟩ := rc_fields (et := t) he o0 o1 o2 o3 o4 c0 c1 c2 c3 c4 h0 h1 h2 h3 h4 hk ck hf
    exact ⟨r, rfl, hr⟩
end

/-- The k-th record, as a round loads it. -/
theorem InRC.at_ {w wr : World} {A : Option Addr} {len cap k : Nat} {l : List RC} (h : InRC w A len cap l) (hb : Below w.heap.size w wr) (hk : k < len) :
    ∃ b off r, A = some ⟨b, off, none⟩ ∧ b < w.heap.size ∧ l[k]? = some r ∧ RCOk w w.heap.size r ∧ wr.cell? ⟨b, off + k * 5, none⟩ = some (.int .u64 r.seq) ∧ wr.cell? ⟨b, off + k * 5 + 1, none⟩ = some (.int .u64 r.real) ∧ wr.cell? ⟨b, off + k * 5 + 2, none⟩ = some (.int .u64 r.mono) ∧ wr.cell? ⟨b, off + k * 5 + 3, none⟩ = some (.int .u64 r.boot) ∧ wr.cell? ⟨b, off + k * 5 + 4, none⟩ = some (.slice r.A r.n r.c) := by
  obtain ⟨r, hr⟩ : ∃ r, l[k]? = some r := ⟨_, List.getElem?_eq_getElem (by rw [h.length]; exact hk)⟩
  obtain ⟨b, off, rfl, hbB, hc⟩ := h.cells (by omega)
  obtain ⟨h0, h1, h2, h3, h4⟩ := hc k r hr
  have g : ∀ o, wr.cell? ⟨b, o, none⟩ = w.cell? ⟨b, o, none⟩ := fun o => hb.cell (p := ⟨b, o, none⟩) hbB
  exact ⟨b, off, r, rfl, hbB, hr, h.ok r (List.mem_of_getElem? hr), (g _).trans h0, (g _).trans h1, (g _).trans h2, (g _).trans h3, (g _).trans h4⟩

end Go.Proofs.Ytjpfbkhjhainpaa

/-
  LAYER 16: A FILE OF ENTRIES THAT IS AS IT WAS WHEN LAST Done: what each call of image makes of it.
-/
set_option linter.unusedVariables false
set_option maxRecDepth 100000
set_option linter.unusedSimpArgs false
namespace Go.Proofs.Ytjpfbkhjhainpaa
open Go.RowKit Go.Shelf

section
variable {k d f : Int} {w w' : World} {base : Nat} {S : Nat → Prop} {p lim : Nat} {was bs : List Int} {R : List DR} {O : List GO} {Lr : List Int} {tl cnt : Nat}

end

end Go.Proofs.Ytjpfbkhjhainpaa

/-
  LAYER 16: Xor, and the document's: contracts.
-/
set_option linter.unusedVariables false
set_option maxRecDepth 100000
set_option linter.unusedSimpArgs false
namespace Go.Proofs.Ytjpfbkhjhainpaa
open Go.RowKit Go.Shelf

/-- The sums of texts, with one another. -/
def xorL (k : Int) (zs : List ByteArray) : Int := zs.foldl (fun x s => bits .xor .u64 x (hsh k (nums s))) 0
theorem xorL_snoc (k : Int) (zs : List ByteArray) (s : ByteArray) : xorL k (zs ++ [s]) = bits .xor .u64 (xorL k zs) (hsh k (nums s)) := by unfold xorL; rw [List.foldl_append]; rfl
theorem xorL_next (k : Int) {zs : List ByteArray} {j : Nat} (h : j < zs.length) : xorL k (zs.take (j + 1)) = bits .xor .u64 (xorL k (zs.take j)) (hsh k (nums (nthT zs j))) := by rw [take_nthT h, xorL_snoc]
theorem xorL_isU (k : Int) (zs : List ByteArray) : IsU (xorL k zs) := by
  rcases List.eq_nil_or_concat zs with rfl | ⟨l, s, rfl⟩
  · show IsU 0; exact ⟨by decide, by decide⟩
  · rw [List.concat_eq_append, xorL_snoc]; exact bits_isU .xor (.inl rfl) _ _

section
variable {k d f : Int} {w w' : World} {base : Nat} {S : Nat → Prop} {p lim : Nat} {was : List Int} {R : List DR} {O : List GO} {Lr : List Int} {tl cnt : Nat}
end

end Go.Proofs.Ytjpfbkhjhainpaa

/-
  LAYER 16: intern: items are put in: its contract.
-/
set_option linter.unusedVariables false
set_option maxRecDepth 100000
set_option linter.unusedSimpArgs false
namespace Go.Proofs.Ytjpfbkhjhainpaa
open Go.RowKit Go.Shelf

theorem Txt.chg {w w' : World} {B n c : Nat} {A : Option Addr} {zs : List ByteArray} {S : Nat → Prop} (h : Txt w B A n c zs) (hc : Chg S w w') (hB : B ≤ w.heap.size) (hA : ∀ ad, A = some ad → ¬ S ad.block) : Txt w' B A n c zs :=
  ⟨h.reads.chg hc hB (fun _ => hA), h.le, h.cap, h.sz⟩

/-- What a list of checked items is. -/
structure Good64 (zs : List ByteArray) : Prop where
  pos : 0 < zs.length
  most : zs.length ≤ 64
  ok : ∀ s ∈ zs, spOk s = true ∧ s.size ≤ 1024
  nodup : zs.Nodup
theorem Good64.nums {zs : List ByteArray} (h : Good64 zs) : (zs.map nums).Nodup := by
  rw [List.nodup_iff_pairwise_ne, List.pairwise_map]
  exact (List.nodup_iff_pairwise_ne.1 h.nodup).imp fun hne he => hne (nums_inj he)

section
variable {k d f : Int} {w w' : World} {base : Nat} {S : Nat → Prop} {p lim : Nat} {was : List Int} {R : List DR} {O : List GO} {Lr : List Int} {tl cnt : Nat}
theorem places_set {ps : List Int} {n j : Nat} (x : Int) (hj : j < n) (hp : ps.length = j) : (cellsOf .u64 (ps ++ List.replicate (n - j) 0)).set j (.int .u64 x) = cellsOf .u64 ((ps ++ [x]) ++ List.replicate (n - (j + 1)) 0) := by
  rw [cellsOf_set]
  congr 1
  rw [List.set_append_right _ _ (by omega), hp, Nat.sub_self, show n - j = (n - (j + 1)) + 1 by omega, List.replicate_succ, List.append_assoc]
  rfl

end

end Go.Proofs.Ytjpfbkhjhainpaa

/-
  LAYER 16: what an entry takes in a file that has none: Append to a list of nothing, Refer of a datum without entries: contracts.
-/
set_option linter.unusedVariables false
set_option maxRecDepth 100000
set_option linter.unusedSimpArgs false
namespace Go.Proofs.Ytjpfbkhjhainpaa
open Go.RowKit Go.Shelf

section
variable {fld : List Int → List Int} {base p : Nat} {S : Nat → Prop} {i k d f h : Int} {m : IM} {bv sv : Value} {ex : Nat} {l : List GO} {w : World}
end

section
variable {k d f : Int} {w w' : World} {base : Nat} {S : Nat → Prop} {p lim : Nat} {was : List Int} {R : List DR} {O : List GO} {Lr : List Int} {tl cnt : Nat}
end

end Go.Proofs.Ytjpfbkhjhainpaa

/-
  LAYER 16: what a chain of calls has turned, and where the file lies behind it; Put of an entry, its size told; one item more that has the entry.
-/
set_option linter.unusedVariables false
set_option maxRecDepth 100000
set_option linter.unusedSimpArgs false
namespace Go.Proofs.Ytjpfbkhjhainpaa
open Go.RowKit Go.Shelf

/-- Of w's blocks those in S alone have turned; T lies in S and in new memory. -/
structure Fp (S : Nat → Prop) (w : World) (T : Nat → Prop) (wr : World) : Prop where
  chg : Chg S w wr
  sub : ∀ q, T q → S q ∨ w.heap.size ≤ q
section
variable {S T : Nat → Prop} {w wr w2 : World}
theorem Fp.refl (S : Nat → Prop) (w : World) : Fp S w S w := ⟨Chg.refl _ _, fun _ h => .inl h⟩
theorem Fp.size (h : Fp S w T wr) : w.heap.size ≤ wr.heap.size := h.chg.size
theorem Fp.step {T' : Nat → Prop} (h : Fp S w T wr) (hc : Chg T wr w2) (hT : ∀ q, T' q → grow T wr w2 q) : Fp S w T' w2 := by
  have hs := h.chg.size
  refine ⟨h.chg.trans hc (fun q hq hg => (h.sub q hg).elim id (fun e => by omega)), fun q hq => ?_⟩
  rcases hT q hq with e | e
  · exact h.sub q e
  · right; omega
theorem Fp.next (h : Fp S w T wr) (hc : Chg T wr w2) : Fp S w (grow T wr w2) w2 := h.step hc (fun _ e => e)
theorem Fp.below (h : Fp S w T wr) (hb : Below wr.heap.size wr w2) : Fp S w T w2 := ⟨h.chg.trans (Chg.of_below hb (Nat.le_refl _) (fun _ => False)) (fun _ _ e => e.elim), h.sub⟩
theorem Fp.drewN (h : Fp S w T wr) (n : Nat) : Fp S w T (wr.drewN n) := ⟨h.chg.drewN n, h.sub⟩
theorem Fp.drew (h : Fp S w T wr) : Fp S w T wr.drew := ⟨h.chg.drew, h.sub⟩
theorem Fp.alloc (h : Fp S w T wr) (o : Obj) : Fp S w T (wr.alloc o) := ⟨h.chg.alloc o, h.sub⟩
theorem Fp.set (h : Fp S w T wr) {a : Addr} (ha : w.heap.size ≤ a.block) (u : Value) : Fp S w T (wr.setCell a u) := ⟨h.chg.setCell (.inl ha) u, h.sub⟩
theorem Fp.fin {base : Nat} (h : Fp S w T wr) (hT : ∀ q, T q → base ≤ q ∧ q < wr.heap.size) : ∀ q, T q → grow S w wr q := fun q hq => (h.sub q hq).elim .inl (fun e => .inr ⟨e, (hT q hq).2⟩)
end

section
variable {k d f : Int} {w w' wr : World} {base : Nat} {S T : Nat → Prop} {p lim : Nat} {was bs : List Int} {R : List DR} {O : List GO} {Lr : List Int} {tl cnt : Nat}
end

end Go.Proofs.Ytjpfbkhjhainpaa
