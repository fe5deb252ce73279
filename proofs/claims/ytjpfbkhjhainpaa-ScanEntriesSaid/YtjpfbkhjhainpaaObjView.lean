/-
  AN OBJECT OF THE DOCUMENT's THAT CAME IN BY VALUE: how it is opened (out of layer 9's ObjLaw, for later layers).
-/
import Derived.Test.YtjpfbkhjhainpaaLOa
import Derived.OpenShut
set_option linter.unusedVariables false
set_option maxRecDepth 100000
set_option linter.unusedSimpArgs false
namespace Go.Proofs.Ytjpfbkhjhainpaa
open Go.RowKit Go.ChangeShapes Go.WideShapes Go.Deep

/-- An object that came in by value, as a walk is told of it. -/
structure ObIn (w : World) (k : Int) (A : Option Addr) (n c : Nat) (ws : List Int) (B : Option Addr) (m d : Nat) (rs : List Int) (C : Option Addr) (p q : Nat) (is : List Int) : Prop where
  kind : (Lit.int .i64 k).wf = true
  wi : InInts w .u64 A n c ws
  ri : InInts w .u8 B m d rs
  ii : InInts w .u64 C p q is

theorem ObIn.reads {w : World} {k : Int} {A : Option Addr} {n c : Nat} {ws : List Int} {B : Option Addr} {m d : Nat} {rs : List Int} {C : Option Addr} {p q : Nat} {is : List Int} (h : ObIn w k A n c ws B m d rs C p q is) : ObR w w.heap.size A n c ws B m d rs C p q is :=
  ⟨h.wi.reads, h.ri.reads, h.ii.reads, ⟨h.wi.le, h.wi.cap⟩, ⟨h.ri.le, h.ri.cap⟩, ⟨h.ii.le, h.ii.cap⟩⟩
theorem ObIn.bytes {w : World} {k : Int} {A : Option Addr} {n c : Nat} {ws : List Int} {B : Option Addr} {m d : Nat} {rs : List Int} {C : Option Addr} {p q : Nat} {is : List Int} (h : ObIn w k A n c ws B m d rs C p q is) : AreB rs := fun z hz => wf_u8_bd (h.ri.wf z hz)
theorem ObIn.words {w : World} {k : Int} {A : Option Addr} {n c : Nat} {ws : List Int} {B : Option Addr} {m d : Nat} {rs : List Int} {C : Option Addr} {p q : Nat} {is : List Int} (h : ObIn w k A n c ws B m d rs C p q is) :
    (∀ z ∈ ws, 0 ≤ z ∧ z < 18446744073709551616) ∧ (∀ z ∈ is, 0 ≤ z ∧ z < 18446744073709551616) := ⟨fun z hz => wf_u64_bd (h.wi.wf z hz), fun z hz => wf_u64_bd (h.ii.wf z hz)⟩

theorem view_ob {H : Type} {enc : TypeId × Value → H} {P : Program} {w : World} {r : Reach} {b0 : Nat} {t e8 e64 : TypeId} {f0 f1 f2 f3 : Field} {v : Value} {d : DataW H} {p : List MemPlace} (he : P.underlying t = some (.struct #[f0, f1, f2, f3])) (ce : P.cellsOf t = 4)
    (o0 : f0.offset = 0) (o1 : f1.offset = 1) (o2 : f2.offset = 2) (o3 : f3.offset = 3) (c0 : P.cellsOf f0.type = 1) (c1 : P.cellsOf f1.type = 1) (c2 : P.cellsOf f2.type = 1) (c3 : P.cellsOf f3.type = 1)
    (h0 : P.underlying f0.type = some (.int .i64)) (h1 : P.underlying f1.type = some (.slice e64)) (h2 : P.underlying f2.type = some (.slice e8)) (h3 : P.underlying f3.type = some (.slice e64))
    (h8 : P.underlying e8 = some (.int .u8)) (h64 : P.underlying e64 = some (.int .u64)) (c8 : P.cellsOf e8 = 1) (c64 : P.cellsOf e64 = 1) (hv : Value.okWide P w r b0 t v)
    (h : DataW.Trod enc P w 0 (fun _ => true) true t v d p) : ∃ k A n c ws B m d rs C p q is, v = obV k A n c B m d C p q ∧ ObIn w k A n c ws B m d rs C p q is := by
  obtain ⟨cs, rfl, hsz⟩ := okWide_struct he hv
  obtain ⟨l⟩ := cs
  obtain ⟨fuel, hf⟩ := h
  match l, hsz.trans ce with
  | [v0, v1, v2, v3], _ =>
    obtain ⟨xs, n', _, _, _, hxl, hfs⟩ := DataW.trod_struct he hf
    have g0 := hfs 0 f0 rfl
    have g1 := hfs 1 f1 rfl
    have g2 := hfs 2 f2 rfl
    have g3 := hfs 3 f3 rfl
    match xs, hxl with
    | [y0, y1, y2, y3], _ =>
      rw [o0, c0] at g0
      rw [o1, c1] at g1
      rw [o2, c2] at g2
      rw [o3, c3] at g3
      simp [Value.cells] at g0 g1 g2 g3
      obtain ⟨k0, e0, _, w0⟩ := DataW.trod_int h0 g0
      obtain ⟨A1, l1, p1, z1, e1, i1⟩ := view_cells h1 h64 c64 g1
      obtain ⟨A2, l2, p2, z2, e2, i2⟩ := view_cells h2 h8 c8 g2
      obtain ⟨A3, l3, p3, z3, e3, i3⟩ := view_cells h3 h64 c64 g3
      injection e0 with e0
      injection e1 with e1
      injection e2 with e2
      injection e3 with e3
      subst e0; subst e1; subst e2; subst e3
      exact ⟨k0, A1, l1, p1, z1, A2, l2, p2, z2, A3, l3, p3, z3, rfl, ⟨w0, i1, i2, i3⟩⟩

theorem ob_view {H : Type} {enc : TypeId × Value → H} {w : World} {r : Reach} {b0 : Nat} {v : Value} {d : DataW H} {p : List MemPlace} (hv : Value.okWide Try.prog w r b0 31 v)
    (h : DataW.Trod enc Try.prog w 0 (fun _ => true) true 31 v d p) : ∃ k A n c ws B m d rs C p q is, v = obV k A n c B m d C p q ∧ ObIn w k A n c ws B m d rs C p q is :=
  view_ob Try.underlying31 (by kernel_rfl) rfl rfl rfl rfl (by kernel_rfl) (by kernel_rfl) (by kernel_rfl) (by kernel_rfl) Try.underlying3 Try.underlying29 Try.underlying22 Try.underlying29 Try.underlying5 Try.underlying47 (by kernel_rfl) (by kernel_rfl) hv h

end Go.Proofs.Ytjpfbkhjhainpaa
