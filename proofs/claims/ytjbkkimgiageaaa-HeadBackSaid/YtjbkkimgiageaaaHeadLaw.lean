/-
  LAYER 10: WHAT THE STATEMENTS CALL (to, of, the chapter's example), AND HOW A HEADER THAT CAME IN BY VALUE IS OPENED.
-/
import Derived.Test.YtjbkkimgiageaaaHeadFn
import Derived.Test.YtjbkkimgiageaaaFrame
import Derived.OpenShut
set_option linter.unusedVariables false
set_option linter.unusedSimpArgs false
namespace Go.Proofs.Ytjbkkimgiageaaa
open Go.RowKit Go.ChangeShapes Go.WideShapes Go.Deep

theorem to_any (i k d f m : Int) (w : World) : Calls Try.prog 7 #[hdV i k d f m] w fun e w' => e = .returned (hdV i k d f m) ∧ Below w.heap.size w w' := by
  go_enter Try.func7, Try.ntmps7
  go_wp2
  have hb := Blk.new (w.alloc (.cells #[.int .u64 i, .int .u64 k, .int .i64 d, .int .i64 f, .int .u64 m] 24)) 27 #[.int .u64 i, .int .u64 k, .int .i64 d, .int .i64 f, .int .u64 m]
  rw [World.size_alloc] at hb
  refine bodyPost_ret (results_cell_row rfl _ _ (w.heap.size + 1) 27 _ (0, 0) _ rfl hb Try.underlying27 rfl (by kernel_rfl)) rfl ?_
  exact ⟨rfl, (boxed _ _).alloc (by simp) _⟩

theorem of_any (i k d f m : Int) (w : World) : Calls Try.prog 21 #[hdV i k d f m] w fun e w' => e = .returned (hdV i k d f m) ∧ Below w.heap.size w w' := by
  go_enter Try.func21, Try.ntmps21
  go_wp2
  have hb := Blk.new (w.alloc (.cells #[.int .u64 i, .int .u64 k, .int .i64 d, .int .i64 f, .int .u64 m] 27)) 24 #[.int .u64 i, .int .u64 k, .int .i64 d, .int .i64 f, .int .u64 m]
  rw [World.size_alloc] at hb
  refine bodyPost_ret (results_cell_row rfl _ _ (w.heap.size + 1) 24 _ (0, 0) _ rfl hb Try.underlying24 rfl (by kernel_rfl)) rfl ?_
  exact ⟨rfl, (boxed _ _).alloc (by simp) _⟩

theorem awake_any (w : World) : Calls Try.prog 18 #[] w fun e w' => e = .returned (.bool true) ∧ Below w.heap.size w w' := by
  have HB := Lib.hid (boxed w (.cells #[.int .u64 0, .int .u64 0, .int .i64 4, .int .i64 2, .int .u64 0] 27))
  have HA := Lib.hid (fun wx (hx : Below (w.alloc (.cells #[.int .u64 0, .int .u64 0, .int .i64 4, .int .i64 2, .int .u64 0] 27)).heap.size (w.alloc (.cells #[.int .u64 0, .int .u64 0, .int .i64 4, .int .i64 2, .int .u64 0] 27)) wx) => (hdAt_of hx : HdAt wx w.heap.size 0 0 4 2 0))
  go_enter Try.func18, Try.ntmps18
  go_wp2_with (first
    | (go_at_call 14; refine (hfield_any 0 0 4 2 0 _ (by omega) (by omega)).mono ?_; rintro e w1 ⟨rfl, hb1⟩; obtain ⟨x0, x1, x2, x3, x4⟩ := HA.out _ hb1)
    | (go_at_call 15; refine (hobjects_any 0 0 4 2 0 _ (by omega) (by omega) (by omega) (by omega)).mono ?_; rintro e w2 ⟨rfl, hb2⟩; have hb2 := hb1.trans (hb2.mono hb1.size); obtain ⟨y0, y1, y2, y3, y4⟩ := HA.out _ hb2)
    | (go_at_call 13; refine (hdata_any 0 0 4 2 0 _).mono ?_; rintro e w3 ⟨rfl, hb3⟩; have hb3 := hb2.trans (hb3.mono hb2.size)))
  go_ret
  exact ⟨rfl, HB.out.trans (hb3.mono HB.out.size)⟩

/-- How a header that came in by value is opened. -/
theorem view_head {H : Type} {enc : TypeId × Value → H} {P : Program} {w : World} {r : Reach} {b0 : Nat} {t : TypeId} {f0 f1 f2 f3 f4 : Field} {v : Value} {d : DataW H} {p : List MemPlace} (he : P.underlying t = some (.struct #[f0, f1, f2, f3, f4])) (ce : P.cellsOf t = 5)
    (o0 : f0.offset = 0) (o1 : f1.offset = 1) (o2 : f2.offset = 2) (o3 : f3.offset = 3) (o4 : f4.offset = 4) (c0 : P.cellsOf f0.type = 1) (c1 : P.cellsOf f1.type = 1) (c2 : P.cellsOf f2.type = 1) (c3 : P.cellsOf f3.type = 1) (c4 : P.cellsOf f4.type = 1)
    (h0 : P.underlying f0.type = some (.int .u64)) (h1 : P.underlying f1.type = some (.int .u64)) (h2 : P.underlying f2.type = some (.int .i64)) (h3 : P.underlying f3.type = some (.int .i64)) (h4 : P.underlying f4.type = some (.int .u64)) (hv : Value.okWide P w r b0 t v)
    (h : DataW.Trod enc P w 0 (fun _ => true) true t v d p) : ∃ i k dd f m, v = hdV i k dd f m ∧ ((Lit.int .u64 i).wf = true ∧ (Lit.int .u64 k).wf = true ∧ (Lit.int .i64 dd).wf = true ∧ (Lit.int .i64 f).wf = true ∧ (Lit.int .u64 m).wf = true) := by
  obtain ⟨cs, rfl, hsz⟩ := okWide_struct he hv
  obtain ⟨l⟩ := cs
  obtain ⟨fuel, hf⟩ := h
  match l, hsz.trans ce with
  | [v0, v1, v2, v3, v4], _ =>
    obtain ⟨xs, n', _, _, _, hxl, hfs⟩ := DataW.trod_struct he hf
    have g0 := hfs 0 f0 rfl
    have g1 := hfs 1 f1 rfl
    have g2 := hfs 2 f2 rfl
    have g3 := hfs 3 f3 rfl
    have g4 := hfs 4 f4 rfl
    match xs, hxl with
    | [y0, y1, y2, y3, y4], _ =>
      rw [o0, c0] at g0
      rw [o1, c1] at g1
      rw [o2, c2] at g2
      rw [o3, c3] at g3
      rw [o4, c4] at g4
      simp [Value.cells] at g0 g1 g2 g3 g4
      obtain ⟨k0, e0, _, w0⟩ := DataW.trod_int h0 g0
      obtain ⟨k1, e1, _, w1⟩ := DataW.trod_int h1 g1
      obtain ⟨k2, e2, _, w2⟩ := DataW.trod_int h2 g2
      obtain ⟨k3, e3, _, w3⟩ := DataW.trod_int h3 g3
      obtain ⟨k4, e4, _, w4⟩ := DataW.trod_int h4 g4
      injection e0 with e0
      injection e1 with e1
      injection e2 with e2
      injection e3 with e3
      injection e4 with e4
      subst e0; subst e1; subst e2; subst e3; subst e4
      exact ⟨k0, k1, k2, k3, k4, rfl, w0, w1, w2, w3, w4⟩

theorem head_view {H : Type} {enc : TypeId × Value → H} {w : World} {r : Reach} {b0 : Nat} {v : Value} {d : DataW H} {p : List MemPlace} (hv : Value.okWide Try.prog w r b0 24 v)
    (h : DataW.Trod enc Try.prog w 0 (fun _ => true) true 24 v d p) : ∃ i k dd f m, v = hdV i k dd f m ∧ ((Lit.int .u64 i).wf = true ∧ (Lit.int .u64 k).wf = true ∧ (Lit.int .i64 dd).wf = true ∧ (Lit.int .i64 f).wf = true ∧ (Lit.int .u64 m).wf = true) :=
  view_head Try.underlying24 (by kernel_rfl) rfl rfl rfl rfl rfl (by kernel_rfl) (by kernel_rfl) (by kernel_rfl) (by kernel_rfl) (by kernel_rfl) Try.underlying22 Try.underlying22 Try.underlying3 Try.underlying3 Try.underlying22 hv h

end Go.Proofs.Ytjbkkimgiageaaa
