/-
  LAYER 9: WHAT THE STATEMENTS CALL (to, of, light, the chapter's example), AND HOW AN OBJECT THAT CAME IN BY VALUE IS OPENED.
-/
import Derived.Test.YtbgdaiecmpjcbaaObjEnc
import Derived.Test.YtbgdaiecmpjcbaaFrame
import Derived.OpenShut
set_option linter.unusedVariables false
set_option linter.unusedSimpArgs false
namespace Go.Proofs.Ytbgdaiecmpjcbaa
open Go.RowKit Go.ChangeShapes Go.WideShapes Go.Deep

theorem to_any (k : Int) (A : Option Addr) (n c : Nat) (B : Option Addr) (m d : Nat) (C : Option Addr) (p q : Nat) (w : World) :
    Calls Try.prog 10 #[obV k A n c B m d C p q] w fun e w' => e = .returned (obV k A n c B m d C p q) ∧ Below w.heap.size w w' := by
  go_enter Try.func10, Try.ntmps10
  go_wp2
  have hb := Blk.new (w.alloc (.cells #[.int .i64 k, .slice A n c, .slice B m d, .slice C p q] 25)) 30 #[.int .i64 k, .slice A n c, .slice B m d, .slice C p q]
  rw [World.size_alloc] at hb
  refine bodyPost_ret (results_cell_row rfl _ _ (w.heap.size + 1) 30 _ (0, 0) _ rfl hb Try.underlying30 rfl (by kernel_rfl)) rfl ?_
  exact ⟨rfl, ((Below.refl _ _).alloc (Nat.le_refl _) _).alloc (by simp) _⟩

theorem of_any (k : Int) (A : Option Addr) (n c : Nat) (B : Option Addr) (m d : Nat) (C : Option Addr) (p q : Nat) (w : World) :
    Calls Try.prog 24 #[obV k A n c B m d C p q] w fun e w' => e = .returned (obV k A n c B m d C p q) ∧ Below w.heap.size w w' := by
  go_enter Try.func24, Try.ntmps24
  go_wp2
  have hb := Blk.new (w.alloc (.cells #[.int .i64 k, .slice A n c, .slice B m d, .slice C p q] 30)) 25 #[.int .i64 k, .slice A n c, .slice B m d, .slice C p q]
  rw [World.size_alloc] at hb
  refine bodyPost_ret (results_cell_row rfl _ _ (w.heap.size + 1) 25 _ (0, 0) _ rfl hb Try.underlying25 rfl (by kernel_rfl)) rfl ?_
  exact ⟨rfl, ((Below.refl _ _).alloc (Nat.le_refl _) _).alloc (by simp) _⟩

/-- Is an object not too much for a statement? -/
def lightN (n m p : Nat) : Bool := decide (n ≤ 20) && decide (m ≤ 1100) && decide (p ≤ 1100)

theorem light_any (k : Int) (A : Option Addr) (n c : Nat) (B : Option Addr) (m d : Nat) (C : Option Addr) (p q : Nat) (w : World) (hn : n ≤ 9223372036854775807) (hm : m ≤ 9223372036854775807) (hp : p ≤ 9223372036854775807) :
    Calls Try.prog 7 #[obV k A n c B m d C p q] w fun e w' => e = .returned (.bool (lightN n m p)) ∧ Below w.heap.size w w' := by
  by_cases h1 : n ≤ 20
  · by_cases h2 : m ≤ 1100
    · by_cases h3 : p ≤ 1100
      · have t1 : (n : Int) ≤ 20 := by omega
        have t2 : (m : Int) ≤ 1100 := by omega
        have t3 : (p : Int) ≤ 1100 := by omega
        have HF : Hid (true = lightN n m p) := by show _ = _; simp [lightN, h1, h2, h3]
        go_enter Try.func7, Try.ntmps7
        go_wp2
        go_ret
        exact ⟨ret_bool HF.out, (Below.refl _ _).alloc (Nat.le_refl _) _⟩
      · have t1 : (n : Int) ≤ 20 := by omega
        have t2 : (m : Int) ≤ 1100 := by omega
        have t3 : decide ((p : Int) ≤ 1100) = false := by simp; omega
        have HF : Hid (false = lightN n m p) := by show _ = _; simp [lightN, h1, h2, h3]
        clear h3
        go_enter Try.func7, Try.ntmps7
        go_wp2
        go_ret
        exact ⟨ret_bool HF.out, (Below.refl _ _).alloc (Nat.le_refl _) _⟩
    · have t1 : (n : Int) ≤ 20 := by omega
      have t2 : decide ((m : Int) ≤ 1100) = false := by simp; omega
      have HF : Hid (false = lightN n m p) := by show _ = _; simp [lightN, h1, h2]
      clear h2
      go_enter Try.func7, Try.ntmps7
      go_wp2
      go_ret
      exact ⟨ret_bool HF.out, (Below.refl _ _).alloc (Nat.le_refl _) _⟩
  · have t1 : decide ((n : Int) ≤ 20) = false := by simp; omega
    have HF : Hid (false = lightN n m p) := by show _ = _; simp [lightN, h1]
    clear h1
    go_enter Try.func7, Try.ntmps7
    go_wp2
    go_ret
    exact ⟨ret_bool HF.out, (Below.refl _ _).alloc (Nat.le_refl _) _⟩

theorem lightN_len {n m p : Nat} (h : lightN n m p = true) : n ≤ 20 ∧ m ≤ 1100 ∧ p ≤ 1100 := by simp [lightN] at h; omega

theorem awake_any (w : World) : Calls Try.prog 8 #[] w fun e w' => e = .returned (.bool true) ∧ Below w.heap.size w w' := by
  have hx : encR 4 [0] [] [5, 6] = [4, 0, 0, 0, 0, 0, 0, 0, 40, 0, 0, 0, 0, 0, 0, 0, 0, 0, 0, 0, 0, 0, 0, 0, 5, 0, 0, 0, 0, 0, 0, 0, 6, 0, 0, 0, 0, 0, 0, 0] := by decide
  have HX := Lib.hid hx
  clear hx
  have hb1 : Below w.heap.size w ((w.alloc (.cells #[.int .u64 0] 48)).alloc (.cells #[.int .u64 5, .int .u64 6] 48)) := ((Below.refl _ _).alloc (Nat.le_refl _) _).alloc (by simp) _
  have HR : Hid (ObR ((w.alloc (.cells #[.int .u64 0] 48)).alloc (.cells #[.int .u64 5, .int .u64 6] 48)) (w.heap.size + 2) (some ⟨w.heap.size, 0, none⟩) 1 1 [0] none 0 0 [] (some ⟨w.heap.size + 1, 0, none⟩) 2 2 [5, 6]) := by
    have h1 : Reads (w.alloc (.cells #[.int .u64 0] 48)) (w.heap.size + 1) 1 (some ⟨w.heap.size, 0, none⟩) 1 (cellsOf .u64 [0]) := Reads.newN w _ _
    have h2 : Reads ((w.alloc (.cells #[.int .u64 0] 48)).alloc (.cells #[.int .u64 5, .int .u64 6] 48)) ((w.alloc (.cells #[.int .u64 0] 48)).heap.size + 1) 1 (some ⟨(w.alloc (.cells #[.int .u64 0] 48)).heap.size, 0, none⟩) 2 (cellsOf .u64 [5, 6]) := Reads.newN _ _ _
    rw [World.size_alloc] at h2
    exact ⟨(h1.alloc (by simp) _).more (by omega), Reads.none_, h2.more (by omega), ⟨by omega, by omega⟩, ⟨by omega, by omega⟩, ⟨by omega, by omega⟩⟩
  go_enter Try.func8, Try.ntmps8
  go_wp2_with (go_at_call 9; (refine (oenc_any 4 _ 1 1 [0] none 0 0 [] _ 2 2 [5, 6] _ HR.out (by simp)).mono ?_; rintro e w1 ⟨A1, N, c1, rfl, hN, ho, hb, hn1, hc1⟩; rw [HX.out] at hN ho; (have hN2 : N = 40 := hN); subst hN2; have hR := Reads.of_own ho; obtain ⟨b, off, rfl, -, hc⟩ := hR.plain (by omega); have q0 : w1.cell? ⟨b, off, none⟩ = some (.int .u8 4) := hc 0 (by omega); have q8 : w1.cell? ⟨b, off + 8, none⟩ = some (.int .u8 40) := hc 8 (by omega); have q24 : w1.cell? ⟨b, off + 24, none⟩ = some (.int .u8 5) := hc 24 (by omega); clear hc))
  go_ret
  exact ⟨rfl, hb1.trans (hb.mono hb1.size)⟩

/-- An object that came in by value, as a walk is told of it. -/
structure ObIn (w : World) (k : Int) (A : Option Addr) (n c : Nat) (ws : List Int) (B : Option Addr) (m d : Nat) (rs : List Int) (C : Option Addr) (p q : Nat) (is : List Int) : Prop where
  kind : (Lit.int .i64 k).wf = true
  wi : InInts w .u64 A n c ws
  ri : InInts w .u8 B m d rs
  ii : InInts w .u64 C p q is

theorem ObIn.reads {w : World} {k : Int} {A : Option Addr} {n c : Nat} {ws : List Int} {B : Option Addr} {m d : Nat} {rs : List Int} {C : Option Addr} {p q : Nat} {is : List Int} (h : ObIn w k A n c ws B m d rs C p q is) : ObR w w.heap.size A n c ws B m d rs C p q is :=
  ⟨h.wi.reads, h.ri.reads, h.ii.reads, ⟨h.wi.le, h.wi.cap⟩, ⟨h.ri.le, h.ri.cap⟩, ⟨h.ii.le, h.ii.cap⟩⟩
theorem ObIn.bytes {w : World} {k : Int} {A : Option Addr} {n c : Nat} {ws : List Int} {B : Option Addr} {m d : Nat} {rs : List Int} {C : Option Addr} {p q : Nat} {is : List Int} (h : ObIn w k A n c ws B m d rs C p q is) : AreB rs := fun z hz => wf_u8_bd (h.ri.wf z hz)
theorem ObIn.words {w : World} {k : Int} {A : Option Addr} {n c : Nat} {ws : List Int} {B : Option Addr} {m d : Nat} {rs : List Int} {C : Option Addr} {p q : Nat} {is : List Int} (h : ObIn w k A n c ws B m d rs C p q is) :
    (∀ z ∈ ws, 0 ≤ z ∧ z < 18446744073709551616) ∧ (∀ z ∈ is, 0 ≤ z ∧ z < 18446744073709551616) := ⟨fun z hz => wf_u64_bd (h.wi.wf z hz), fun z hz => wf_u64_bd (h.ii.wf z hz)⟩

theorem view_ob {H : Type} {enc : TypeId × Value → H} {P : Program} {w : World} {r : Reach} {b0 : Nat} {t e8 e64 : TypeId} {f0 f1 f2 f3 : Field} {v : Value} {d : DataW H} {p : List MemPlace} (he : P.underlying t = some (.struct #[f0, f1, f2, f3])) (ce : P.cellsOf t = 4)
    (o0 : f0.offset = 0) (o1 : f1.offset = 1) (o2 : f2.offset = 2) (o3 : f3.offset = 3) (c0 : P.cellsOf f0.type = 1) (c1 : P.cellsOf f1.type = 1) (c2 : P.cellsOf f2.type = 1) (c3 : P.cellsOf f3.type = 1)
    (h0 : P.underlying f0.type = some (.int .i64)) (h1 : P.underlying f1.type = some (.slice e64)) (h2 : P.underlying f2.type = some (.slice e8)) (h3 : P.underlying f3.type = some (.slice e64))
    (h8 : P.underlying e8 = some (.int .u8)) (h64 : P.underlying e64 = some (.int .u64)) (c8 : P.cellsOf e8 = 1) (c64 : P.cellsOf e64 = 1) (hv : Value.okWide P w r b0 t v)
    (h : DataW.Trod enc P w 0 (fun _ => true) true t v d p) : ∃ k A n c ws B m d rs C p q is, v = obV k A n c B m d C p q ∧ ObIn w k A n c ws B m d rs C p q is := by
  obtain ⟨cs, rfl, hsz⟩ := okWide_struct he hv
  obtain ⟨l⟩ := cs
  obtain ⟨fuel, hf⟩ := h
  match l, hsz.trans ce with
  | [v0, v1, v2, v3], _ =>
    obtain ⟨xs, n', _, _, _, hxl, hfs⟩ := DataW.trod_struct he hf
    have g0 := hfs 0 f0 rfl
    have g1 := hfs 1 f1 rfl
    have g2 := hfs 2 f2 rfl
    have g3 := hfs 3 f3 rfl
    match xs, hxl with
    | [y0, y1, y2, y3], _ =>
      rw [o0, c0] at g0
      rw [o1, c1] at g1
      rw [o2, c2] at g2
      rw [o3, c3] at g3
      simp [Value.cells] at g0 g1 g2 g3
      obtain ⟨k0, e0, _, w0⟩ := DataW.trod_int h0 g0
      obtain ⟨A1, l1, p1, z1, e1, i1⟩ := view_cells h1 h64 c64 g1
      obtain ⟨A2, l2, p2, z2, e2, i2⟩ := view_cells h2 h8 c8 g2
      obtain ⟨A3, l3, p3, z3, e3, i3⟩ := view_cells h3 h64 c64 g3
      injection e0 with e0
      injection e1 with e1
      injection e2 with e2
      injection e3 with e3
      subst e0; subst e1; subst e2; subst e3
      exact ⟨k0, A1, l1, p1, z1, A2, l2, p2, z2, A3, l3, p3, z3, rfl, ⟨w0, i1, i2, i3⟩⟩

theorem ob_view {H : Type} {enc : TypeId × Value → H} {w : World} {r : Reach} {b0 : Nat} {v : Value} {d : DataW H} {p : List MemPlace} (hv : Value.okWide Try.prog w r b0 25 v)
    (h : DataW.Trod enc Try.prog w 0 (fun _ => true) true 25 v d p) : ∃ k A n c ws B m d rs C p q is, v = obV k A n c B m d C p q ∧ ObIn w k A n c ws B m d rs C p q is :=
  view_ob Try.underlying25 (by kernel_rfl) rfl rfl rfl rfl (by kernel_rfl) (by kernel_rfl) (by kernel_rfl) (by kernel_rfl) Try.underlying3 Try.underlying22 Try.underlying23 Try.underlying22 Try.underlying5 Try.underlying48 (by kernel_rfl) (by kernel_rfl) hv h

end Go.Proofs.Ytbgdaiecmpjcbaa
