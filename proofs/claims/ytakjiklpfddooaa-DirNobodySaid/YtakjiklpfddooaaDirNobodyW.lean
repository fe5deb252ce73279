/-
  LAYER 7: the walk of DirNobody.
-/
import Derived.Test.YtakjiklpfddooaaDirLaw
import Derived.OpenShut
set_option linter.unusedVariables false
set_option linter.unusedSimpArgs false
namespace Go.Proofs.Ytakjiklpfddooaa
open Go.RowKit Go.ChangeShapes Go.WideShapes Go.Deep

/-- A directory that is nil, or that nobody made. -/
def NoDir (v : Value) (w : World) : Prop := Calls Try.prog 27 #[v] w fun e w' => e = .returned (.bool false) ∧ w = w'

theorem no_create {v : Value} {w : World} (h : NoDir v w) (x : ByteArray) (i : Int) : Calls Try.prog 19 #[v, .string x, .int .i64 i] w fun e w' => e = .returned (.int .i64 3) ∧ w = w' := by
  have H := Lib.hid h
  clear h
  go_enter Try.func19, Try.ntmps19
  go_wp2_with (go_at_call 27; refine H.out.mono ?_; rintro e w9 ⟨rfl, rfl⟩)
  go_ret
  exact ⟨rfl, rfl⟩
theorem no_rename {v : Value} {w : World} (h : NoDir v w) (x y : ByteArray) : Calls Try.prog 20 #[v, .string x, .string y] w fun e w' => e = .returned (.int .i64 3) ∧ w = w' := by
  have H := Lib.hid h
  clear h
  go_enter Try.func20, Try.ntmps20
  go_wp2_with (go_at_call 27; refine H.out.mono ?_; rintro e w9 ⟨rfl, rfl⟩)
  go_ret
  exact ⟨rfl, rfl⟩
theorem no_unlink {v : Value} {w : World} (h : NoDir v w) (x : ByteArray) : Calls Try.prog 21 #[v, .string x] w fun e w' => e = .returned (.int .i64 3) ∧ w = w' := by
  have H := Lib.hid h
  clear h
  go_enter Try.func21, Try.ntmps21
  go_wp2_with (go_at_call 27; refine H.out.mono ?_; rintro e w9 ⟨rfl, rfl⟩)
  go_ret
  exact ⟨rfl, rfl⟩
theorem no_get {v : Value} {w : World} (h : NoDir v w) (x : ByteArray) : Calls Try.prog 22 #[v, .string x] w fun e w' => e = .returned (.tuple #[.int .i64 0, .bool false]) ∧ w = w' := by
  have H := Lib.hid h
  clear h
  go_enter Try.func22, Try.ntmps22
  go_wp2_with (go_at_call 27; refine H.out.mono ?_; rintro e w9 ⟨rfl, rfl⟩)
  go_ret2
  exact ⟨rfl, rfl⟩
theorem no_names {v : Value} {w : World} (h : NoDir v w) : Calls Try.prog 16 #[v] w fun e w' => e = .returned (.slice none 0 0) ∧ w = w' := by
  have H := Lib.hid h
  clear h
  go_enter Try.func16, Try.ntmps16
  go_wp2_with (go_at_call 27; refine H.out.mono ?_; rintro e w9 ⟨rfl, rfl⟩)
  go_ret
  exact ⟨rfl, rfl⟩
theorem no_pend {v : Value} {w : World} (h : NoDir v w) : Calls Try.prog 18 #[v] w fun e w' => e = .returned (.int .i64 0) ∧ w = w' := by
  have H := Lib.hid h
  clear h
  go_enter Try.func18, Try.ntmps18
  go_wp2_with (go_at_call 27; refine H.out.mono ?_; rintro e w9 ⟨rfl, rfl⟩)
  go_ret
  exact ⟨rfl, rfl⟩
theorem no_sync {v : Value} {w : World} (h : NoDir v w) : Calls Try.prog 13 #[v] w fun e w' => e = .returned (.tuple #[]) ∧ w = w' := by
  have H := Lib.hid h
  clear h
  go_enter Try.func13, Try.ntmps13
  go_wp2_with (go_at_call 27; refine H.out.mono ?_; rintro e w9 ⟨rfl, rfl⟩)
  refine bodyPost_ret (results_none rfl _ _ _) rfl ?_
  exact ⟨rfl, rfl⟩

/-- The world behind the boxes: the act's, a directory that nobody made, both. -/
abbrev noW (w : World) (kd : Int) (x y : ByteArray) (id : Int) (K : Option Addr) (m d : Nat) : World := ((w.alloc (.cells #[.int .i64 kd, .string x, .string y, .int .i64 id, .slice K m d] 34)).alloc (.cells #[.map none, .map none, .slice none 0 0] 50)).alloc (.cells #[.pointer none, .pointer (some ⟨w.heap.size + 1, 0, none⟩)] 23)
structure NoAt (w w' : World) (kd : Int) (x y : ByteArray) (id : Int) (K : Option Addr) (m d : Nat) : Prop where
  below : Below w.heap.size w w'
  a1 : w'.cell? ⟨w.heap.size, 1, none⟩ = some (.string x)
  a2 : w'.cell? ⟨w.heap.size, 2, none⟩ = some (.string y)
  a3 : w'.cell? ⟨w.heap.size, 3, none⟩ = some (.int .i64 id)
  a4 : w'.cell? ⟨w.heap.size, 4, none⟩ = some (.slice K m d)
  z0 : w'.cell? ⟨w.heap.size + 1, 0, none⟩ = some (.map none)
  p0 : w'.cell? ⟨w.heap.size + 1 + 1, 0, none⟩ = some (.pointer none)
  p1 : w'.cell? ⟨w.heap.size + 1 + 1, 1, none⟩ = some (.pointer (some ⟨w.heap.size + 1, 0, none⟩))
theorem noW_at (w : World) (kd : Int) (x y : ByteArray) (id : Int) (K : Option Addr) (m d : Nat) : NoAt w (noW w kd x y id K m d) kd x y id K m d := by
  have s1 : (w.alloc (.cells #[.int .i64 kd, .string x, .string y, .int .i64 id, .slice K m d] 34)).heap.size = w.heap.size + 1 := by simp
  have s2 : ((w.alloc (.cells #[.int .i64 kd, .string x, .string y, .int .i64 id, .slice K m d] 34)).alloc (.cells #[.map none, .map none, .slice none 0 0] 50)).heap.size = w.heap.size + 1 + 1 := by simp
  have h1 := ((Blk.new w 34 #[.int .i64 kd, .string x, .string y, .int .i64 id, .slice K m d]).alloc (.cells #[.map none, .map none, .slice none 0 0] 50)).alloc (.cells #[.pointer none, .pointer (some ⟨w.heap.size + 1, 0, none⟩)] 23)
  have h2 := Blk.new (w.alloc (.cells #[.int .i64 kd, .string x, .string y, .int .i64 id, .slice K m d] 34)) 50 #[.map none, .map none, .slice none 0 0]
  rw [s1] at h2
  have h2' := h2.alloc (.cells #[.pointer none, .pointer (some ⟨w.heap.size + 1, 0, none⟩)] 23)
  have h3 := Blk.new ((w.alloc (.cells #[.int .i64 kd, .string x, .string y, .int .i64 id, .slice K m d] 34)).alloc (.cells #[.map none, .map none, .slice none 0 0] 50)) 23 #[.pointer none, .pointer (some ⟨w.heap.size + 1, 0, none⟩)]
  rw [s2] at h3
  exact ⟨(((Below.refl _ _).alloc (Nat.le_refl _) _).alloc (by simp) _).alloc (by simp; omega) _, h1.cell 1, h1.cell 2, h1.cell 3, h1.cell 4, h2'.cell 0, h3.cell 0, h3.cell 1⟩

set_option maxHeartbeats 4000000 in
set_option maxRecDepth 100000 in
theorem nobody_law (a : ActD) (w : World) (hok : ActDOk w a) :
    Calls Try.prog 5 #[.agg #[.int .i64 a.kind, .string a.a, .string a.b, .int .i64 a.id, .slice a.K a.m a.d]] w fun e w' => e = .returned (.bool true) ∧ Below w.heap.size w w' := by
  clear hok
  obtain ⟨kd, x, y, id, K, m, d, ks⟩ := a
  simp only
  go_enter Try.func5, Try.ntmps5
  go_wp2
  obtain ⟨hb, a1, a2, a3, a4, z0, p0, p1⟩ := noW_at w kd x y id K m d
  unfold noW at hb a1 a2 a3 a4 z0 p0 p1
  generalize ((w.alloc (.cells #[.int .i64 kd, .string x, .string y, .int .i64 id, .slice K m d] 34)).alloc (.cells #[.map none, .map none, .slice none 0 0] 50)).alloc (.cells #[.pointer none, .pointer (some ⟨w.heap.size + 1, 0, none⟩)] 23) = wN at *
  have NN := Lib.hid (show NoDir (.pointer none) wN from made_nil wN)
  have NZ := Lib.hid (show NoDir (.pointer (some ⟨w.heap.size + 1, 0, none⟩)) wN from made_zero _ wN z0)
  have HB := Lib.hid hb
  clear hb z0
  go_loop [4, 5, 6, 12] (fun _ _ _ i => ∃ j : Nat, j ≤ 2 ∧ i = .int .i64 j) (fun _ _ _ i => 2 - (intOf i).toNat)
  case atStart => exact ⟨0, Nat.zero_le _, rfl⟩
  case round =>
    obtain ⟨j, hj, rfl⟩ := hrel
    have hj3 : j = 0 ∨ j = 1 ∨ j = 2 := by omega
    rcases hj3 with rfl | rfl | rfl
    · go_wp2_with (first
        | (go_at_call 19; refine (no_create NN.out _ _).mono ?_; rintro e w9 ⟨rfl, rfl⟩)
        | (go_at_call 20; refine (no_rename NN.out _ _).mono ?_; rintro e w9 ⟨rfl, rfl⟩)
        | (go_at_call 21; refine (no_unlink NN.out _).mono ?_; rintro e w9 ⟨rfl, rfl⟩)
        | (go_at_call 22; refine (no_get NN.out _).mono ?_; rintro e w9 ⟨rfl, rfl⟩)
        | (go_at_call 16; refine (no_names NN.out).mono ?_; rintro e w9 ⟨rfl, rfl⟩)
        | (go_at_call 18; refine (no_pend NN.out).mono ?_; rintro e w9 ⟨rfl, rfl⟩))
      go_round
      case rel => exact ⟨1, by omega, rfl⟩
      case measure => simp [intOf]
    · go_wp2_with (first
        | (go_at_call 19; refine (no_create NZ.out _ _).mono ?_; rintro e w9 ⟨rfl, rfl⟩)
        | (go_at_call 20; refine (no_rename NZ.out _ _).mono ?_; rintro e w9 ⟨rfl, rfl⟩)
        | (go_at_call 21; refine (no_unlink NZ.out _).mono ?_; rintro e w9 ⟨rfl, rfl⟩)
        | (go_at_call 22; refine (no_get NZ.out _).mono ?_; rintro e w9 ⟨rfl, rfl⟩)
        | (go_at_call 16; refine (no_names NZ.out).mono ?_; rintro e w9 ⟨rfl, rfl⟩)
        | (go_at_call 18; refine (no_pend NZ.out).mono ?_; rintro e w9 ⟨rfl, rfl⟩))
      go_round
      case rel => exact ⟨2, by omega, rfl⟩
      case measure => simp [intOf]
    · go_wp2_with (first
        | (go_at_call 13; refine (no_sync NN.out).mono ?_; rintro e w9 ⟨rfl, rfl⟩)
        | (go_at_call 14; refine (dcrash_nil _ wN).mono ?_; rintro e w9 ⟨rfl, rfl⟩)
        | (go_at_call 7; refine (awake_any _).mono ?_; rintro e w5 ⟨rfl, hb5⟩))
      go_ret
      exact ⟨rfl, HB.out.trans (hb5.mono HB.out.size)⟩

/-- An act that came in by value, as a walk is told of it. -/
theorem view_actD {H : Type} {enc : TypeId × Value → H} {P : Program} {w : World} {r : Reach} {b0 : Nat} {t ek : TypeId} {f0 f1 f2 f3 f4 : Field} {v : Value} {d : DataW H} {p : List MemPlace} (he : P.underlying t = some (.struct #[f0, f1, f2, f3, f4])) (ce : P.cellsOf t = 5)
    (o0 : f0.offset = 0) (o1 : f1.offset = 1) (o2 : f2.offset = 2) (o3 : f3.offset = 3) (o4 : f4.offset = 4) (c0 : P.cellsOf f0.type = 1) (c1 : P.cellsOf f1.type = 1) (c2 : P.cellsOf f2.type = 1) (c3 : P.cellsOf f3.type = 1) (c4 : P.cellsOf f4.type = 1)
    (h0 : P.underlying f0.type = some (.int .i64)) (h1 : P.underlying f1.type = some .string) (h2 : P.underlying f2.type = some .string) (h3 : P.underlying f3.type = some (.int .i64))
    (h4 : P.underlying f4.type = some (.slice ek)) (hk : P.underlying ek = some .bool) (ck : P.cellsOf ek = 1) (hv : Value.okWide P w r b0 t v)
    (h : DataW.Trod enc P w 0 (fun _ => true) true t v d p) : ∃ a : ActD, v = .agg #[.int .i64 a.kind, .string a.a, .string a.b, .int .i64 a.id, .slice a.K a.m a.d] ∧ ActDOk w a := by
  obtain ⟨cs, rfl, hsz⟩ := okWide_struct he hv
  obtain ⟨l⟩ := cs
  obtain ⟨fuel, hf⟩ := h
  match l, hsz.trans ce with
  | [v0, v1, v2, v3, v4], _ =>
    obtain ⟨xs, n', _, _, _, hxl, hfs⟩ := DataW.trod_struct he hf
    have g0 := hfs 0 f0 rfl
    have g1 := hfs 1 f1 rfl
    have g2 := hfs 2 f2 rfl
    have g3 := hfs 3 f3 rfl
    have g4 := hfs 4 f4 rfl
    match xs, hxl with
    | [y0, y1, y2, y3, y4], _ =>
      rw [o0, c0] at g0
      rw [o1, c1] at g1
      rw [o2, c2] at g2
      rw [o3, c3] at g3
      rw [o4, c4] at g4
      simp [Value.cells] at g0 g1 g2 g3 g4
      obtain ⟨k0, e0, _, w0⟩ := DataW.trod_int h0 g0
      obtain ⟨k1, e1, _, w1⟩ := DataW.trod_string h1 g1
      obtain ⟨k2, e2, _, w2⟩ := DataW.trod_string h2 g2
      obtain ⟨k3, e3, _, w3⟩ := DataW.trod_int h3 g3
      obtain ⟨A4, l4, p4, z4, e4, i4⟩ := view_bcells h4 hk ck g4
      injection e0 with e0
      injection e1 with e1
      injection e2 with e2
      injection e3 with e3
      injection e4 with e4
      subst e0; subst e1; subst e2; subst e3; subst e4
      exact ⟨⟨k0, k1, k2, k3, A4, l4, p4, z4⟩, rfl, ⟨w0, w1, w2, w3, i4⟩⟩
theorem act_view {H : Type} {enc : TypeId × Value → H} {w : World} {r : Reach} {b0 : Nat} {v : Value} {d : DataW H} {p : List MemPlace} (hv : Value.okWide Try.prog w r b0 34 v)
    (h : DataW.Trod enc Try.prog w 0 (fun _ => true) true 34 v d p) : ∃ a : ActD, v = .agg #[.int .i64 a.kind, .string a.a, .string a.b, .int .i64 a.id, .slice a.K a.m a.d] ∧ ActDOk w a :=
  view_actD Try.underlying34 (by kernel_rfl) rfl rfl rfl rfl rfl (by kernel_rfl) (by kernel_rfl) (by kernel_rfl) (by kernel_rfl) (by kernel_rfl) Try.underlying3 Try.underlying9 Try.underlying9 Try.underlying3 Try.underlying32 Try.underlying4 (by kernel_rfl) hv h

end Go.Proofs.Ytakjiklpfddooaa
