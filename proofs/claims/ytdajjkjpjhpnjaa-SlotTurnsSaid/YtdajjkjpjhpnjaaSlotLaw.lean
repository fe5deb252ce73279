/-
  LAYER 11: WHAT THE STATEMENTS CALL (to, of, the chapter's example), AND HOW A SLOT THAT CAME IN BY VALUE IS OPENED.
-/
import Derived.Test.YtdajjkjpjhpnjaaSlotChoose
import Derived.Test.YtdajjkjpjhpnjaaMakeB
import Derived.Test.YtdajjkjpjhpnjaaFrame
import Derived.OpenShut
set_option linter.unusedVariables false
set_option maxRecDepth 100000
set_option linter.unusedSimpArgs false
namespace Go.Proofs.Ytdajjkjpjhpnjaa
open Go.RowKit Go.ChangeShapes Go.WideShapes Go.Deep

theorem to_any (a b c d e f : Int) (w : World) : Calls Try.prog 7 #[sV a b c d e f] w fun en w' => en = .returned (sV a b c d e f) ∧ Below w.heap.size w w' := by
  go_enter Try.func7, Try.ntmps7
  go_wp2
  have hb := Blk.new (w.alloc (.cells (sC a b c d e f) 24)) 27 (sC a b c d e f)
  rw [World.size_alloc] at hb
  refine bodyPost_ret (results_cell_row rfl _ _ (w.heap.size + 1) 27 _ (0, 0) _ rfl hb Try.underlying27 rfl (by kernel_rfl)) rfl ?_
  exact ⟨rfl, (boxed _ _).alloc (by simp) _⟩

theorem of_any (a b c d e f : Int) (w : World) : Calls Try.prog 19 #[sV a b c d e f] w fun en w' => en = .returned (sV a b c d e f) ∧ Below w.heap.size w w' := by
  go_enter Try.func19, Try.ntmps19
  go_wp2
  have hb := Blk.new (w.alloc (.cells (sC a b c d e f) 27)) 24 (sC a b c d e f)
  rw [World.size_alloc] at hb
  refine bodyPost_ret (results_cell_row rfl _ _ (w.heap.size + 1) 24 _ (0, 0) _ rfl hb Try.underlying24 rfl (by kernel_rfl)) rfl ?_
  exact ⟨rfl, (boxed _ _).alloc (by simp) _⟩


theorem drop_zeros (m k : Nat) (h : k + 64 ≤ m) : isS ((List.replicate m 0).drop k) = false := by
  rw [List.drop_replicate, show m - k = 64 + (m - k - 64) by omega, ← List.replicate_append_replicate]
  exact isS_zeros _
theorem pick_zeros (m : Nat) (h : 192 ≤ m) : pickS (List.replicate m 0) = 0 := by
  unfold pickS
  rw [drop_zeros m 128 (by omega), drop_zeros m 64 (by omega)]; rfl
theorem chV_zeros (m : Nat) (h : 192 ≤ m) : chV (List.replicate m 0) = sZ := by
  unfold chV
  rw [pick_zeros m h, if_neg (by decide)]
  unfold decS
  rw [drop_zeros m 64 (by omega)]; rfl
theorem chB_zeros (m : Nat) (h : 192 ≤ m) : chB (List.replicate m 0) = false := by
  unfold chB
  rw [pick_zeros m h]; rfl

/-- What is encoded is decoded. -/
theorem dec_enc {a b c d e f : Int} (hl : ∀ z ∈ [a, b, c, d, e, f], 0 ≤ z ∧ z < 18446744073709551616) (hr : rightS a b f = true) (r : List Int) : decS (encW [a, b, c, d, e, f] ++ r) = sV a b c d e f ∧ isS (encW [a, b, c, d, e, f] ++ r) = true ∧ wordS (encW [a, b, c, d, e, f] ++ r) 0 = a := by
  have h1 := isS_enc (l := [a, b, c, d, e, f]) rfl hl hr r
  have h2 := wrds_enc (l := [a, b, c, d, e, f]) rfl hl r
  rw [wrds_six] at h2
  injection h2 with e0 h2
  injection h2 with e1 h2
  injection h2 with e2 h2
  injection h2 with e3 h2
  injection h2 with e4 h2
  injection h2 with e5 h2
  refine ⟨?_, h1, e0⟩
  unfold decS
  rw [if_pos h1, e0, e1, e2, e3, e4, e5]

theorem splace_3 (w : World) : Calls Try.prog 13 #[sV 3 8 0 0 0 1] w fun en w' => en = .returned (.int .i64 128) ∧ Below w.heap.size w w' := splace_any 3 8 0 0 0 1 w

set_option maxHeartbeats 2000000 in
theorem awake_any (w : World) : Calls Try.prog 14 #[] w fun en w' => en = .returned (.bool true) ∧ Below w.heap.size w w' := by
  obtain ⟨Zc, hZl, hZs, hmk0⟩ := make_bytes 300 (by omega)
  have hmk : ∀ W : World, (Instr.makeSlice 26 (.int .i64 300) (.int .i64 300)).run Try.prog W = .ok (.slice (some ⟨W.heap.size, 0, none⟩) 300 300) (W.alloc (.cells Zc 5)) := hmk0
  have CH := Lib.hid (fun (W : World) (G : Nat) (ht : IsTable (W.alloc (.cells Zc 5)) G) => schoose_any G (some ⟨W.heap.size, 0, none⟩) 300 300 (List.replicate 300 0) (W.alloc (.cells Zc 5)) ((made_blk W).bytes hZl hZs) (Nat.le_refl _) (AreB.zeros 300) (by omega) (by omega) ht)
  rw [chV_zeros 300 (by omega), chB_zeros 300 (by omega)] at CH
  have EN := Lib.hid (fun G wx (ht : IsTable wx G) => senc_yes G 3 8 0 0 0 1 wx (by decide) ht (by omega) (by omega))
  obtain ⟨D1, D2, D3⟩ := dec_enc (a := 3) (b := 8) (c := 0) (d := 0) (e := 0) (f := 1) (by decide) (by decide) []
  rw [List.append_nil] at D1 D2
  have HE := Lib.hid (encW_length (l := [3, 8, 0, 0, 0, 1]) rfl)
  have HZ := encW_bytes [3, 8, 0, 0, 0, 1]
  have DD := Lib.hid (fun G wx (A : Option Addr) (c L : Nat) (hr : Reads wx L 1 A 64 (cellsOf .u8 (encW [3, 8, 0, 0, 0, 1]))) (hL : L ≤ wx.heap.size) (h1 : 64 ≤ c) (h2 : c ≤ 9223372036854775807) (ht : IsTable wx G) => sdec_any G A 64 c _ wx hr hL HZ h1 h2 ht)
  rw [D1, D2] at DD
  clear D1 D2 D3 HZ hmk0 hZl hZs
  generalize encW [3, 8, 0, 0, 0, 1] = x at *
  go_enter Try.func14, Try.ntmps14
  go_wp2_with (first
    | (go_at_call 9; refine (crcMake_any w).mono ?_; rintro en w1 ⟨rfl, ht1, hb1⟩)
    | (go_at_call 17; refine (CH.out _ _ (Blk.alloc ht1 _)).mono ?_; rintro en w2 ⟨rfl, hb2⟩; have ht2 := IsTable.below (Blk.alloc ht1 (.cells Zc 5)) hb2 (Blk.alloc ht1 (.cells Zc 5)).lt; have hb3 := (hb1.alloc hb1.size (.cells Zc 5)).trans (hb2.mono (hb1.alloc hb1.size (.cells Zc 5)).size); have hb4 := hb3.alloc hb3.size (.cells sZC 27))
    | (go_at_call 8; refine (EN.out _ _ (Blk.alloc ht2 _)).mono ?_; rintro en w4 ⟨A1, N1, c1, rfl, hN1, ho1, hb5, hc1, hc2⟩; rw [HE.out] at hN1; subst hN1; have hb6 := hb4.trans (hb5.mono hb4.size); have ht4 := IsTable.below (Blk.alloc ht2 (.cells sZC 27)) hb5 (Blk.alloc ht2 (.cells sZC 27)).lt)
    | (go_at_call 15; refine (DD.out _ w4 A1 c1 w4.heap.size (Reads.of_own ho1) (Nat.le_refl _) hc1 hc2 ht4).mono ?_; rintro en w5 ⟨rfl, hb7⟩; have hb8 := hb6.trans (hb7.mono hb6.size); have hb9 := hb8.alloc hb8.size (.cells (sC 3 8 0 0 0 1) 27))
    | (go_at_call 13; refine (splace_3 _).mono ?_; rintro en w6 ⟨rfl, hb10⟩))
  go_ret
  exact ⟨rfl, hb9.trans (hb10.mono hb9.size)⟩

/-- How a slot that came in by value is opened. -/
theorem view_slot {H : Type} {enc : TypeId × Value → H} {P : Program} {w : World} {r : Reach} {b0 : Nat} {t : TypeId} {f0 f1 f2 f3 f4 f5 : Field} {v : Value} {d : DataW H} {p : List MemPlace} (he : P.underlying t = some (.struct #[f0, f1, f2, f3, f4, f5])) (ce : P.cellsOf t = 6)
    (o0 : f0.offset = 0) (o1 : f1.offset = 1) (o2 : f2.offset = 2) (o3 : f3.offset = 3) (o4 : f4.offset = 4) (o5 : f5.offset = 5) (c0 : P.cellsOf f0.type = 1) (c1 : P.cellsOf f1.type = 1) (c2 : P.cellsOf f2.type = 1) (c3 : P.cellsOf f3.type = 1) (c4 : P.cellsOf f4.type = 1) (c5 : P.cellsOf f5.type = 1)
    (h0 : P.underlying f0.type = some (.int .u64)) (h1 : P.underlying f1.type = some (.int .u64)) (h2 : P.underlying f2.type = some (.int .u64)) (h3 : P.underlying f3.type = some (.int .u64)) (h4 : P.underlying f4.type = some (.int .u64)) (h5 : P.underlying f5.type = some (.int .u64)) (hv : Value.okWide P w r b0 t v)
    (h : DataW.Trod enc P w 0 (fun _ => true) true t v d p) : ∃ a1 a2 a3 a4 a5 a6, v = sV a1 a2 a3 a4 a5 a6 ∧ ((Lit.int .u64 a1).wf = true ∧ (Lit.int .u64 a2).wf = true ∧ (Lit.int .u64 a3).wf = true ∧ (Lit.int .u64 a4).wf = true ∧ (Lit.int .u64 a5).wf = true ∧ (Lit.int .u64 a6).wf = true) := by
  obtain ⟨cs, rfl, hsz⟩ := okWide_struct he hv
  obtain ⟨l⟩ := cs
  obtain ⟨fuel, hf⟩ := h
  match l, hsz.trans ce with
  | [v0, v1, v2, v3, v4, v5], _ =>
    obtain ⟨xs, n', _, _, _, hxl, hfs⟩ := DataW.trod_struct he hf
    have g0 := hfs 0 f0 rfl
    have g1 := hfs 1 f1 rfl
    have g2 := hfs 2 f2 rfl
    have g3 := hfs 3 f3 rfl
    have g4 := hfs 4 f4 rfl
    have g5 := hfs 5 f5 rfl
    match xs, hxl with
    | [y0, y1, y2, y3, y4, y5], _ =>
      rw [o0, c0] at g0
      rw [o1, c1] at g1
      rw [o2, c2] at g2
      rw [o3, c3] at g3
      rw [o4, c4] at g4
      rw [o5, c5] at g5
      simp [Value.cells] at g0 g1 g2 g3 g4 g5
      obtain ⟨k0, e0, _, w0⟩ := DataW.trod_int h0 g0
      obtain ⟨k1, e1, _, w1⟩ := DataW.trod_int h1 g1
      obtain ⟨k2, e2, _, w2⟩ := DataW.trod_int h2 g2
      obtain ⟨k3, e3, _, w3⟩ := DataW.trod_int h3 g3
      obtain ⟨k4, e4, _, w4⟩ := DataW.trod_int h4 g4
      obtain ⟨k5, e5, _, w5⟩ := DataW.trod_int h5 g5
      injection e0 with e0
      injection e1 with e1
      injection e2 with e2
      injection e3 with e3
      injection e4 with e4
      injection e5 with e5
      subst e0; subst e1; subst e2; subst e3; subst e4; subst e5
      exact ⟨k0, k1, k2, k3, k4, k5, rfl, w0, w1, w2, w3, w4, w5⟩

theorem slot_view {H : Type} {enc : TypeId × Value → H} {w : World} {r : Reach} {b0 : Nat} {v : Value} {d : DataW H} {p : List MemPlace} (hv : Value.okWide Try.prog w r b0 24 v)
    (h : DataW.Trod enc Try.prog w 0 (fun _ => true) true 24 v d p) : ∃ a1 a2 a3 a4 a5 a6, v = sV a1 a2 a3 a4 a5 a6 ∧ ((Lit.int .u64 a1).wf = true ∧ (Lit.int .u64 a2).wf = true ∧ (Lit.int .u64 a3).wf = true ∧ (Lit.int .u64 a4).wf = true ∧ (Lit.int .u64 a5).wf = true ∧ (Lit.int .u64 a6).wf = true) :=
  view_slot Try.underlying24 (by kernel_rfl) rfl rfl rfl rfl rfl rfl (by kernel_rfl) (by kernel_rfl) (by kernel_rfl) (by kernel_rfl) (by kernel_rfl) (by kernel_rfl) Try.underlying22 Try.underlying22 Try.underlying22 Try.underlying22 Try.underlying22 Try.underlying22 hv h

end Go.Proofs.Ytdajjkjpjhpnjaa
