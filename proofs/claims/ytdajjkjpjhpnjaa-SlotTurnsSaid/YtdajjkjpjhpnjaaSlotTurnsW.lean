/-
  LAYER 11: the walk of SlotTurns.
-/
import Derived.Test.YtdajjkjpjhpnjaaSlotTurnsM
import Derived.Test.YtdajjkjpjhpnjaaSlotWritesW
set_option linter.unusedVariables false
set_option linter.unusedSimpArgs false
set_option maxRecDepth 100000
namespace Go.Proofs.Ytdajjkjpjhpnjaa
open Go.RowKit

theorem slAt_bs {w0 wx : World} {G gB : Nat} {a b c d e f a2 b2 c2 d2 e2 f2 : Int} {zs : List Int} (h : TurnsAt w0 G gB a b c d e f a2 b2 c2 d2 e2 f2 zs wx) : SlAt wx w0.heap.size a b c d e f := slAt_blk h.bs
theorem slAt_br {w0 wx : World} {G gB : Nat} {a b c d e f a2 b2 c2 d2 e2 f2 : Int} {zs : List Int} (h : TurnsAt w0 G gB a b c d e f a2 b2 c2 d2 e2 f2 zs wx) : SlAt wx (w0.heap.size + 1) a2 b2 c2 d2 e2 f2 := slAt_blk h.br

theorem boxed2 {w wx : World} {a b c d e f a1 b2 c2 d2 e2 f2 : Int} (h : Below ((w.alloc (.cells (sC a b c d e f) 24)).alloc (.cells (sC a1 b2 c2 d2 e2 f2) 24)).heap.size ((w.alloc (.cells (sC a b c d e f) 24)).alloc (.cells (sC a1 b2 c2 d2 e2 f2) 24)) wx) :
    Blk wx w.heap.size 24 (sC a b c d e f) ∧ Blk wx (w.heap.size + 1) 24 (sC a1 b2 c2 d2 e2 f2) ∧ Below w.heap.size w wx := by
  have h1 := (Blk.new w 24 (sC a b c d e f)).alloc (.cells (sC a1 b2 c2 d2 e2 f2) 24)
  have h2 := Blk.new (w.alloc (.cells (sC a b c d e f) 24)) 24 (sC a1 b2 c2 d2 e2 f2)
  have h3 : Below w.heap.size w ((w.alloc (.cells (sC a b c d e f) 24)).alloc (.cells (sC a1 b2 c2 d2 e2 f2) 24)) := (boxed _ _).alloc (by simp) _
  rw [World.size_alloc] at h2
  exact ⟨h1.below h h1.lt, h2.below h h2.lt, h3.trans (h.mono h3.size)⟩

set_option maxHeartbeats 4000000 in
theorem turns_off (a b c d e f a1 b2 c2 d2 e2 f2 : Int) (k : Bool) (w : World) (ha : 0 ≤ a ∧ a < 18446744073709551616) (hb : 0 ≤ b) (ha1 : 0 ≤ a1) (hb2 : 0 ≤ b2) (hno : rightS a b f = false ∨ rightS a1 b2 f2 = false ∨ a = 18446744073709551615) :
    Calls Try.prog 5 #[sV a b c d e f, sV a1 b2 c2 d2 e2 f2, .bool k] w fun en w' => en = .returned (.bool true) ∧ Below w.heap.size w w' := by
  have R1 := Lib.hid (fun wx => rsright_any a b c d e f wx ha.1 hb)
  have R2 := Lib.hid (fun wx => rsright_any a1 b2 c2 d2 e2 f2 wx ha1 hb2)
  have HB0 : Hid (Below w.heap.size w ((w.alloc (.cells (sC a b c d e f) 24)).alloc (.cells (sC a1 b2 c2 d2 e2 f2) 24))) := (boxed _ _).alloc (by simp) _
  have HXY : Hid (∀ wx, Below ((w.alloc (.cells (sC a b c d e f) 24)).alloc (.cells (sC a1 b2 c2 d2 e2 f2) 24)).heap.size ((w.alloc (.cells (sC a b c d e f) 24)).alloc (.cells (sC a1 b2 c2 d2 e2 f2) 24)) wx → SlAt wx w.heap.size a b c d e f ∧ SlAt wx (w.heap.size + 1) a1 b2 c2 d2 e2 f2) := fun wx hx => ⟨slAt_blk (boxed2 hx).1, slAt_blk (boxed2 hx).2.1⟩
  have HN := Lib.hid hno
  have m1 : True := trivial
  generalize h1 : rightS a b f = r1 at *
  generalize h2 : rightS a1 b2 f2 = r2 at *
  clear hno ha hb ha1 hb2
  cases r1
  · skip
    clear h1 h2 HN
    go_enter Try.func5, Try.ntmps5
    go_wp2_with (first
      | (go_at_call 12; clear m1; refine (R1.out _).mono ?_; rintro en w1 ⟨rfl, hb1⟩; have hb2 := HB0.out.trans (hb1.mono HB0.out.size); obtain ⟨⟨x0, x1, x2, x3, x4, x5⟩, ⟨y0, y1, y2, y3, y4, y5⟩⟩ := HXY.out _ hb1)
      | (go_at_call 12; refine (R2.out _).mono ?_; rintro en w2 ⟨rfl, hb3⟩; have hb2 := hb2.trans (hb3.mono hb2.size); obtain ⟨⟨x0, x1, x2, x3, x4, x5⟩, ⟨y0, y1, y2, y3, y4, y5⟩⟩ := HXY.out _ (hb1.trans (hb3.mono hb1.size)))
      | (go_at_call 14; refine (awake_any _).mono ?_; rintro en w5 ⟨rfl, hb5⟩))
    go_ret
    exact ⟨rfl, hb2.trans (hb5.mono hb2.size)⟩
  cases r2
  · skip
    clear h1 h2 HN
    go_enter Try.func5, Try.ntmps5
    go_wp2_with (first
      | (go_at_call 12; clear m1; refine (R1.out _).mono ?_; rintro en w1 ⟨rfl, hb1⟩; have hb2 := HB0.out.trans (hb1.mono HB0.out.size); obtain ⟨⟨x0, x1, x2, x3, x4, x5⟩, ⟨y0, y1, y2, y3, y4, y5⟩⟩ := HXY.out _ hb1)
      | (go_at_call 12; refine (R2.out _).mono ?_; rintro en w2 ⟨rfl, hb3⟩; have hb2 := hb2.trans (hb3.mono hb2.size); obtain ⟨⟨x0, x1, x2, x3, x4, x5⟩, ⟨y0, y1, y2, y3, y4, y5⟩⟩ := HXY.out _ (hb1.trans (hb3.mono hb1.size)))
      | (go_at_call 14; refine (awake_any _).mono ?_; rintro en w5 ⟨rfl, hb5⟩))
    go_ret
    exact ⟨rfl, hb2.trans (hb5.mono hb2.size)⟩
  · obtain rfl : a = 18446744073709551615 := by
      rcases HN.out with h | h | h
      · cases h
      · cases h
      · exact h
    clear h1 h2 HN
    go_enter Try.func5, Try.ntmps5
    go_wp2_with (first
      | (go_at_call 12; clear m1; refine (R1.out _).mono ?_; rintro en w1 ⟨rfl, hb1⟩; have hb2 := HB0.out.trans (hb1.mono HB0.out.size); obtain ⟨⟨x0, x1, x2, x3, x4, x5⟩, ⟨y0, y1, y2, y3, y4, y5⟩⟩ := HXY.out _ hb1)
      | (go_at_call 12; refine (R2.out _).mono ?_; rintro en w2 ⟨rfl, hb3⟩; have hb2 := hb2.trans (hb3.mono hb2.size); obtain ⟨⟨x0, x1, x2, x3, x4, x5⟩, ⟨y0, y1, y2, y3, y4, y5⟩⟩ := HXY.out _ (hb1.trans (hb3.mono hb1.size)))
      | (go_at_call 14; refine (awake_any _).mono ?_; rintro en w5 ⟨rfl, hb5⟩))
    go_ret
    exact ⟨rfl, hb2.trans (hb5.mono hb2.size)⟩

set_option maxHeartbeats 4000000 in
theorem turns_on (a b c d e f a1 b2 c2 d2 e2 f2 : Int) (k : Bool) (w : World) (hl : ∀ z ∈ [a, b, c, d, e, f], 0 ≤ z ∧ z < 18446744073709551616) (hl1 : ∀ z ∈ [a1, b2, c2, d2, e2, f2], 0 ≤ z ∧ z < 18446744073709551616) (hr1 : rightS a b f = true) (hr2 : rightS a1 b2 f2 = true) (hm : a ≠ 18446744073709551615) :
    Calls Try.prog 5 #[sV a b c d e f, sV a1 b2 c2 d2 e2 f2, .bool k] w fun en w' => en = .returned (.bool true) ∧ Below w.heap.size w w' := by
  have ha := hl a (by simp)
  have hb := hl b (by simp)
  have ha1 := hl1 a1 (by simp)
  have hb2 := hl1 b2 (by simp)
  obtain ⟨a2, ha2⟩ : ∃ a2, a + 1 = a2 := ⟨_, rfl⟩
  have hl2 : ∀ z ∈ [a2, b2, c2, d2, e2, f2], 0 ≤ z ∧ z < 18446744073709551616 := fun z hz => by
    rcases List.mem_cons.1 hz with h | h
    · omega
    · exact hl1 z (List.mem_cons_of_mem _ h)
  have hr3 : rightS a2 b2 f2 = true := by
    unfold rightS at hr2 ⊢
    rw [decide_eq_true (show a2 ≠ 0 by omega)]
    simp at hr2 ⊢
    exact ⟨hr2.1.2, hr2.2⟩
  have R1 := Lib.hid (fun wx => rsright_any a b c d e f wx ha.1 hb.1)
  have R2 := Lib.hid (fun wx => rsright_any a1 b2 c2 d2 e2 f2 wx ha1.1 hb2.1)
  rw [hr1] at R1
  rw [hr2] at R2
  obtain ⟨po, hpo⟩ : ∃ po : Nat, 64 + 64 * (a % 2) = (po : Int) := ⟨(64 + 64 * (a % 2)).toNat, by omega⟩
  obtain ⟨qo, hqo⟩ : ∃ qo : Nat, 64 + 64 * (a2 % 2) = (qo : Int) := ⟨(64 + 64 * (a2 % 2)).toNat, by omega⟩
  have hpq : Places po qo := by unfold Places; omega
  have P1 := Lib.hid (fun wx => splace_any a b c d e f wx)
  have P2 := Lib.hid (fun wx => splace_any a2 b2 c2 d2 e2 f2 wx)
  rw [hpo] at P1
  rw [hqo] at P2
  have E1 := Lib.hid (fun G wx (ht : IsTable wx G) => senc_yes G a b c d e f wx hr1 ht ha.1 hb.1)
  have E2 := Lib.hid (fun G wx (ht : IsTable wx G) => senc_yes G a2 b2 c2 d2 e2 f2 wx hr3 ht (by omega) hb2.1)
  have ONE := Lib.hid (turns_one hl hr1 hpq)
  have TWO := Lib.hid (turns_two hl hr1 hl2 hr3 (by omega) hpq)
  have LX := Lib.hid (encW_length (l := [a, b, c, d, e, f]) rfl)
  have LY := Lib.hid (encW_length (l := [a2, b2, c2, d2, e2, f2]) rfl)
  have BX := Lib.hid (encW_bytes [a, b, c, d, e, f])
  have BY := Lib.hid (encW_bytes [a2, b2, c2, d2, e2, f2])
  generalize encW [a, b, c, d, e, f] = x at *
  generalize encW [a2, b2, c2, d2, e2, f2] = y at *
  obtain ⟨Zc, hZl, hZs, hmk0⟩ := make_bytes 256 (by omega)
  have hmk : ∀ W : World, (Instr.makeSlice 26 (.int .i64 256) (.int .i64 256)).run Try.prog W = .ok (.slice (some ⟨W.heap.size, 0, none⟩) 256 256) (W.alloc (.cells Zc 5)) := hmk0
  have hZ2 : Zc = (cellsOf .u8 (List.replicate 256 0)).toArray := by rw [← hZl, Array.toArray_toList]
  have BZ := Lib.hid (AreB.zeros 256)
  have LZ : Hid ((List.replicate 256 (0 : Int)).length = 256) := List.length_replicate ..
  generalize List.replicate 256 (0 : Int) = Zb at *
  have HZ2 := Lib.hid hZ2
  have FP2 : Hid (po + 64 ≤ 256) := by show _ ≤ _; unfold Places at hpq; omega
  have FQ2 : Hid (qo + 64 ≤ 256) := by show _ ≤ _; unfold Places at hpq; omega
  obtain ⟨Zb1, hZb1⟩ : ∃ Z1, splice Zb po x = Z1 := ⟨_, rfl⟩
  have HZb1 := Lib.hid hZb1
  have LZ1 : Hid (Zb1.length = 256) := by show _ = _; rw [← hZb1, length_splice _ _ _ (by rw [LX.out, LZ.out]; exact FP2.out), LZ.out]
  have BZ1 : Hid (AreB Zb1) := by rw [← hZb1]; exact splice_B BZ.out BX.out _
  rw [hZb1] at ONE TWO
  have BZ2 : Hid (AreB (splice Zb1 qo y)) := splice_B BZ1.out BY.out _
  have LXC : Hid ((cellsOf .u8 x).length = 64) := by show _ = _; rw [cellsOf_length]; exact LX.out
  have LYC : Hid ((cellsOf .u8 y).length = 64) := by show _ = _; rw [cellsOf_length]; exact LY.out
  have MP : Hid (64 = Nat.min 64 (256 - po)) := by have h := FP2.out; show 64 = min 64 (256 - _); omega
  have MQ : Hid (64 = Nat.min 64 (256 - qo)) := by have h := FQ2.out; show 64 = min 64 (256 - _); omega
  have FP : Hid (po + 64 ≤ (cellsOf .u8 Zb).length) := by show _ ≤ _; rw [cellsOf_length, LZ.out]; exact FP2.out
  have FQ : Hid (qo + 64 ≤ (cellsOf .u8 Zb1).length) := by show _ ≤ _; rw [cellsOf_length, LZ1.out]; exact FQ2.out
  have hp1 : po ≤ 256 := by have h := FP2.out; omega
  have hp2 : (po : Int) ≤ 256 := by omega
  have hp3 : ¬ 256 = po := by have h := FP2.out; omega
  have hp4 : IntKind.i64.wrap (po : Int) = po := by rw [IntKind.wrap_i64]; omega
  have hq1 : qo ≤ 256 := by have h := FQ2.out; omega
  have hq2 : (qo : Int) ≤ 256 := by omega
  have hq3 : ¬ 256 = qo := by have h := FQ2.out; omega
  have hq4 : IntKind.i64.wrap (qo : Int) = qo := by rw [IntKind.wrap_i64]; omega
  have hw1 : IntKind.u64.wrap a2 = a2 := by rw [IntKind.wrap_u64]; omega
  have HB0 : Hid (Below w.heap.size w ((w.alloc (.cells (sC a b c d e f) 24)).alloc (.cells (sC a1 b2 c2 d2 e2 f2) 24))) := (boxed _ _).alloc (by simp) _
  have HXY : Hid (∀ wx, Below ((w.alloc (.cells (sC a b c d e f) 24)).alloc (.cells (sC a1 b2 c2 d2 e2 f2) 24)).heap.size ((w.alloc (.cells (sC a b c d e f) 24)).alloc (.cells (sC a1 b2 c2 d2 e2 f2) 24)) wx → Blk wx w.heap.size 24 (sC a b c d e f) ∧ Blk wx (w.heap.size + 1) 24 (sC a1 b2 c2 d2 e2 f2) ∧ Below w.heap.size w wx) := fun wx hx => boxed2 hx
  have CH : Hid (∀ (G gB : Nat) (wx : World) (zs : List Int), AreB zs → TurnsAt w G gB a b c d e f a2 b2 c2 d2 e2 f2 zs wx → Calls Try.prog 17 #[.pointer (some ⟨G, 0, none⟩), .slice (some ⟨gB, 0, none⟩) 256 256] wx fun en w' => en = .returned (.tuple #[chV zs, .bool (chB zs)]) ∧ Below wx.heap.size wx w') := fun G gB wx zs hz h => schoose_any G _ 256 256 zs wx h.reads (Nat.le_refl _) hz (by omega) (by omega) h.tb
  have m1 : True := trivial
  have hm2 : (a == 18446744073709551615) = false := by simpa using hm
  clear hl hl1 hl2 hr1 hr2 hr3 ha hb ha1 hb2 hm hpo hqo hpq hmk0 hZl hZs hZ2 hZb1
  cases k
  all_goals
    go_enter Try.func5, Try.ntmps5
    go_wp2_with (first
      | (go_at_call 12; clear m1; refine (R1.out _).mono ?_; rintro en w1 ⟨rfl, hb1⟩; obtain ⟨⟨x0, x1, x2, x3, x4, x5⟩, ⟨y0, y1, y2, y3, y4, y5⟩⟩ := And.intro (slAt_blk (HXY.out _ hb1).1) (slAt_blk (HXY.out _ hb1).2.1))
      | (go_at_call 12; refine (R2.out _).mono ?_; rintro en w2 ⟨rfl, hb3⟩; have hb4 := hb1.trans (hb3.mono hb1.size); obtain ⟨⟨x0, x1, x2, x3, x4, x5⟩, ⟨y0, y1, y2, y3, y4, y5⟩⟩ := And.intro (slAt_blk (HXY.out _ hb4).1) (slAt_blk (HXY.out _ hb4).2.1))
      | (go_at_call 9; refine (crcMake_any _).mono ?_; rintro en w3 ⟨rfl, ht3, hb5⟩; have hb6 := hb4.trans (hb5.mono hb4.size); obtain ⟨⟨x0, x1, x2, x3, x4, x5⟩, ⟨y0, y1, y2, y3, y4, y5⟩⟩ := And.intro (slAt_blk (HXY.out _ hb6).1) (slAt_blk (HXY.out _ hb6).2.1); have f0 := (HXY.out _ hb6).2.1.frozen 0))
    have T5 : Hid (TurnsAt w w2.heap.size w3.heap.size a b c d e f a2 b2 c2 d2 e2 f2 Zb ((w3.setCell ⟨w.heap.size + 1, 0, none⟩ (.int .u64 a2)).alloc (.cells Zc 5))) := by
      obtain ⟨q1, q2, q3⟩ := HXY.out _ hb6
      have q4 : w.heap.size + 2 ≤ w2.heap.size := by have := hb4.size; simp at this; omega
      have q5 := q2.set_ 0 (.int .u64 a2)
      have q6 := ht3.lt
      have q7 := made_blk (Zc := Zc) (w3.setCell ⟨w.heap.size + 1, 0, none⟩ (.int .u64 a2))
      refine ⟨(q1.far (by show w.heap.size ≠ w.heap.size + 1; omega) _).alloc _, ?_, (Blk.far ht3 (by show w2.heap.size ≠ w.heap.size + 1; omega) _).alloc _, ?_, (q3.setCell (by show _ ≤ w.heap.size + 1; omega) _).alloc (by have := q3.size; simp; omega) _, by omega, q6, LZ.out⟩
      · have q8 := q5.alloc (.cells Zc 5)
        simpa using q8
      · rw [← HZ2.out]; simpa using q7
    obtain ⟨W5, hW5⟩ : ∃ W5, ((w3.setCell ⟨w.heap.size + 1, 0, none⟩ (.int .u64 a2)).alloc (.cells Zc 5)) = W5 := ⟨_, rfl⟩
    rw [hW5] at T5 ⊢
    have hb : Below W5.heap.size W5 W5.drew := below_drewn (Below.refl _ _) 1
    have HK := Lib.hid (slAt_bs (T5.out.below hb))
    clear hb1 hb3 hb4 hb5 hb6 ht3 x0 x1 x2 x3 x4 x5 y0 y1 y2 y3 y4 y5 f0 hW5 hmk
    go_region_held3 (fun w' => SlAt w' w.heap.size a b c d e f)
      (first | assumption | exact HK.out | exact slAt_bs (T5.out.below hb))
      (first
        | (go_at_call 7; refine (to_any _ _ _ _ _ _ _).mono ?_; rintro en0 wx ⟨rfl, hbx⟩; have hb := hb.trans (hbx.mono hb.size); (try (have hr1 := Reads.below hr1 hbx)); clear hbx)
        | (go_at_call 13; refine (P1.out _).mono ?_; rintro en0 wx ⟨rfl, hbx⟩; have hb := hb.trans (hbx.mono hb.size); (try (have hr1 := Reads.below hr1 hbx)); clear hbx)
        | (go_at_call 8; refine (E1.out _ _ (T5.out.below hb).tb).mono ?_; rintro en0 wx ⟨A1, N1, c1, rfl, hN1, ho1, hbx, -, -⟩; rw [LX.out] at hN1; subst hN1; have hb := hb.trans (hbx.mono hb.size); have hr1 := Reads.of_own ho1; clear hbx ho1)
        | (refine step_copy_blk rfl _ _ _ _ rfl 5 Try.underlying26 byteOne _ _ _ _ _ _ rfl rfl w3.heap.size po 64 (cellsOf .u8 Zb) 5 (T5.out.below hb).fb (cellsOf .u8 x) LXC.out MP.out (fun _ => ⟨rfl, by obtain ⟨ad, h0, _, hc⟩ := hr1.2 (by omega); exact ⟨ad, h0, hc⟩⟩) FP.out (cellsOf_one _ _) ?_; intro w6 HG hc; have T6 := Lib.hid ((T5.out.below hb).copy HG hc (by rw [LX.out]; exact FP2.out)); have hS := slAt_bs T6.out; clear HG hc))
    clear hb HK hr1
    rw [HZb1.out] at T6
    obtain ⟨x0, x1, x2, x3, x4, x5⟩ := hS
  · have T7 : Hid (TurnsAt w w2.heap.size w3.heap.size a b c d e f a2 b2 c2 d2 e2 f2 Zb1 (w6.alloc (.cells (sC a b c d e f) 24))) := T6.out.below (boxed _ _)
    have hg : w6.heap.size < (w6.alloc (.cells (sC a b c d e f) 24)).heap.size := by simp
    go_wp2_with (go_at_call 17; refine (CH.out _ _ _ Zb1 BZ1.out T7.out).mono ?_; rw [ONE.out.1, ONE.out.2]; rintro en0 w10 ⟨rfl, hb10⟩)
    have HE : Hid (∀ wx, Below (w10.alloc (.cells (sC a b c d e f) 27)).heap.size (w10.alloc (.cells (sC a b c d e f) 27)) wx → (SlAt wx w10.heap.size a b c d e f ∧ SlAt wx w6.heap.size a b c d e f) ∧ Below w.heap.size w wx) := fun wx hx => by
      have q1 := (Blk.new w6 24 (sC a b c d e f)).below hb10 hg
      have q2 := q1.alloc (.cells (sC a b c d e f) 27)
      have q3 := T7.out.bel.trans (hb10.mono T7.out.bel.size)
      exact ⟨⟨slAt_of hx, slAt_blk (q2.below hx q2.lt)⟩, (q3.alloc q3.size _).trans (hx.mono (q3.alloc q3.size _).size)⟩
    have hb : Below (w10.alloc (.cells (sC a b c d e f) 27)).heap.size (w10.alloc (.cells (sC a b c d e f) 27)) (w10.alloc (.cells (sC a b c d e f) 27)).drew := below_drewn (Below.refl _ _) 1
    have HK := Lib.hid (HE.out _ hb).1
    clear hb10 hg x0 x1 x2 x3 x4 x5
    go_region_held3 (fun w' => SlAt w' w10.heap.size a b c d e f ∧ SlAt w' w6.heap.size a b c d e f)
      (first | assumption | exact HK.out | exact (HE.out _ hb).1)
      (first
        | (go_at_call 19; refine (of_any _ _ _ _ _ _ _).mono ?_; rintro en0 wx ⟨rfl, hbx⟩; have hb := hb.trans (hbx.mono hb.size); clear hbx)
        | (go_at_call 14; refine (awake_any _).mono ?_; rintro en0 wx ⟨rfl, hbx⟩; have hb := hb.trans (hbx.mono hb.size); clear hbx))
    go_wp2
    go_ret
    exact ⟨rfl, (HE.out _ hb).2⟩
  · go_wp2_with fail
    have T7 : Hid (TurnsAt w w2.heap.size w3.heap.size a b c d e f a2 b2 c2 d2 e2 f2 Zb1 (w6.alloc (.cells (sC a b c d e f) 24))) := T6.out.below (boxed _ _)
    have HG9 : Hid (∀ wx, Below (w6.alloc (.cells (sC a b c d e f) 24)).heap.size (w6.alloc (.cells (sC a b c d e f) 24)) wx → Blk wx w6.heap.size 24 (sC a b c d e f)) := fun wx hx => (Blk.new w6 _ _).below hx (by simp)
    have HG3 : Hid (w3.heap.size < w6.heap.size) := T6.out.fb.lt
    obtain ⟨W7, hW7⟩ : ∃ W7, w6.alloc (.cells (sC a b c d e f) 24) = W7 := ⟨_, rfl⟩
    rw [hW7] at T7 HG9 ⊢
    have hb : Below W7.heap.size W7 W7.drew := below_drewn (Below.refl _ _) 1
    have HK := Lib.hid (slAt_br (T7.out.below hb))
    clear hW7 x0 x1 x2 x3 x4 x5
    go_region_held3 (fun w' => SlAt w' (w.heap.size + 1) a2 b2 c2 d2 e2 f2)
      (first | assumption | exact HK.out | exact slAt_br (T7.out.below hb))
      (first
        | (go_at_call 7; refine (to_any _ _ _ _ _ _ _).mono ?_; rintro en0 wx ⟨rfl, hbx⟩; have hb := hb.trans (hbx.mono hb.size); (try (have hr1 := Reads.below hr1 hbx)); clear hbx)
        | (go_at_call 13; refine (P2.out _).mono ?_; rintro en0 wx ⟨rfl, hbx⟩; have hb := hb.trans (hbx.mono hb.size); (try (have hr1 := Reads.below hr1 hbx)); clear hbx)
        | (go_at_call 8; refine (E2.out _ _ (T7.out.below hb).tb).mono ?_; rintro en0 wx ⟨A1, N1, c1, rfl, hN1, ho1, hbx, -, -⟩; rw [LY.out] at hN1; subst hN1; have hb := hb.trans (hbx.mono hb.size); have hr1 := Reads.of_own ho1; clear hbx ho1)
        | (refine step_copy_blk rfl _ _ _ _ rfl 5 Try.underlying26 byteOne _ _ _ _ _ _ rfl rfl w3.heap.size qo 64 (cellsOf .u8 Zb1) 5 (T7.out.below hb).fb (cellsOf .u8 y) LYC.out MQ.out (fun _ => ⟨rfl, by obtain ⟨ad, h0, _, hc⟩ := hr1.2 (by omega); exact ⟨ad, h0, hc⟩⟩) FQ.out (cellsOf_one _ _) ?_; intro w8 HG hc; have T8 := Lib.hid ((T7.out.below hb).copy HG hc (by rw [LY.out]; exact FQ2.out)); have hS := slAt_br T8.out; have BK := Blk.chg (HG9.out _ hb) hc (by have h := HG3.out; omega); clear HG hc))
    clear hb HK hr1
    obtain ⟨y0, y1, y2, y3, y4, y5⟩ := hS
    obtain ⟨x0, x1, x2, x3, x4, x5⟩ := slAt_blk BK
    have fz0 := BK.frozen 0
    have fz1 := BK.frozen 1
    have fz2 := BK.frozen 2
    have fz3 := BK.frozen 3
    have fz4 := BK.frozen 4
    have fz5 := BK.frozen 5
    have T9 : Hid (TurnsAt w w2.heap.size w3.heap.size a b c d e f a2 b2 c2 d2 e2 f2 (splice Zb1 qo y) ((((((w8.setCell ⟨w6.heap.size, 0, none⟩ (.int .u64 a2)).setCell ⟨w6.heap.size, 1, none⟩ (.int .u64 b2)).setCell ⟨w6.heap.size, 2, none⟩ (.int .u64 c2)).setCell ⟨w6.heap.size, 3, none⟩ (.int .u64 d2)).setCell ⟨w6.heap.size, 4, none⟩ (.int .u64 e2)).setCell ⟨w6.heap.size, 5, none⟩ (.int .u64 f2))) := T8.out.store HG3.out
    have HB9 := Lib.hid (sl_store (a' := .int .u64 a2) (b' := .int .u64 b2) (c' := .int .u64 c2) (d' := .int .u64 d2) (e' := .int .u64 e2) (f' := .int .u64 f2) BK)
    go_wp2_with (go_at_call 17; refine (CH.out _ _ _ (splice Zb1 qo y) BZ2.out T9.out).mono ?_; rw [TWO.out.1, TWO.out.2]; rintro en0 w10 ⟨rfl, hb10⟩)
    have HE : Hid (∀ wx, Below (w10.alloc (.cells (sC a2 b2 c2 d2 e2 f2) 27)).heap.size (w10.alloc (.cells (sC a2 b2 c2 d2 e2 f2) 27)) wx → (SlAt wx w10.heap.size a2 b2 c2 d2 e2 f2 ∧ SlAt wx w6.heap.size a2 b2 c2 d2 e2 f2) ∧ Below w.heap.size w wx) := fun wx hx => by
      have q1 := HB9.out.below hb10 HB9.out.lt
      have q2 := q1.alloc (.cells (sC a2 b2 c2 d2 e2 f2) 27)
      have q3 := T9.out.bel.trans (hb10.mono T9.out.bel.size)
      exact ⟨⟨slAt_of hx, slAt_blk (q2.below hx q2.lt)⟩, (q3.alloc q3.size _).trans (hx.mono (q3.alloc q3.size _).size)⟩
    have hb : Below (w10.alloc (.cells (sC a2 b2 c2 d2 e2 f2) 27)).heap.size (w10.alloc (.cells (sC a2 b2 c2 d2 e2 f2) 27)) (w10.alloc (.cells (sC a2 b2 c2 d2 e2 f2) 27)).drew := below_drewn (Below.refl _ _) 1
    have HK := Lib.hid (HE.out _ hb).1
    clear hb10 x0 x1 x2 x3 x4 x5 y0 y1 y2 y3 y4 y5 fz0 fz1 fz2 fz3 fz4 fz5
    go_region_held3 (fun w' => SlAt w' w10.heap.size a2 b2 c2 d2 e2 f2 ∧ SlAt w' w6.heap.size a2 b2 c2 d2 e2 f2)
      (first | assumption | exact HK.out | exact (HE.out _ hb).1)
      (first
        | (go_at_call 19; refine (of_any _ _ _ _ _ _ _).mono ?_; rintro en0 wx ⟨rfl, hbx⟩; have hb := hb.trans (hbx.mono hb.size); clear hbx)
        | (go_at_call 14; refine (awake_any _).mono ?_; rintro en0 wx ⟨rfl, hbx⟩; have hb := hb.trans (hbx.mono hb.size); clear hbx))
    go_wp2
    go_ret
    exact ⟨rfl, (HE.out _ hb).2⟩

theorem turns_law (a b c d e f a1 b2 c2 d2 e2 f2 : Int) (k : Bool) (w : World)
    (h : (Lit.int .u64 a).wf = true ∧ (Lit.int .u64 b).wf = true ∧ (Lit.int .u64 c).wf = true ∧ (Lit.int .u64 d).wf = true ∧ (Lit.int .u64 e).wf = true ∧ (Lit.int .u64 f).wf = true)
    (h2 : (Lit.int .u64 a1).wf = true ∧ (Lit.int .u64 b2).wf = true ∧ (Lit.int .u64 c2).wf = true ∧ (Lit.int .u64 d2).wf = true ∧ (Lit.int .u64 e2).wf = true ∧ (Lit.int .u64 f2).wf = true) :
    Calls Try.prog 5 #[sV a b c d e f, sV a1 b2 c2 d2 e2 f2, .bool k] w fun en w' => en = .returned (.bool true) ∧ Below w.heap.size w w' := by
  obtain ⟨hl, h6⟩ := bd6 h
  obtain ⟨hl2, h62⟩ := bd6 h2
  by_cases hr : rightS a b f = true
  · by_cases hr2 : rightS a1 b2 f2 = true
    · by_cases hm : a = 18446744073709551615
      · exact turns_off a b c d e f a1 b2 c2 d2 e2 f2 k w (h6 0) (h6 1).1 (h62 0).1 (h62 1).1 (.inr (.inr hm))
      · exact turns_on a b c d e f a1 b2 c2 d2 e2 f2 k w hl hl2 hr hr2 hm
    · exact turns_off a b c d e f a1 b2 c2 d2 e2 f2 k w (h6 0) (h6 1).1 (h62 0).1 (h62 1).1 (.inr (.inl (by simpa using hr2)))
  · exact turns_off a b c d e f a1 b2 c2 d2 e2 f2 k w (h6 0) (h6 1).1 (h62 0).1 (h62 1).1 (.inl (by simpa using hr))

end Go.Proofs.Ytdajjkjpjhpnjaa
