/-
  LAYER 11: Decode OF PACKAGE slot: its contract, for every input.
-/
import Derived.Test.YtdajjkjpjhpnjaaSlotEnc
import Derived.Test.YtdajjkjpjhpnjaaTaken
set_option linter.unusedVariables false
set_option maxRecDepth 100000
set_option linter.unusedSimpArgs false
namespace Go.Proofs.Ytdajjkjpjhpnjaa
open Go.RowKit

/-- No slot. -/
abbrev sZ : Value := sV 0 0 0 0 0 0
abbrev sZC : Array Value := sC 0 0 0 0 0 0

theorem sdec_short (v : Value) (A : Option Addr) (n c : Nat) (w : World) (hn : n < 64) :
    Calls Try.prog 15 #[v, .slice A n c] w fun en w' => en = .returned (.tuple #[sZ, .bool false]) ∧ Below w.heap.size w w' := by
  go_enter Try.func15, Try.ntmps15
  go_wp2
  refine bodyPost_ret (results_cell2 rfl _ _ w.heap.size 27 _ (0, 0) _ rfl (Blk.new _ _ _) Try.underlying27 rfl (by kernel_rfl)) rfl ?_
  exact ⟨rfl, boxed _ _⟩

/-- The six words that a slot's bytes have, as a call takes them. -/
structure Six (zs : List Int) (a b c d e f : Int) : Prop where
  w0 : lev ((((zs.take 64).drop 0).drop 0).take 8) = a
  w1 : lev ((((zs.take 64).drop 0).drop 8).take 8) = b
  w2 : lev ((((zs.take 64).drop 0).drop 16).take 8) = c
  w3 : lev ((((zs.take 64).drop 0).drop 24).take 8) = d
  w4 : lev ((((zs.take 64).drop 0).drop 32).take 8) = e
  w5 : lev ((((zs.take 64).drop 0).drop 40).take 8) = f
theorem wordS_take {zs : List Int} (j : Nat) (hj : j < 6) : lev ((((zs.take 64).drop 0).drop (8 * j)).take 8) = wordS zs j := by
  unfold wordS
  rw [List.drop_zero, List.drop_take, List.take_take, show min 8 (64 - 8 * j) = 8 by omega]
theorem six_of (zs : List Int) : Six zs (wordS zs 0) (wordS zs 1) (wordS zs 2) (wordS zs 3) (wordS zs 4) (wordS zs 5) :=
  ⟨wordS_take 0 (by omega), wordS_take 1 (by omega), wordS_take 2 (by omega), wordS_take 3 (by omega), wordS_take 4 (by omega), wordS_take 5 (by omega)⟩

/-- A slot that is stored in a block of one. -/
theorem sl_store {w : World} {g : Nat} {ty : TypeId} {a b c d e f a' b' c' d' e' f' : Value} (h : Blk w g ty #[a, b, c, d, e, f]) :
    Blk ((((((w.setCell ⟨g, 0, none⟩ a').setCell ⟨g, 1, none⟩ b').setCell ⟨g, 2, none⟩ c').setCell ⟨g, 3, none⟩ d').setCell ⟨g, 4, none⟩ e').setCell ⟨g, 5, none⟩ f') g ty #[a', b', c', d', e', f'] := by
  have := (((((h.set_ 0 a').set_ 1 b').set_ 2 c').set_ 3 d').set_ 4 e').set_ 5 f'
  simpa using this
theorem sl_below {B : Nat} {w0 w : World} {g : Nat} {a' b' c' d' e' f' : Value} (h : Below B w0 w) (hg : B ≤ g) :
    Below B w0 ((((((w.setCell ⟨g, 0, none⟩ a').setCell ⟨g, 1, none⟩ b').setCell ⟨g, 2, none⟩ c').setCell ⟨g, 3, none⟩ d').setCell ⟨g, 4, none⟩ e').setCell ⟨g, 5, none⟩ f') :=
  (((((h.setCell (p := ⟨g, 0, none⟩) hg _).setCell (p := ⟨g, 1, none⟩) hg _).setCell (p := ⟨g, 2, none⟩) hg _).setCell (p := ⟨g, 3, none⟩) hg _).setCell (p := ⟨g, 4, none⟩) hg _).setCell (p := ⟨g, 5, none⟩) hg _
theorem sl_far {w : World} {g h : Nat} {ty : TypeId} {cs : Array Value} {a' b' c' d' e' f' : Value} (hb : Blk w g ty cs) (hn : g ≠ h) :
    Blk ((((((w.setCell ⟨h, 0, none⟩ a').setCell ⟨h, 1, none⟩ b').setCell ⟨h, 2, none⟩ c').setCell ⟨h, 3, none⟩ d').setCell ⟨h, 4, none⟩ e').setCell ⟨h, 5, none⟩ f') g ty cs :=
  (((((hb.far (p := ⟨h, 0, none⟩) hn _).far (p := ⟨h, 1, none⟩) hn _).far (p := ⟨h, 2, none⟩) hn _).far (p := ⟨h, 3, none⟩) hn _).far (p := ⟨h, 4, none⟩) hn _).far (p := ⟨h, 5, none⟩) hn _

set_option maxHeartbeats 2000000 in
theorem sdec_long {B : Nat} (G : Nat) (A : Option Addr) (n c : Nat) (zs : List Int) (u0 u1 u2 u3 u4 u5 : Int) (b : Bool) (w : World) (hr : Reads w B 1 A n (cellsOf .u8 zs)) (hB : B ≤ w.heap.size) (hz : AreB zs) (hl : n ≤ c) (hcap : c ≤ 9223372036854775807) (hn : 64 ≤ n) (ht : IsTable w G)
    (h6 : Six zs u0 u1 u2 u3 u4 u5) (hu0 : 0 ≤ u0) (hu1 : 0 ≤ u1) (hb : decide (encS u0 u1 u2 u3 u4 u5 = zs.take 64) = b) :
    Calls Try.prog 15 #[.pointer (some ⟨G, 0, none⟩), .slice A n c] w fun en w' => en = .returned (.tuple #[if b then sV u0 u1 u2 u3 u4 u5 else sZ, .bool b]) ∧ Below w.heap.size w w' := by
  have hlen := hr.len
  have HB0 := Lib.hid (boxed w (.cells sZC 27))
  have HR := Lib.hid (fun wx (hx : Below w.heap.size w wx) => (hr.pre hn).keep (w' := wx) (fun p hp => hx.cell (by omega)))
  have HTB := Lib.hid (fun wx (hx : Below w.heap.size w wx) => (IsTable.below ht hx ht.lt : IsTable wx G))
  have HZ4 : Hid (AreB (zs.take 64)) := hz.take 64
  have HZ8 : Hid (AreB ((zs.take 64).drop 0)) := (hz.take 64).drop 0
  have HL8 : Hid (((zs.take 64).drop 0).length = 64) := by show _ = _; rw [List.length_drop, List.length_take]; omega
  have HX := Lib.hid (encS_bytes u0 u1 u2 u3 u4 u5)
  have H6 := Lib.hid h6
  have EN := Lib.hid (fun wx ht => senc_any G u0 u1 u2 u3 u4 u5 wx ht hu0 hu1)
  have BB := Lib.hid hb
  generalize encS u0 u1 u2 u3 u4 u5 = x at *
  have hc64 : (64 : Int) ≤ c := by omega
  have hc642 : 64 ≤ c := by omega
  have HSB : Hid (B ≤ w.heap.size) := hB
  clear hr ht hz h6 hb hlen hB hu0 hu1
  cases b
  all_goals
    go_enter Try.func15, Try.ntmps15
    go_wp2_with (first
      | (go_at_call 29; refine (read_at (B := B) A 64 _ 0 (zs.take 64) _ (HR.out _ HB0.out) (Nat.le_trans HSB.out HB0.out.size) hc642 (by omega) (by omega) (by omega)).mono ?_; rintro en w1 ⟨g, B', rfl, R0, hg⟩)
      | (go_at_call 30; refine (num8 (p := 0) R0 hg HZ8.out (by rw [HL8.out]; omega) (by rw [HL8.out]; omega) (by omega)).mono ?_; rw [H6.out.w0]; rintro en w2 ⟨rfl, R1⟩; clear R0)
      | (go_at_call 30; refine (num8 (p := 8) R1 hg HZ8.out (by rw [HL8.out]; omega) (by rw [HL8.out]; omega) (by omega)).mono ?_; rw [H6.out.w1]; rintro en w3 ⟨rfl, R2⟩; clear R1)
      | (go_at_call 30; refine (num8 (p := 16) R2 hg HZ8.out (by rw [HL8.out]; omega) (by rw [HL8.out]; omega) (by omega)).mono ?_; rw [H6.out.w2]; rintro en w4 ⟨rfl, R3⟩; clear R2)
      | (go_at_call 30; refine (num8 (p := 24) R3 hg HZ8.out (by rw [HL8.out]; omega) (by rw [HL8.out]; omega) (by omega)).mono ?_; rw [H6.out.w3]; rintro en w5 ⟨rfl, R4⟩; clear R3)
      | (go_at_call 30; refine (num8 (p := 32) R4 hg HZ8.out (by rw [HL8.out]; omega) (by rw [HL8.out]; omega) (by omega)).mono ?_; rw [H6.out.w4]; rintro en w6 ⟨rfl, R5⟩; clear R4)
      | (go_at_call 30; refine (num8 (p := 40) R5 hg HZ8.out (by rw [HL8.out]; omega) (by rw [HL8.out]; omega) (by omega)).mono ?_; rw [H6.out.w5]; rintro en w7 ⟨rfl, R6⟩; have hb6 := (HB0.out.trans (R6.bel.mono HB0.out.size)); clear R5)
      | (go_at_call 8; refine (EN.out _ (HTB.out _ (hb6.alloc hb6.size _))).mono ?_; rintro en w8 ⟨A1, _, c1, rfl, rfl, ho1, hb7, -, -⟩; have hb8 := (hb6.alloc hb6.size (.cells (sC u0 u1 u2 u3 u4 u5) 27)).trans (hb7.mono (hb6.alloc hb6.size _).size); have BK : Blk w8 w.heap.size 27 sZC := (Blk.new w 27 sZC).below (R6.bel.trans (((boxed w7 _).trans (hb7.mono (boxed w7 _).size)).mono R6.bel.size)) (by simp); obtain ⟨y0, y1, y2, y3, y4, y5⟩ := slAt_of hb7; obtain ⟨x0, x1, x2, x3, x4, x5⟩ := slAt_blk BK; have f0 := BK.frozen 0; have f1 := BK.frozen 1; have f2 := BK.frozen 2; have f3 := BK.frozen 3; have f4 := BK.frozen 4; have f5 := BK.frozen 5)
      | (go_at_call 31; refine (beq_any A1 A x.length 64 c1 _ x (zs.take 64) _ (Reads.of_own ho1) (HR.out _ hb8) HX.out HZ4.out).mono ?_; rw [BB.out]; rintro en w9 ⟨rfl, rfl⟩))
  · refine bodyPost_ret (results_cell2 rfl _ _ w.heap.size 27 _ (0, 0) _ rfl (sl_store BK) Try.underlying27 rfl (by kernel_rfl)) rfl ?_
    exact ⟨rfl, sl_below hb8 (Nat.le_refl _)⟩
  · refine bodyPost_ret (results_cell2 rfl _ _ w.heap.size 27 _ (0, 0) _ rfl (sl_store BK) Try.underlying27 rfl (by kernel_rfl)) rfl ?_
    exact ⟨rfl, sl_below hb8 (Nat.le_refl _)⟩

theorem wordS_bd {zs : List Int} (hz : AreB zs) (j : Nat) : 0 ≤ wordS zs j ∧ wordS zs j < 18446744073709551616 := lev8_lt ((hz.drop _).take 8) (by rw [List.length_take]; omega)

/-- Bytes begin with a slot, if what stands in its words is encoded as it stands there. -/
theorem isS_six (zs : List Int) : isS zs = (decide (64 ≤ zs.length) && rightS (wordS zs 0) (wordS zs 1) (wordS zs 5) && decide (encW [wordS zs 0, wordS zs 1, wordS zs 2, wordS zs 3, wordS zs 4, wordS zs 5] = zs.take 64)) := by
  unfold isS
  rw [wrds_six]
  rfl
theorem isS_dec {zs : List Int} (hn : 64 ≤ zs.length) : decide (encS (wordS zs 0) (wordS zs 1) (wordS zs 2) (wordS zs 3) (wordS zs 4) (wordS zs 5) = zs.take 64) = isS zs := by
  rw [isS_six]
  unfold encS
  by_cases hr : rightS (wordS zs 0) (wordS zs 1) (wordS zs 5) = true
  · rw [if_pos hr, hr, decide_eq_true hn]; rfl
  · rw [if_neg hr, show rightS (wordS zs 0) (wordS zs 1) (wordS zs 5) = false by simpa using hr]
    simp only [Bool.and_false, Bool.false_and]
    refine decide_eq_false fun h => ?_
    have := congrArg List.length h
    rw [List.length_take] at this
    simp at this
    omega

/-- The slot that bytes begin with; none of noughts, where there is none. -/
def decS (zs : List Int) : Value := if isS zs then sV (wordS zs 0) (wordS zs 1) (wordS zs 2) (wordS zs 3) (wordS zs 4) (wordS zs 5) else sZ

theorem sdec_any {B : Nat} (G : Nat) (A : Option Addr) (n c : Nat) (zs : List Int) (w : World) (hr : Reads w B 1 A n (cellsOf .u8 zs)) (hB : B ≤ w.heap.size) (hz : AreB zs) (hl : n ≤ c) (hcap : c ≤ 9223372036854775807) (ht : IsTable w G) :
    Calls Try.prog 15 #[.pointer (some ⟨G, 0, none⟩), .slice A n c] w fun en w' => en = .returned (.tuple #[decS zs, .bool (isS zs)]) ∧ Below w.heap.size w w' := by
  have hlen := hr.len
  by_cases hn : n < 64
  · have h := sdec_short (.pointer (some ⟨G, 0, none⟩)) A n c w hn
    unfold decS
    rw [isS_short (by omega)]
    exact h
  · exact sdec_long G A n c zs _ _ _ _ _ _ (isS zs) w hr hB hz hl hcap (by omega) ht (six_of zs) (wordS_bd hz 0).1 (wordS_bd hz 1).1 (isS_dec (by omega))

end Go.Proofs.Ytdajjkjpjhpnjaa
