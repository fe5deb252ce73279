/-
  LAYER 6: WHAT shows AND awake DO.
-/
import Derived.Test.YtdpoffedmafmhaaFileAct
import Derived.Deep.RegionHeld3
set_option linter.unusedVariables false
set_option linter.unusedSimpArgs false
namespace Go.Proofs.Ytdpoffedmafmhaa
open Go.RowKit

theorem same_self {B B' : Nat} (A A' : Option Addr) (n n' c c' : Nat) (xs : List Int) (w : World) (hx : Reads w B 1 A n (cellsOf .u8 xs)) (hy : Reads w B' 1 A' n' (cellsOf .u8 xs)) (bx : AreB xs) :
    Calls Try.prog 12 #[.slice A n c, .slice A' n' c'] w fun e w' => e = .returned (.bool true) ∧ w = w' := same_yes A A' n n' c c' xs xs w hx hy bx (Lib.hid rfl)

/-- What a reader of bytes that a function has told is handed. -/
theorem Gives.reads {zs : List Int} {w w' : World} {e : Ending} (h : Gives zs w e w') : ∃ A n c, e = .returned (.slice A n c) ∧ n = zs.length ∧ Reads w' w'.heap.size 1 A n (cellsOf .u8 zs) ∧ n ≤ c ∧ c ≤ maxLen ∧ Below w.heap.size w w' := by
  obtain ⟨A, c, rfl, hown, hb⟩ := h
  obtain ⟨A1, c1, e1, h1, h2⟩ := own_form hown
  injection e1 with e1 _ e3
  subst e1; subst e3
  exact ⟨A, _, c, rfl, rfl, Reads.of_own hown, h1, h2, hb⟩

theorem RF.held {w w1 : World} {base p : Nat} {S : Nat → Prop} {s : FS} {nv sv ov : Value} {xs : List Value} (h : RF w base S p s nv sv ov xs) (hb : Below w.heap.size w w1) : w1.cell? ⟨p, 0, none⟩ = some nv ∧ w1.cell? ⟨p, 2, none⟩ = some ov := ⟨(h.cells3 hb).1, (h.cells3 hb).2.2.1⟩

set_option maxHeartbeats 2000000 in
theorem shows_any (p q : Nat) (base : Nat) (T : Nat → Prop) (s : FS) (N : Nat) (a n : Int) (w : World) (h : Two w base T p q s s) (hg : s.Good N) (h0 : -9223372036854775808 ≤ a) (h1 : a ≤ 9223372036854775807) (h2 : -9223372036854775808 ≤ n) (h3 : n ≤ 9223372036854775807) :
    Calls Try.prog 10 #[.pointer (some ⟨p, 0, none⟩), .pointer (some ⟨q, 0, none⟩), .int .i64 a, .int .i64 n] w fun e w' => e = .returned (.bool true) ∧ Below w.heap.size w w' := by
  obtain ⟨S, S2, nv, sv, pv, nv2, sv2, ov, xs, c1, c2, -, -, -⟩ := h.ex
  obtain ⟨An, cn, rfl, -, -⟩ := own_form c1.now
  obtain ⟨Ap, cp, rfl, -, -⟩ := own_form c1.pend
  obtain ⟨Ar, cr, rfl, -, -⟩ := own_form c2.now
  obtain ⟨Ao, co, rfl, -, -⟩ := own_form c2.pend
  have LN := Lib.hid (fun w1 (hb : Below w.heap.size w w1) => flen_any p _ _ _ w1 (c1.blkB hb).1)
  have PN := Lib.hid (fun w1 (hb : Below w.heap.size w w1) => fpend_any p _ _ _ w1 (c1.blkB hb).2.2.1)
  have R1 := fun w1 (hb : Below w.heap.size w w1) => fread_any p 0 1048576 base S s _ _ _ w1 (c1.below hb) (by omega) (by omega) (by omega) (by omega) hg.ok.size
  rw [FS.read_all s (by have := hg.ok.size; omega)] at R1
  have RA := Lib.hid R1
  have RB := Lib.hid (fun w1 (hb : Below w.heap.size w w1) => fread_any p a n base S s _ _ _ w1 (c1.below hb) h0 h1 h2 h3 hg.ok.size)
  have RR := Lib.hid (fun w1 (hb : Below w.heap.size w w1) => rread_any q a n base S2 s _ _ _ xs w1 (c2.below hb) h0 h1 h2 h3 hg.ok.size)
  obtain ⟨m, hm⟩ : ∃ m, m = s.now.length := ⟨_, rfl⟩
  obtain ⟨k, hk⟩ : ∃ k, k = s.ops.length := ⟨_, rfl⟩
  have HNR := Lib.hid (fun w1 (hb : Below w.heap.size w w1) => ((RF.nowR (c2.below hb) rfl).1 : Reads w1 w1.heap.size 1 Ar s.now.length (cellsOf .u8 s.now)))
  have HC := Lib.hid (fun w1 (hb : Below w.heap.size w w1) => c2.held hb)
  rw [← hm] at LN HNR HC
  rw [← hk] at PN HC
  have BY1 := hg.ok.now
  have BY2 : AreB (s.read a n) := FS.read_bytes hg.ok.now a n
  have hb0 : Below w.heap.size w w.drew := below_drewn (Below.refl _ _) 1
  have m1 : True := trivial
  have m2 : True := trivial
  have m3 : True := trivial
  clear h hg c1 c2 R1 hm hk
  go_enter Try.func10, Try.ntmps10
  go_wp2
  go_region_held3 (fun w' => w'.cell? ⟨q, 0, none⟩ = some (.slice Ar m cr) ∧ w'.cell? ⟨q, 2, none⟩ = some (.slice Ao k co))
    (first | assumption | exact HC.out _ (by assumption))
    (first
      | (go_at_call 17; refine (LN.out _ hb0).mono ?_; rintro e w9 ⟨rfl, rfl⟩)
      | (go_at_call 14; clear m1; refine (RA.out _ hb0).mono ?_; rintro e wA hg; obtain ⟨Aa, na, ca, rfl, -, ra, -, -, hbx⟩ := hg.reads; have hbA := hb0.trans (hbx.mono hb0.size); clear hg hbx)
      | (go_at_call 12; clear m2; refine (same_self Aa Ar na m ca cr _ wA ra (HNR.out _ hbA) BY1).mono ?_; rintro e w9 ⟨rfl, rfl⟩)
      | (go_at_call 14; clear m3; refine (RB.out _ hbA).mono ?_; rintro e wB hg; obtain ⟨Ab, nb, cb, rfl, -, rb, -, -, hbx⟩ := hg.reads; have hbB := hbA.trans (hbx.mono hbA.size); clear hg hbx)
      | (go_at_call 24; refine (RR.out _ hbB).mono ?_; rintro e wC hg; obtain ⟨Ac, nc, cc, rfl, -, rc, -, -, hbx⟩ := hg.reads; have hbC := hbB.trans (hbx.mono hbB.size); have rb2 := rb.below hbx; clear hg hbx)
      | (go_at_call 12; refine (same_self Ab Ac nb nc cb cc _ wC rb2 rc BY2).mono ?_; rintro e w9 ⟨rfl, rfl⟩)
      | (go_at_call 11; refine (PN.out _ hbC).mono ?_; rintro e w9 ⟨rfl, rfl⟩))
  clear hbA hbB
  go_wp2
  go_ret
  exact ⟨rfl, hbC⟩

/-! ### awake -/
theorem awake_fs : (FS.new.writeI 63 [1, 2]).now.length = 65 ∧ (FS.new.writeI 63 [1, 2]).ops.length = 3 := by
  have e : FS.new.writeI 63 [1, 2] = FS.new.write 63 [1, 2] := by unfold FS.writeI; rw [if_neg (by simp)]; rfl
  rw [e]
  unfold FS.write
  rw [if_neg (by simp)]
  constructor
  · show (wrL _ _ _).length = _
    rw [wrL_length (by rw [growL_length]; exact Nat.le_max_right _ _), growL_length]; rfl
  · simp only [List.length_append, wrO_length]
    rfl

set_option maxHeartbeats 1000000 in
theorem awake_any (w : World) : Calls Try.prog 7 #[] w fun e w' => e = .returned (.bool true) ∧ Below w.heap.size w w' := by
  obtain ⟨wf, hwf⟩ : ∃ wf, wf = w.alloc (.cells #[.slice none 0 0, .slice none 0 0, .slice none 0 0] 50) := ⟨_, rfl⟩
  have hsz : wf.heap.size = w.heap.size + 1 := by rw [hwf]; simp
  have hcf : CF wf w.heap.size (fun k => k = w.heap.size) w.heap.size FS.new (.slice none 0 0) (.slice none 0 0) (.slice none 0 0) := by rw [hwf]; exact CF.new w _ (Nat.le_refl _)
  have hbf : Below w.heap.size w wf := by rw [hwf]; exact (Below.refl _ _).alloc (Nat.le_refl _) _
  have WR := Lib.hid (fwrite_any w.heap.size 63 (some ⟨wf.heap.size, 0, none⟩) 2 2 [1, 2] (wf.heap.size + 1) w.heap.size _ FS.new _ _ _ (wf.alloc (.cells (cellsOf .u8 [1, 2]).toArray 5)) (hcf.below ((Below.refl _ _).alloc (Nat.le_refl _) _)) (litReads wf _ [1, 2]) (by simp) (fun ad e hs => by
    injection e with e; subst e
    have hs : wf.heap.size = w.heap.size := hs
    omega) (by omega) (by omega) (by omega) (by omega) (by omega) (by show (0 : Nat) ≤ _; omega) (by show (0 : Nat) ≤ _; omega))
  have he : writeE 63 2 = 0 := by unfold writeE; rw [if_neg (by simp)]
  rw [he] at WR
  have HF := Lib.hid (And.intro hbf hsz)
  have HWF := Lib.hid hwf
  clear hcf hbf hsz he hwf
  go_enter Try.func7, Try.ntmps7
  go_wp2_with (first
    | (go_at_call 6; refine (fnew_any w).mono ?_; rintro e w1 ⟨rfl, hx⟩; obtain rfl := hx.out.trans HWF.out.symm; clear hx)
    | (go_at_call 18; go_loud (refine WR.out.mono ?_; rintro e w2 ⟨rfl, hch, nv, sv, pv, hcf⟩; obtain ⟨A1, c1, rfl, -, -⟩ := own_form hcf.now; obtain ⟨A2, c2, rfl, -, -⟩ := own_form hcf.pend; have d0 := (hcf.blkB (Below.refl _ _)).1; have d2 := (hcf.blkB (Below.refl _ _)).2.2.1; rw [awake_fs.1] at d0; rw [awake_fs.2] at d2; have HCH := Lib.hid hch; clear hch hcf))
    | (go_at_call 11; refine (fpend_any w.heap.size 3 A2 c2 w2 d2).mono ?_; rintro e w9 ⟨rfl, rfl⟩)
    | (go_at_call 17; refine (flen_any w.heap.size 65 A1 c1 w2 d0).mono ?_; rintro e w9 ⟨rfl, rfl⟩))
  go_ret
  refine ⟨rfl, ?_⟩
  have hb1 := HF.out.1.alloc (by have := HF.out.2; omega) (.cells (cellsOf .u8 [1, 2]).toArray 5)
  exact hb1.trans (HCH.out.below (by have := HF.out.2; simp; omega) (fun k _ e => by show w.heap.size ≤ k; have e : k = w.heap.size := e; omega))

end Go.Proofs.Ytdpoffedmafmhaa
