/-
  LAYER 8: WHAT made, Dead, Arm, runs, change, open AND openToChange DO: contracts.
-/
import Derived.Test.YtclglbddibjenaaGreatVdMem
import Derived.WalkKit
import Derived.WalkSpells
import Derived.Lib.Hide
set_option linter.unusedVariables false
set_option linter.unusedSimpArgs false
set_option maxRecDepth 100000
namespace Go.Proofs.YtclglbddibjenaaGreat
open Go.RowKit

/-! ### made -/
theorem neqF (r : Option Nat) (w : World) : (binOp .neq 56 (.map r) (.map none)).run Tryz.prog w = .ok (.bool (!r.isNone)) w := run_neq_map_nil w 56 3 83 r Tryz.underlying56
theorem vmade_yes (p mb : Nat) (w : World) (h : w.cell? ⟨p, 1, none⟩ = some (.map (some mb))) :
    Calls Tryz.prog 43 #[.pointer (some ⟨p, 0, none⟩)] w fun e w' => e = .returned (.bool true) ∧ w = w' := by
  have qT := neqF
  go_enter Tryz.func43, Tryz.ntmps43
  go_wp2
  go_ret
  exact ⟨rfl, rfl⟩
theorem vmade_nil (w : World) :
    Calls Tryz.prog 43 #[.pointer none] w fun e w' => e = .returned (.bool false) ∧ w = w' := by
  go_enter Tryz.func43, Tryz.ntmps43
  go_wp2
  go_ret
  exact ⟨rfl, rfl⟩

/-! ### Dead, runs -/
theorem vdead_any (p mb : Nat) (b : Bool) (w : World) (h : w.cell? ⟨p, 1, none⟩ = some (.map (some mb))) (h4 : w.cell? ⟨p, 4, none⟩ = some (.bool b)) :
    Calls Tryz.prog 32 #[.pointer (some ⟨p, 0, none⟩)] w fun e w' => e = .returned (.bool b) ∧ w = w' := by
  go_enter Tryz.func32, Tryz.ntmps32
  go_wp2_with (go_at_call 43; refine (vmade_yes p mb w h).mono ?_; rintro e w9 ⟨rfl, rfl⟩)
  go_ret
  exact ⟨rfl, rfl⟩
theorem vruns_yes (p mb : Nat) (w : World) (h : w.cell? ⟨p, 1, none⟩ = some (.map (some mb))) (h4 : w.cell? ⟨p, 4, none⟩ = some (.bool false)) :
    Calls Tryz.prog 84 #[.pointer (some ⟨p, 0, none⟩)] w fun e w' => e = .returned (.int .i64 0) ∧ w = w' := by
  go_enter Tryz.func84, Tryz.ntmps84
  go_wp2_with (go_at_call 43; refine (vmade_yes p mb w h).mono ?_; rintro e w9 ⟨rfl, rfl⟩)
  go_ret
  exact ⟨rfl, rfl⟩
theorem vruns_no (p mb : Nat) (w : World) (h : w.cell? ⟨p, 1, none⟩ = some (.map (some mb))) (h4 : w.cell? ⟨p, 4, none⟩ = some (.bool true)) :
    Calls Tryz.prog 84 #[.pointer (some ⟨p, 0, none⟩)] w fun e w' => e = .returned (.int .i64 26) ∧ w = w' := by
  go_enter Tryz.func84, Tryz.ntmps84
  go_wp2_with (go_at_call 43; refine (vmade_yes p mb w h).mono ?_; rintro e w9 ⟨rfl, rfl⟩)
  go_ret
  exact ⟨rfl, rfl⟩
theorem vruns_nil (w : World) :
    Calls Tryz.prog 84 #[.pointer none] w fun e w' => e = .returned (.int .i64 3) ∧ w = w' := by
  go_enter Tryz.func84, Tryz.ntmps84
  go_wp2_with (go_at_call 43; refine (vmade_nil w).mono ?_; rintro e w9 ⟨rfl, rfl⟩)
  go_ret
  exact ⟨rfl, rfl⟩

section
variable {w w0 w' : World} {base p dp mb bn bs : Nat} {T U T0 : Nat → Prop} {v v' : VS} {os : OsL} {pv : Value} {SD SF : Nat → Prop} {ps : List Nat} {Ss : List (Nat → Prop)}

theorem chg_cell (w : World) (p i : Nat) (u : Value) : Chg (fun k => k = p) w (w.setCell ⟨p, i, none⟩ u) := (Chg.refl (fun k => k = p) w).setCell (.inr rfl) u
theorem VDT.setDead (h : VDT w0 T0 w base p v os dp mb bn bs pv SD SF ps Ss) : VDT w0 T0 (w.setCell ⟨p, 4, none⟩ (.bool true)) base p { v with dead := true } os dp mb bn bs pv SD SF ps Ss :=
  h.block (chg_cell w p 4 _) (h.vd.blk.set_ 4 (.bool true)) rfl
theorem VDT.setFuse (h : VDT w0 T0 w base p v os dp mb bn bs pv SD SF ps Ss) (n : Int) : VDT w0 T0 (w.setCell ⟨p, 6, none⟩ (.int .i64 n)) base p { v with fuse := n } os dp mb bn bs pv SD SF ps Ss :=
  h.block (chg_cell w p 6 _) (h.vd.blk.set_ 6 (.int .i64 n)) rfl
theorem VDT.setArm (h : VDT w0 T0 w base p v os dp mb bn bs pv SD SF ps Ss) : VDT w0 T0 (w.setCell ⟨p, 5, none⟩ (.bool true)) base p { v with armed := true } os dp mb bn bs pv SD SF ps Ss :=
  h.block (chg_cell w p 5 _) (h.vd.blk.set_ 5 (.bool true)) rfl

/-! ### change -/
theorem stops_dead (h : v.dead = true) : v.stops = true ∧ v.tick = v := by
  have hs : v.stops = true := by unfold VS.stops; rw [h]; rfl
  refine ⟨hs, ?_⟩
  unfold VS.tick
  rw [if_pos hs]
  obtain ⟨d, fs, room, fuse, armed, dead⟩ := v
  have h : dead = true := h
  subst h; rfl
theorem stops_free (h : v.dead = false) (ha : v.armed = false) : v.stops = false ∧ v.tick = v := by
  have hs : v.stops = false := by unfold VS.stops; rw [h, ha]; rfl
  exact ⟨hs, by unfold VS.tick; rw [if_neg (by rw [hs]; simp), if_neg (by rw [ha]; simp)]⟩
theorem stops_now (h : v.dead = false) (ha : v.armed = true) (hf : v.fuse = 0) : v.stops = true ∧ v.tick = { v with dead := true } := by
  have hs : v.stops = true := by unfold VS.stops; rw [h, ha, hf]; rfl
  exact ⟨hs, by unfold VS.tick; rw [if_pos hs]⟩
theorem stops_later (h : v.dead = false) (ha : v.armed = true) (hf : v.fuse ≠ 0) : v.stops = false ∧ v.tick = { v with fuse := v.fuse - 1 } := by
  have hs : v.stops = false := by unfold VS.stops; rw [h, ha]; simp [hf]
  exact ⟨hs, by unfold VS.tick; rw [if_neg (by rw [hs]; simp), if_pos ha]⟩
theorem stops_false (h : v.stops = false) : v.dead = false := by
  cases hd : v.dead with
  | false => rfl
  | true => rw [(stops_dead hd).1] at h; cases h
theorem tick_d : v.tick.d = v.d := by
  unfold VS.tick
  split
  · rfl
  · split <;> rfl
theorem tick_fs : v.tick.fs = v.fs := by
  unfold VS.tick
  split
  · rfl
  · split <;> rfl
theorem tick_room : v.tick.room = v.room := by
  unfold VS.tick
  split
  · rfl
  · split <;> rfl
theorem tick_dead (h : v.stops = false) : v.tick.dead = false := by
  unfold VS.tick
  rw [if_neg (by rw [h]; simp)]
  split
  · show v.dead = false
    exact stops_false h
  · exact stops_false h
theorem tick_dead' (h : v.stops = true) : v.tick.dead = true := by unfold VS.tick; rw [if_pos h]

def stopE (v : VS) : Int := if v.stops then 26 else 0

theorem vchange_any (h : VDT w0 T0 w base p v os dp mb bn bs pv SD SF ps Ss) (f0 : 0 ≤ v.fuse) (f1 : v.fuse ≤ 9223372036854775807) :
    Calls Tryz.prog 50 #[.pointer (some ⟨p, 0, none⟩)] w fun e w' => e = .returned (.int .i64 (stopE v)) ∧ VDT w0 T0 w' base p v.tick os dp mb bn bs pv SD SF ps Ss := by
  obtain ⟨c0, c1, c2, c3, c4, c5, c6, g0, g2, g4, g5, g6⟩ := h.vd.cells
  have HV := Lib.hid h
  clear h c0 c2 c3 g0 g2 g5
  unfold stopE
  cases hd : v.dead with
  | true =>
    obtain ⟨e1, e2⟩ := stops_dead hd
    rw [e1, e2, if_pos rfl]
    rw [hd] at c4
    have R := Lib.hid (vruns_no p mb w c1 c4)
    clear e1 e2 hd c1 c4 c5 c6 g4 g6
    go_enter Tryz.func50, Tryz.ntmps50
    go_wp2_with (go_at_call 84; refine R.out.mono ?_; rintro e w9 ⟨rfl, rfl⟩)
    go_ret
    exact ⟨rfl, HV.out⟩
  | false =>
    rw [hd] at c4
    have R := Lib.hid (vruns_yes p mb w c1 c4)
    cases ha : v.armed with
    | false =>
      obtain ⟨e1, e2⟩ := stops_free hd ha
      rw [e1, e2, if_neg (by simp)]
      rw [ha] at c5
      clear e1 e2 hd ha c1 c4 c6 g4 g6
      go_enter Tryz.func50, Tryz.ntmps50
      go_wp2_with (go_at_call 84; refine R.out.mono ?_; rintro e w9 ⟨rfl, rfl⟩)
      go_ret
      exact ⟨rfl, HV.out⟩
    | true =>
      rw [ha] at c5
      by_cases hf : v.fuse = 0
      · obtain ⟨e1, e2⟩ := stops_now hd ha hf
        rw [e1, e2, if_pos rfl]
        rw [hf] at c6
        clear e1 e2 hd ha c1 g6 hf
        go_enter Tryz.func50, Tryz.ntmps50
        go_wp2_with (go_at_call 84; refine R.out.mono ?_; rintro e w9 ⟨rfl, rfl⟩)
        go_ret
        exact ⟨rfl, HV.out.setDead⟩
      · obtain ⟨e1, e2⟩ := stops_later hd ha hf
        rw [e1, e2, if_neg (by simp)]
        obtain ⟨n, hn⟩ : ∃ n, n = v.fuse := ⟨_, rfl⟩
        rw [← hn] at c6 hf f0 f1 ⊢
        have hq : (n == 0) = false := by simpa using hf
        have n1 : IntKind.i64.wrap (n - 1) = n - 1 := by rw [IntKind.wrap_i64]; omega
        clear e1 e2 hd ha c1 c4 g4 hf hn
        go_enter Tryz.func50, Tryz.ntmps50
        go_wp2_with (go_at_call 84; refine R.out.mono ?_; rintro e w9 ⟨rfl, rfl⟩)
        go_ret
        exact ⟨rfl, HV.out.setFuse _⟩

/-! ### Arm -/
theorem varm_any (n : Int) (h : VDT w0 T0 w base p v os dp mb bn bs pv SD SF ps Ss) (h0 : -9223372036854775808 ≤ n) (h1 : n ≤ 9223372036854775807) :
    Calls Tryz.prog 25 #[.pointer (some ⟨p, 0, none⟩), .int .i64 n] w fun e w' => e = .returned (.tuple #[]) ∧ VDT w0 T0 w' base p (v.arm n) os dp mb bn bs pv SD SF ps Ss := by
  obtain ⟨c0, c1, c2, c3, c4, c5, c6, g0, g2, g4, g5, g6⟩ := h.vd.cells
  have R := Lib.hid (vmade_yes p mb w c1)
  have HV := Lib.hid h
  clear h c0 c1 c2 c3 c4 g0 g2 g4
  by_cases hn : n < 0
  · have hm : max n 0 = 0 := by omega
    rw [show v.arm n = { v with fuse := 0, armed := true } by unfold VS.arm; rw [if_pos hn]]
    go_enter Tryz.func25, Tryz.ntmps25
    go_wp2_with (go_at_call 43; refine R.out.mono ?_; rintro e w9 ⟨rfl, rfl⟩)
    go_end0
    exact ⟨rfl, HV.out.setArm.setFuse _⟩
  · have hm : max n 0 = n := by omega
    rw [show v.arm n = { v with fuse := n, armed := true } by unfold VS.arm; rw [if_neg hn]]
    go_enter Tryz.func25, Tryz.ntmps25
    go_wp2_with (go_at_call 43; refine R.out.mono ?_; rintro e w9 ⟨rfl, rfl⟩)
    go_end0
    exact ⟨rfl, HV.out.setArm.setFuse _⟩

/-! ### open, openToChange -/
theorem vopen_dead (x : ByteArray) (h : VDT w0 T0 w base p v os dp mb bn bs pv SD SF ps Ss) (hd : v.dead = true) :
    Calls Tryz.prog 61 #[.pointer (some ⟨p, 0, none⟩), .string x] w fun e w' => e = .returned (.tuple #[.pointer none, .int .i64 26]) ∧ w = w' := by
  obtain ⟨c0, c1, c2, c3, c4, c5, c6, g0, g2, g4, g5, g6⟩ := h.vd.cells
  rw [hd] at c4
  have R := Lib.hid (vruns_no p mb w c1 c4)
  clear h c0 c1 c2 c3 c4 c5 c6 g0 g2 g4 g5 g6 hd
  go_enter Tryz.func61, Tryz.ntmps61
  go_wp2_with (go_at_call 84; refine R.out.mono ?_; rintro e w9 ⟨rfl, rfl⟩)
  go_ret2
  exact ⟨rfl, rfl⟩
theorem vopen_none (x : ByteArray) (h : VDT w0 T0 w base p v os dp mb bn bs pv SD SF ps Ss) (hd : v.dead = false) (hx : x.size ≤ 200) (hg : getN v.d.now x = none) :
    Calls Tryz.prog 61 #[.pointer (some ⟨p, 0, none⟩), .string x] w fun e w' => e = .returned (.tuple #[.pointer none, .int .i64 6]) ∧ w = w' := by
  obtain ⟨c0, c1, c2, c3, c4, c5, c6, g0, g2, g4, g5, g6⟩ := h.vd.cells
  rw [hd] at c4
  have R := Lib.hid (vruns_yes p mb w c1 c4)
  have G := dget_any dp bn v.d.now x w (h.vd.dir.cells (Below.refl _ _)).1 h.vd.dir.now (by unfold maxLen; omega)
  rw [hg] at G
  have GH := Lib.hid G
  have HM := Lib.hid h.vd.map
  clear h c2 c3 c4 c5 c6 g0 g2 g4 g5 g6 hd hg G
  go_enter Tryz.func61, Tryz.ntmps61
  go_wp2_with (first
    | (go_at_call 84; refine R.out.mono ?_; rintro e w9 ⟨rfl, rfl⟩)
    | (go_at_call 81; refine GH.out.mono ?_; rintro e w9 ⟨rfl, rfl⟩)
    | (at_lookup; refine wpList_lookF _ rfl _ _ rfl mb _ _ HM.out rfl 0 rfl (by decide) _ rfl ?_))
  go_ret2
  exact ⟨rfl, rfl⟩
theorem vopen_yes (x : ByteArray) (i : Int) (q : Nat) (h : VDT w0 T0 w base p v os dp mb bn bs pv SD SF ps Ss) (hd : v.dead = false) (hx : x.size ≤ 200) (hg : getN v.d.now x = some i) (hi : (Lit.int .i64 i).wf = true) (hq : lookP ps os i = some q) :
    Calls Tryz.prog 61 #[.pointer (some ⟨p, 0, none⟩), .string x] w fun e w' => e = .returned (.tuple #[.pointer (some ⟨q, 0, none⟩), .int .i64 0]) ∧ w = w' := by
  obtain ⟨c0, c1, c2, c3, c4, c5, c6, g0, g2, g4, g5, g6⟩ := h.vd.cells
  rw [hd] at c4
  have R := Lib.hid (vruns_yes p mb w c1 c4)
  have G := dget_any dp bn v.d.now x w (h.vd.dir.cells (Below.refl _ _)).1 h.vd.dir.now (by unfold maxLen; omega)
  rw [hg] at G
  have GH := Lib.hid G
  have HM := Lib.hid h.vd.map
  have HQ := Lib.hid (show Value.pointer (some ⟨q, 0, none⟩) = ptrV (lookP ps os i) by rw [hq]; rfl)
  have HI := Lib.hid hi
  clear h c2 c3 c4 c5 c6 g0 g2 g4 g5 g6 hd hg G hq hi
  go_enter Tryz.func61, Tryz.ntmps61
  go_wp2_with (first
    | (go_at_call 84; refine R.out.mono ?_; rintro e w9 ⟨rfl, rfl⟩)
    | (go_at_call 81; refine GH.out.mono ?_; rintro e w9 ⟨rfl, rfl⟩)
    | (at_lookup; refine wpList_lookF _ rfl _ _ rfl mb _ _ HM.out rfl i rfl HI.out _ HQ.out ?_))
  go_ret2
  exact ⟨rfl, rfl⟩
end

end Go.Proofs.YtclglbddibjenaaGreat
