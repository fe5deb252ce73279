/-
  LAYER 8: WHAT New, Rename, Unlink, Sync, Truncate AND Write DO: contracts.
-/
import Derived.Test.YtclglbddibjenaaGreatVdFn4
set_option linter.unusedVariables false
set_option linter.unusedSimpArgs false
set_option maxRecDepth 100000
namespace Go.Proofs.YtclglbddibjenaaGreat
open Go.RowKit Go.Shelf

/-- What is left of a disk behind a call. -/
def VOut (w : World) (T : Nat → Prop) (base p : Nat) (v : VS) (N : Nat) (w' : World) : Prop := ∃ os, VXT w T w' base p v os ∧ GoodV v os N

section
variable {w w0 w' : World} {base p dp mb bn bs N : Nat} {T U T0 : Nat → Prop} {v v' : VS} {os : OsL} {pv : Value} {SD SF : Nat → Prop} {ps : List Nat} {Ss : List (Nat → Prop)}

theorem VDT.x (h : VDT w0 T0 w base p v os dp mb bn bs pv SD SF ps Ss) : VXT w0 T0 w base p v os := ⟨_, _, _, _, _, _, _, _, _, h⟩
theorem VDT.vout (h : VDT w0 T0 w base p v os dp mb bn bs pv SD SF ps Ss) (hg : GoodV v os N) : VOut w0 T0 base p v N w := ⟨os, h.x, hg⟩
theorem VDT.bel (h : VDT w0 T0 w base p v os dp mb bn bs pv SD SF ps Ss) : Below base w0 w := h.chg.below h.bas0 (fun k _ hk => (h.foot0 k hk).1)

/-! ### New -/
theorem VDT.made {w1 : World} {P0 b0 b1 : Nat} (hb : base ≤ w.heap.size) (hx : NewAt w w1 base P0 b0 b1) (room : Int) :
    VDT w (fun _ => False) ((w1.alloc (.map #[] 0)).alloc (.cells (diskC P0 w1.heap.size (VS.new room) 0) 58)) base (w1.heap.size + 1) (VS.new room) [] P0 w1.heap.size b0 b1 (.slice none 0 0) (fun k => w.heap.size ≤ k ∧ k < w1.heap.size) (fun _ => False) [] [] := by
  have h1 : (w1.alloc (.map #[] 0)).heap.size = w1.heap.size + 1 := by simp
  have h2 : ((w1.alloc (.map #[] 0)).alloc (.cells (diskC P0 w1.heap.size (VS.new room) 0) 58)).heap.size = w1.heap.size + 2 := by simp
  have hs := hx.below.size
  have hb1 : Below w1.heap.size w1 ((w1.alloc (.map #[] 0)).alloc (.cells (diskC P0 w1.heap.size (VS.new room) 0) 58)) := ((Below.refl _ _).alloc (Nat.le_refl _) _).alloc (by simp) _
  have hbl := Blk.new (w1.alloc (.map #[] 0)) 58 (diskC P0 w1.heap.size (VS.new room) 0)
  rw [h1] at hbl
  have hm := (FMap.new w1).below ((Below.refl _ _).alloc (Nat.le_refl _) (.cells (diskC P0 w1.heap.size (VS.new room) 0) 58))
  have hall : Below w.heap.size w ((w1.alloc (.map #[] 0)).alloc (.cells (diskC P0 w1.heap.size (VS.new room) 0) 58)) := hx.below.trans (hb1.mono hs)
  refine ⟨fun k hk => hk.elim, hb, Chg.of_below hall (Nat.le_refl _) _, ?_⟩
  refine ⟨fun k hk => ?_, by omega, hbl, hx.cd.below hb1, hm.congr (fun i => ?_), Pile.nil _ _, .inr (by omega), .inr (by omega), fun k hk => .inr (by have := hk.1; have := hk.2; omega), fun k hk => hk.elim, fun hk => ?_, fun hk => hk, fun hk => ?_, fun hk => hk, fun k _ hk => hk⟩
  · rcases hk with hk | hk
    · exact hk.elim
    · have := hk.1; have := hk.2; omega
  · unfold lookP
    split
    · simp
    · rfl
  · have := hk.2; omega
  · have := hk.2; omega
set_option maxHeartbeats 1000000 in
theorem vnew_any (room : Int) (w : World) (base : Nat) (hb : base ≤ w.heap.size) (h0 : -9223372036854775808 ≤ room) (h1 : room ≤ 9223372036854775807) :
    Calls Tryz.prog 8 #[.int .i64 room] w fun e w' => ∃ P, e = .returned (.pointer (some ⟨P, 0, none⟩)) ∧ Hid (VXT w (fun _ => False) w' base P (VS.new room) []) := by
  have hmm := @run_makeMap Tryz.prog
  have ND := Lib.hid (dnew_ex w base hb)
  have MD := Lib.hid (fun (w1 : World) (P0 b0 b1 : Nat) (hx : NewAt w w1 base P0 b0 b1) => VDT.made hb hx room)
  unfold VS.new at MD
  by_cases hn : room < 0
  · have hm : max room 0 = 0 := by omega
    rw [if_pos hn] at MD
    rw [show VS.new room = ⟨newD, [], 0, 0, false, false⟩ by unfold VS.new; rw [if_pos hn]]
    clear hb h0 h1 hn
    go_enter Tryz.func8, Tryz.ntmps8
    go_wp2_with (go_at_call 33; go_loud (refine ND.out.mono ?_; rintro e w1 ⟨P0, b0, b1, rfl, hx⟩; have HX := Lib.hid (MD.out _ _ _ _ hx.out); clear hx))
    go_ret
    refine ⟨_, rfl, Lib.hid ?_⟩
    exact ⟨_, _, _, _, _, _, _, _, _, by simpa [diskC] using HX.out⟩
  · have hm : max room 0 = room := by omega
    rw [if_neg hn] at MD
    rw [show VS.new room = ⟨newD, [], room, 0, false, false⟩ by unfold VS.new; rw [if_neg hn]]
    clear hb h0 h1 hn
    go_enter Tryz.func8, Tryz.ntmps8
    go_wp2_with (go_at_call 33; go_loud (refine ND.out.mono ?_; rintro e w1 ⟨P0, b0, b1, rfl, hx⟩; have HX := Lib.hid (MD.out _ _ _ _ hx.out); clear hx))
    go_ret
    refine ⟨_, rfl, Lib.hid ?_⟩
    exact ⟨_, _, _, _, _, _, _, _, _, by simpa [diskC] using HX.out⟩

/-! ### Rename, Unlink -/
/-- What a call answers that may be the one at which the disk stops. -/
def orStop (v : VS) (e : Int) : Int := if v.stops then 26 else e
/-- .. and does. -/
def orTick (v t : VS) : VS := if v.stops then v.tick else t
theorem orStop_yes (h : v.stops = true) (e : Int) : orStop v e = 26 := by unfold orStop; rw [if_pos h]
theorem orStop_no (h : v.stops = false) (e : Int) : orStop v e = e := by unfold orStop; rw [if_neg (by rw [h]; simp)]
theorem orTick_yes {t : VS} (h : v.stops = true) : orTick v t = v.tick := by unfold orTick; rw [if_pos h]
theorem orTick_no {t : VS} (h : v.stops = false) : orTick v t = t := by unfold orTick; rw [if_neg (by rw [h]; simp)]
theorem stopE_yes (h : v.stops = true) : stopE v = 26 := by unfold stopE; rw [if_pos h]
theorem stopE_no (h : v.stops = false) : stopE v = 0 := by unfold stopE; rw [if_neg (by rw [h]; simp)]

set_option maxHeartbeats 1000000 in
theorem vrename_any (x y : ByteArray) (id : Int) (h : VX w base T p v os) (hg : GoodV v os N) (hN : N ≤ 1000) (hx : x.size ≤ 200) (hy : y.size ≤ 200) (hid : (Lit.int .i64 id).wf = true) :
    Calls Tryz.prog 30 #[.pointer (some ⟨p, 0, none⟩), .string x, .string y] w fun e w' => e = .returned (.int .i64 (orStop v (doE v.d.now ⟨1, x, y, id⟩))) ∧ VOut w T base p (orTick v (v.tick.name ⟨1, x, y, id⟩)) (N + 1) w' := by
  obtain ⟨dp, mb, bn, bs, pv, SD, SF, ps, Ss, hv⟩ := h
  have C := vchange_any (VDT.start hv) hg.f0 hg.f1
  have hgt := hg.tick
  cases hs : v.stops with
  | true =>
    rw [orStop_yes hs, orTick_yes hs]
    rw [stopE_yes hs] at C
    have CH := Lib.hid C
    have HG := Lib.hid hgt
    clear hv C hg hgt hs
    go_enter Tryz.func30, Tryz.ntmps30
    go_wp2_with (go_at_call 50; refine CH.out.mono ?_; rintro e w1 ⟨rfl, hx⟩; have HX := Lib.hid hx; clear hx)
    go_ret
    exact ⟨rfl, HX.out.vout (HG.out.more (Nat.le_succ _))⟩
  | false =>
    rw [orStop_no hs, orTick_no hs]
    rw [stopE_no hs] at C
    have CH := Lib.hid C
    have HG := Lib.hid hgt
    have DR := Lib.hid (fun (w1 : World) (h1 : VDT w T w1 base p v.tick os dp mb bn bs pv SD SF ps Ss) => (show Calls Tryz.prog 69 #[.pointer (some ⟨dp, 0, none⟩), .string x, .string y] w1 (fun e w' => e = .returned (.int .i64 (doE v.d.now ⟨1, x, y, id⟩)) ∧ VOut w T base p (v.tick.name ⟨1, x, y, id⟩) (N + 1) w') by
      refine (drename_any dp base N SD v.tick.d bn bs pv x y id w1 h1.vd.dir hgt.d (by omega) hx hy hid).mono ?_
      rintro e w' ⟨rfl, hc⟩
      obtain ⟨bn', bs', pv', h2⟩ := h1.turnDir hc
      exact ⟨by rw [tick_d], h2.vout (hgt.name ⟨hx, hy, hid, .inr (.inl rfl)⟩ (by show ¬ (1 : Int) = 0; omega))⟩))
    clear hv C hg hgt hs hx hy hid
    go_enter Tryz.func30, Tryz.ntmps30
    go_wp2_with (first
      | (go_at_call 50; refine CH.out.mono ?_; rintro e w1 ⟨rfl, hx⟩; have HX := Lib.hid hx; obtain ⟨c0, -, -, -, -, -, -, -, -, -, -, -⟩ := hx.vd.cells; clear hx)
      | (go_at_call 69; refine (DR.out _ HX.out).mono ?_; rintro e w2 ⟨rfl, hy⟩; have HY := Lib.hid hy; clear hy))
    go_ret
    exact ⟨rfl, HY.out⟩

set_option maxHeartbeats 1000000 in
theorem vunlink_any (x y : ByteArray) (id : Int) (h : VX w base T p v os) (hg : GoodV v os N) (hN : N ≤ 1000) (hx : x.size ≤ 200) (hy : y.size ≤ 200) (hid : (Lit.int .i64 id).wf = true) :
    Calls Tryz.prog 31 #[.pointer (some ⟨p, 0, none⟩), .string x] w fun e w' => e = .returned (.int .i64 (orStop v (doE v.d.now ⟨2, x, y, id⟩))) ∧ VOut w T base p (orTick v (v.tick.name ⟨2, x, y, id⟩)) (N + 1) w' := by
  obtain ⟨dp, mb, bn, bs, pv, SD, SF, ps, Ss, hv⟩ := h
  have C := vchange_any (VDT.start hv) hg.f0 hg.f1
  have hgt := hg.tick
  cases hs : v.stops with
  | true =>
    rw [orStop_yes hs, orTick_yes hs]
    rw [stopE_yes hs] at C
    have CH := Lib.hid C
    have HG := Lib.hid hgt
    clear hv C hg hgt hs
    go_enter Tryz.func31, Tryz.ntmps31
    go_wp2_with (go_at_call 50; refine CH.out.mono ?_; rintro e w1 ⟨rfl, hx⟩; have HX := Lib.hid hx; clear hx)
    go_ret
    exact ⟨rfl, HX.out.vout (HG.out.more (Nat.le_succ _))⟩
  | false =>
    rw [orStop_no hs, orTick_no hs]
    rw [stopE_no hs] at C
    have CH := Lib.hid C
    have HG := Lib.hid hgt
    have DR := Lib.hid (fun (w1 : World) (h1 : VDT w T w1 base p v.tick os dp mb bn bs pv SD SF ps Ss) => (show Calls Tryz.prog 70 #[.pointer (some ⟨dp, 0, none⟩), .string x] w1 (fun e w' => e = .returned (.int .i64 (doE v.d.now ⟨2, x, y, id⟩)) ∧ VOut w T base p (v.tick.name ⟨2, x, y, id⟩) (N + 1) w') by
      refine (dunlink_any dp base N SD v.tick.d bn bs pv x y id w1 h1.vd.dir hgt.d (by omega) hx hy hid).mono ?_
      rintro e w' ⟨rfl, hc⟩
      obtain ⟨bn', bs', pv', h2⟩ := h1.turnDir hc
      exact ⟨by rw [tick_d], h2.vout (hgt.name ⟨hx, hy, hid, .inr (.inr rfl)⟩ (by show ¬ (2 : Int) = 0; omega))⟩))
    clear hv C hg hgt hs hx hy hid
    go_enter Tryz.func31, Tryz.ntmps31
    go_wp2_with (first
      | (go_at_call 50; refine CH.out.mono ?_; rintro e w1 ⟨rfl, hx⟩; have HX := Lib.hid hx; obtain ⟨c0, -, -, -, -, -, -, -, -, -, -, -⟩ := hx.vd.cells; clear hx)
      | (go_at_call 70; refine (DR.out _ HX.out).mono ?_; rintro e w2 ⟨rfl, hy⟩; have HY := Lib.hid hy; clear hy))
    go_ret
    exact ⟨rfl, HY.out⟩

/-! ### Sync -/
theorem set_fs {k : Nat} {f : FS} : (v.put (k : Int) f).d = v.d ∧ (v.put (k : Int) f).room = v.room ∧ (v.put (k : Int) f).fuse = v.fuse ∧ (v.put (k : Int) f).armed = v.armed ∧ (v.put (k : Int) f).dead = v.dead := ⟨rfl, rfl, rfl, rfl, rfl⟩
/-- A file of it has turned. -/
theorem VDT.putFile {k q : Nat} {S : Nat → Prop} {f g : FS} (h : VDT w0 T0 w base p v os dp mb bn bs pv SD SF ps Ss) (hg : GoodV v os N) (hof : os[k]? = some (some f)) (hq : ps[k]? = some q) (hS : Ss[k]? = some S) (hd : CFT base S q g w w') (hgg : g.Good ((N + 1) * 10)) : VOut w0 T0 base p (v.put (k : Int) g) (N + 1) w' :=
  (h.turnFile hof hq hS hd set_fs).vout (hg.put hof hgg)
theorem syncE_tick (x : ByteArray) : v.tick.syncE x = v.syncE x := by unfold VS.syncE; rw [tick_d]

set_option maxHeartbeats 1000000 in
theorem vsync_any (x : ByteArray) (h : VX w base T p v os) (hg : GoodV v os N) (hN : N ≤ 1000) (hx : x.size ≤ 200) :
    Calls Tryz.prog 17 #[.pointer (some ⟨p, 0, none⟩), .string x] w fun e w' => e = .returned (.int .i64 (orStop v (v.syncE x))) ∧ VOut w T base p (orTick v (v.tick.sync x)) (N + 1) w' := by
  obtain ⟨dp, mb, bn, bs, pv, SD, SF, ps, Ss, hv⟩ := h
  have hgt := hg.tick
  cases hs : v.stops with
  | true =>
    rw [orStop_yes hs, orTick_yes hs]
    have O := Lib.hid (votc_dead x (VDT.start hv) hg.f0 hg.f1 hs)
    have HG := Lib.hid hgt
    clear hv hg hgt hs
    go_enter Tryz.func17, Tryz.ntmps17
    go_wp2_with (first
      | (go_at_call 48; refine O.out.mono ?_; rintro e w1 ⟨rfl, hx⟩; have HX := Lib.hid hx; clear hx)
      | (go_at_call 49; refine (fsync_nil _).mono ?_; rintro e w9 ⟨rfl, rfl⟩))
    go_ret
    exact ⟨rfl, HX.out.vout (HG.out.more (Nat.le_succ _))⟩
  | false =>
    rw [orStop_no hs, orTick_no hs, ← syncE_tick]
    cases hgx : getN v.d.now x with
    | none =>
      have O := Lib.hid (votc_none x (VDT.start hv) hg.f0 hg.f1 hs hx hgx)
      have HG := Lib.hid hgt
      have hgx2 : getN v.tick.d.now x = none := by rw [tick_d]; exact hgx
      rw [show v.tick.syncE x = 6 by unfold VS.syncE hasB; rw [hgx2]; rfl, show v.tick.sync x = v.tick by unfold VS.sync; rw [hgx2]]
      clear hv hg hgt hs hgx hgx2
      go_enter Tryz.func17, Tryz.ntmps17
      go_wp2_with (first
        | (go_at_call 48; refine O.out.mono ?_; rintro e w1 ⟨rfl, hx⟩; have HX := Lib.hid hx; clear hx)
        | (go_at_call 49; refine (fsync_nil _).mono ?_; rintro e w9 ⟨rfl, rfl⟩))
      go_ret
      exact ⟨rfl, HX.out.vout (HG.out.more (Nat.le_succ _))⟩
    | some i =>
      have hgx2 : getN v.tick.d.now x = some i := by rw [tick_d]; exact hgx
      obtain ⟨k, q, f, -, -, -, -, -, -, rfl, hof, hlk, hq, -, hvf, hfa, hfg, -⟩ := (VDT.start hv).named hg hgx
      have O := Lib.hid (votc_yes x k q (VDT.start hv) hg.f0 hg.f1 hs hx hgx (wf_k hg (by omega) hvf) hlk)
      have hfa2 : fileAt v.tick.fs (k : Int) = f := by rw [tick_fs]; exact hfa
      rw [show v.tick.syncE x = 0 by unfold VS.syncE hasB; rw [hgx2]; rfl, show v.tick.sync x = v.tick.put (k : Int) f.sync by unfold VS.sync; rw [hgx2]; simp only; rw [hfa2]]
      have FS_ := Lib.hid (fun (w1 : World) (h1 : VDT w T w1 base p v.tick os dp mb bn bs pv SD SF ps Ss) => (show Calls Tryz.prog 49 #[.pointer (some ⟨q, 0, none⟩)] w1 (fun e w' => e = .returned (.tuple #[]) ∧ VOut w T base p (v.tick.put (k : Int) f.sync) (N + 1) w') by
        obtain ⟨q', S, nv, sv, qv, hq', hS, hcf, -, -⟩ := h1.vd.file hof
        rw [hq] at hq'
        injection hq' with hq'
        subst hq'
        refine (fsync_any q base S f nv sv qv w1 hcf hfg.ok.size).mono ?_
        rintro e w' ⟨rfl, hc⟩
        exact ⟨rfl, h1.putFile hgt hof hq hS hc (hfg.sync.more (by omega))⟩))
      clear hv hg hgt hs hgx hgx2 hof hlk hq hvf hfa hfa2 hfg
      go_enter Tryz.func17, Tryz.ntmps17
      go_wp2_with (first
        | (go_at_call 48; refine O.out.mono ?_; rintro e w1 ⟨rfl, hx⟩; have HX := Lib.hid hx; clear hx)
        | (go_at_call 49; refine (FS_.out _ HX.out).mono ?_; rintro e w2 ⟨rfl, hy⟩; have HY := Lib.hid hy; clear hy))
      go_ret
      exact ⟨rfl, HY.out⟩
end

end Go.Proofs.YtclglbddibjenaaGreat
