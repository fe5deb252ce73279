/-
  LAYER 8: WHAT THE DOCUMENT'S OWN New, Rename, Unlink, Sync, Truncate AND Write DO: contracts. Written by a program (gen8r.py).
-/
import Derived.Test.YtclglbddibjenaaGreatVdRef
set_option linter.unusedVariables false
set_option linter.unusedSimpArgs false
set_option maxRecDepth 100000
namespace Go.Proofs.YtclglbddibjenaaGreat
open Go.RowKit

theorem rvfwrite_any (p : Nat) (a : Int) (Ab : Option Addr) (m cb : Nat) (bs : List Int) (B base : Nat) (S : Nat → Prop) (s : FS) (nv sv ov : Value) (xs : List Value) (w : World) (h : RF w base S p s nv sv ov xs) (hr : Reads w B 1 Ab m (cellsOf .u8 bs)) (hB : B ≤ base) (hmc : m ≤ cb) (hcb : cb ≤ 9223372036854775807)
    (h0 : -9223372036854775808 ≤ a) (h1 : a ≤ 9223372036854775807) (hm : m ≤ 4611686018427387904) (hl : s.now.length ≤ 1048576) (ho : s.ops.length ≤ 900000) :
    Calls Tryz.prog 74 #[.pointer (some ⟨p, 0, none⟩), .int .i64 a, .slice Ab m cb] w fun e w' => e = .returned (.int .i64 (writeE a m)) ∧ RFT base S p (s.writeI a bs) w w' := by
  have HC := Lib.hid (RFT.same h)
  have hbm : bs.length = m := by have := hr.1; rw [cellsOf_length] at this; omega
  by_cases hn : a < 0
  · have e1 : writeE a m = 1 := by unfold writeE; rw [if_pos (.inl hn)]
    have e2 : s.writeI a bs = s := by unfold FS.writeI; rw [if_pos (.inl hn)]
    rw [e1, e2]
    clear h e1 e2 hr hbm
    go_enter Tryz.func74, Tryz.ntmps74
    go_wp2
    go_ret
    exact ⟨rfl, HC.out⟩
  · by_cases hx : 1048576 < a + m
    · have e1 : writeE a m = 1 := by unfold writeE; rw [if_pos (.inr hx)]
      have e2 : s.writeI a bs = s := by unfold FS.writeI; rw [if_pos (.inr (by omega))]
      rw [e1, e2]
      by_cases hx2 : 1048576 < a
      · clear h e1 e2 hr hbm
        go_enter Tryz.func74, Tryz.ntmps74
        go_wp2
        go_ret
        exact ⟨rfl, HC.out⟩
      · have x1 : 1048576 - a < (m : Int) := by omega
        clear h e1 e2 hr hbm
        go_enter Tryz.func74, Tryz.ntmps74
        go_wp2
        go_ret
        exact ⟨rfl, HC.out⟩
    · obtain ⟨k, rfl⟩ : ∃ k : Nat, a = k := ⟨a.toNat, by omega⟩
      have e1 : writeE k m = 0 := by unfold writeE; rw [if_neg (by omega)]
      have e2 : s.writeI k bs = s.write k bs := by unfold FS.writeI; rw [if_neg (by omega)]; rfl
      rw [e1, e2]
      by_cases hm0 : m = 0
      · have e3 : s.write k bs = s := by unfold FS.write; rw [if_pos (List.eq_nil_of_length_eq_zero (by omega))]
        rw [e3]
        subst hm0
        have x1 : ¬ 1048576 < (k : Int) := by omega
        have x2 : ¬ 1048576 - (k : Int) < 0 := by omega
        clear h e1 e2 e3 hr hbm hx hn
        go_enter Tryz.func74, Tryz.ntmps74
        go_wp2
        go_loopw [7] (fun i wr => i = .int .i64 0 ∧ wr = w) (fun _ _ => 0)
        case atStart => exact ⟨rfl, rfl⟩
        case round =>
          obtain ⟨rfl, rfl⟩ := hrel
          go_wp2
          go_ret
          exact ⟨rfl, HC.out⟩
      · exact rwrite_nat p k Ab m cb bs B base S s nv sv ov xs w h hr hB hmc hcb (by omega) (by omega) hl ho

section
variable {w w0 w' : World} {base q dq N : Nat} {T U T0 : Nat → Prop} {v v' : VS} {os : OsL} {fv nv sv ov : Value} {SD SF : Nat → Prop} {qs : List Nat} {Ss : List (Nat → Prop)}

theorem eqlF (r : Option Addr) (w : World) : (binOp .eql 65 (.pointer r) (.pointer none)).run Tryz.prog w = .ok (.bool r.isNone) w := by
  have h := run_eql_pointer_nil (P := Tryz.prog) (w := w) 65 r (by kernel_rfl)
  exact h

/-! ### New -/
theorem RV.new (w : World) (base : Nat) (hb : base ≤ w.heap.size) (room : Int) (dead : Bool) :
    RV ((w.alloc (.cells #[.slice none 0 0, .slice none 0 0, .slice none 0 0] 44)).alloc (.cells (rdiskC w.heap.size (.slice none 0 0) (VS.new room)) 48)) base (fun k => w.heap.size ≤ k ∧ k < w.heap.size + 2) (w.heap.size + 1) (VS.new room) w.heap.size (.slice none 0 0) (.slice none 0 0) (.slice none 0 0) (.slice none 0 0) (fun k => k = w.heap.size) (fun _ => False) [] [] := by
  have h1 : (w.alloc (.cells #[.slice none 0 0, .slice none 0 0, .slice none 0 0] 44)).heap.size = w.heap.size + 1 := by simp
  have h2 : ((w.alloc (.cells #[.slice none 0 0, .slice none 0 0, .slice none 0 0] 44)).alloc (.cells (rdiskC w.heap.size (.slice none 0 0) (VS.new room)) 48)).heap.size = w.heap.size + 2 := by simp
  have hbl := Blk.new (w.alloc (.cells #[.slice none 0 0, .slice none 0 0, .slice none 0 0] 44)) 48 (rdiskC w.heap.size (.slice none 0 0) (VS.new room))
  rw [h1] at hbl
  have hrd : RD (w.alloc (.cells #[.slice none 0 0, .slice none 0 0, .slice none 0 0] 44)) base (fun k => k = w.heap.size) w.heap.size newD (.slice none 0 0) (.slice none 0 0) (.slice none 0 0) :=
    ⟨fun k hk => by subst hk; simp; exact hb, by simp; omega, rfl, Blk.new _ _ _, World.ownsRow_nil _ _ _ _, World.ownsRow_nil _ _ _ _, World.ownsRow_nil _ _ _ _, fun g hg => by simp [Value.ownBlock] at hg, fun g hg => by simp [Value.ownBlock] at hg, fun g hg => by simp [Value.ownBlock] at hg⟩
  refine ⟨fun k hk => by rw [h2]; omega, by rw [h2]; omega, hbl, hrd.below ((Below.refl _ _).alloc (Nat.le_refl _) _), World.ownsRow_nil _ _ _ _, Pile.nil _ _, ⟨by omega, by omega⟩, fun g hg => by simp [Value.ownBlock] at hg, fun k hk => ?_, fun k hk => hk.elim, fun hk => ?_, fun hk => hk, fun g hg => by simp [Value.ownBlock] at hg, fun g hg => by simp [Value.ownBlock] at hg, fun k _ hk => hk⟩
  · have hk : k = w.heap.size := hk
    exact ⟨by omega, by omega⟩
  · have hk : w.heap.size + 1 = w.heap.size := hk
    omega
/-- A disk of the document's has been made. -/
def RNew (w : World) (base q : Nat) (v : VS) (w' : World) : Prop := Below w.heap.size w w' ∧ ∃ dq fv nv sv ov SD SF qs Ss, RV w' base (fun k => w.heap.size ≤ k ∧ k < w'.heap.size) q v dq fv nv sv ov SD SF qs Ss
theorem rvnew_any (room : Int) (w : World) (base : Nat) (hb : base ≤ w.heap.size) :
    Calls Tryz.prog 9 #[.int .i64 room] w fun e w' => ∃ q, e = .returned (.pointer (some ⟨q, 0, none⟩)) ∧ Hid (RNew w base q (VS.new room) w') := by
  have h1 : (w.alloc (.cells #[.slice none 0 0, .slice none 0 0, .slice none 0 0] 44)).heap.size = w.heap.size + 1 := by simp
  have h2 : ((w.alloc (.cells #[.slice none 0 0, .slice none 0 0, .slice none 0 0] 44)).alloc (.cells (rdiskC w.heap.size (.slice none 0 0) (VS.new room)) 48)).heap.size = w.heap.size + 2 := by simp
  have hN : RNew w base (w.heap.size + 1) (VS.new room) ((w.alloc (.cells #[.slice none 0 0, .slice none 0 0, .slice none 0 0] 44)).alloc (.cells (rdiskC w.heap.size (.slice none 0 0) (VS.new room)) 48)) :=
    ⟨((Below.refl _ _).alloc (Nat.le_refl _) _).alloc (by simp) _, _, _, _, _, _, _, _, _, _, by rw [h2]; exact RV.new w base hb room false⟩
  clear hb h1 h2
  unfold VS.new rdiskC at hN
  by_cases hn : room < 0
  · rw [if_pos hn] at hN
    rw [show VS.new room = ⟨newD, [], 0, 0, false, false⟩ by unfold VS.new; rw [if_pos hn]]
    have HN := Lib.hid hN
    clear hN
    go_enter Tryz.func9, Tryz.ntmps9
    go_wp2
    go_ret
    exact ⟨_, rfl, by simpa using HN⟩
  · rw [if_neg hn] at hN
    rw [show VS.new room = ⟨newD, [], room, 0, false, false⟩ by unfold VS.new; rw [if_neg hn]]
    have HN := Lib.hid hN
    clear hN
    go_enter Tryz.func9, Tryz.ntmps9
    go_wp2
    go_ret
    exact ⟨_, rfl, by simpa using HN⟩

set_option maxHeartbeats 2000000 in
theorem rvrename_any (x y : ByteArray) (h : RX w base T q v) (hg : GoodV v os N) (hN : N ≤ 1000) (hx : x.size ≤ 200) (hy : y.size ≤ 200) :
    Calls Tryz.prog 38 #[.pointer (some ⟨q, 0, none⟩), .string x, .string y] w fun e w' => e = .returned (.int .i64 (orStop v (doE v.d.now ⟨1, x, y, 0⟩))) ∧ RXT w T base q (orTick v (v.tick.name ⟨1, x, y, 0⟩)) w' := by
  obtain ⟨dq, fv, nv, sv, ov, SD, SF, qs, Ss, hv⟩ := h
  have C := rvchange_any (RVT.start hv) hg.f0 hg.f1
  have hgt := hg.tick
  cases hs : v.stops with
  | true =>
    rw [orStop_yes hs, orTick_yes hs]
    rw [hs] at C
    have CH := Lib.hid C
    clear hv C hg hgt hs
    go_enter Tryz.func38, Tryz.ntmps38
    go_wp2_with (go_at_call 71; refine CH.out.mono ?_; rintro e w1 ⟨rfl, hx⟩; have HX := Lib.hid hx; obtain ⟨c0, -, -, -, -, -, -, -, -, -⟩ := hx.rv.cells; clear hx)
    go_ret
    exact ⟨rfl, HX.out.x⟩
  | false =>
    rw [orStop_no hs, orTick_no hs]
    rw [hs] at C
    have CH := Lib.hid C
    have DO := Lib.hid (fun (w1 : World) (h1 : RVT w T w1 base q v.tick dq fv nv sv ov SD SF qs Ss) => (show Calls Tryz.prog 72 #[.pointer (some ⟨dq, 0, none⟩), .agg #[.int .i64 1, .string x, .string y, .int .i64 0]] w1 (fun e w' => e = .returned (.int .i64 (doE v.d.now ⟨1, x, y, 0⟩)) ∧ RXT w T base q (v.tick.name ⟨1, x, y, 0⟩) w') by
      refine (rdo_any dq base N SD v.tick.d nv sv ov ⟨1, x, y, 0⟩ w1 h1.rv.dir hgt.d (by omega) ⟨hx, hy, (by show (Lit.int .i64 0).wf = true; decide), .inr (.inl rfl)⟩).mono ?_
      rintro e w' ⟨rfl, hc⟩
      obtain ⟨nv', sv', ov', h2⟩ := h1.turnDir hc
      exact ⟨by rw [tick_d], h2.x⟩))
    clear hv C hg hgt hs hx hy
    go_enter Tryz.func38, Tryz.ntmps38
    go_wp2_with (first
      | (go_at_call 71; refine CH.out.mono ?_; rintro e w1 ⟨rfl, hx⟩; have HX := Lib.hid hx; obtain ⟨c0, -, -, -, -, -, -, -, -, -⟩ := hx.rv.cells; clear hx)
      | (go_at_call 72; go_loud (refine (DO.out _ HX.out).mono ?_; rintro e w2 ⟨rfl, hy⟩; have HY := Lib.hid hy; clear hy)))
    go_ret
    exact ⟨rfl, HY.out⟩

set_option maxHeartbeats 2000000 in
theorem rvunlink_any (x : ByteArray) (h : RX w base T q v) (hg : GoodV v os N) (hN : N ≤ 1000) (hx : x.size ≤ 200) :
    Calls Tryz.prog 39 #[.pointer (some ⟨q, 0, none⟩), .string x] w fun e w' => e = .returned (.int .i64 (orStop v (doE v.d.now ⟨2, x, ⟨#[]⟩, 0⟩))) ∧ RXT w T base q (orTick v (v.tick.name ⟨2, x, ⟨#[]⟩, 0⟩)) w' := by
  obtain ⟨dq, fv, nv, sv, ov, SD, SF, qs, Ss, hv⟩ := h
  have C := rvchange_any (RVT.start hv) hg.f0 hg.f1
  have hgt := hg.tick
  cases hs : v.stops with
  | true =>
    rw [orStop_yes hs, orTick_yes hs]
    rw [hs] at C
    have CH := Lib.hid C
    clear hv C hg hgt hs
    go_enter Tryz.func39, Tryz.ntmps39
    go_wp2_with (go_at_call 71; refine CH.out.mono ?_; rintro e w1 ⟨rfl, hx⟩; have HX := Lib.hid hx; obtain ⟨c0, -, -, -, -, -, -, -, -, -⟩ := hx.rv.cells; clear hx)
    go_ret
    exact ⟨rfl, HX.out.x⟩
  | false =>
    rw [orStop_no hs, orTick_no hs]
    rw [hs] at C
    have CH := Lib.hid C
    have DO := Lib.hid (fun (w1 : World) (h1 : RVT w T w1 base q v.tick dq fv nv sv ov SD SF qs Ss) => (show Calls Tryz.prog 72 #[.pointer (some ⟨dq, 0, none⟩), .agg #[.int .i64 2, .string x, .string ⟨#[]⟩, .int .i64 0]] w1 (fun e w' => e = .returned (.int .i64 (doE v.d.now ⟨2, x, ⟨#[]⟩, 0⟩)) ∧ RXT w T base q (v.tick.name ⟨2, x, ⟨#[]⟩, 0⟩) w') by
      refine (rdo_any dq base N SD v.tick.d nv sv ov ⟨2, x, ⟨#[]⟩, 0⟩ w1 h1.rv.dir hgt.d (by omega) ⟨hx, (by show (0 : Nat) ≤ _; omega), (by show (Lit.int .i64 0).wf = true; decide), .inr (.inr rfl)⟩).mono ?_
      rintro e w' ⟨rfl, hc⟩
      obtain ⟨nv', sv', ov', h2⟩ := h1.turnDir hc
      exact ⟨by rw [tick_d], h2.x⟩))
    clear hv C hg hgt hs hx
    go_enter Tryz.func39, Tryz.ntmps39
    go_wp2_with (first
      | (go_at_call 71; refine CH.out.mono ?_; rintro e w1 ⟨rfl, hx⟩; have HX := Lib.hid hx; obtain ⟨c0, -, -, -, -, -, -, -, -, -⟩ := hx.rv.cells; clear hx)
      | (go_at_call 72; go_loud (refine (DO.out _ HX.out).mono ?_; rintro e w2 ⟨rfl, hy⟩; have HY := Lib.hid hy; clear hy)))
    go_ret
    exact ⟨rfl, HY.out⟩

set_option maxHeartbeats 2000000 in
theorem rvsyncdir_any (x : ByteArray) (h : RX w base T q v) (hg : GoodV v os N) (hN : N ≤ 1000) :
    Calls Tryz.prog 37 #[.pointer (some ⟨q, 0, none⟩), .string x, .bool true] w fun e w' => e = .returned (.int .i64 (orStop v (0))) ∧ RXT w T base q (orTick v (v.tick.syncDir)) w' := by
  obtain ⟨dq, fv, nv, sv, ov, SD, SF, qs, Ss, hv⟩ := h
  have C := rvchange_any (RVT.start hv) hg.f0 hg.f1
  have hgt := hg.tick
  cases hs : v.stops with
  | true =>
    rw [orStop_yes hs, orTick_yes hs]
    rw [hs] at C
    have CH := Lib.hid C
    clear hv C hg hgt hs
    go_enter Tryz.func37, Tryz.ntmps37
    go_wp2_with (go_at_call 71; refine CH.out.mono ?_; rintro e w1 ⟨rfl, hx⟩; have HX := Lib.hid hx; obtain ⟨c0, -, -, -, -, -, -, -, -, -⟩ := hx.rv.cells; clear hx)
    go_ret
    exact ⟨rfl, HX.out.x⟩
  | false =>
    rw [orStop_no hs, orTick_no hs]
    rw [hs] at C
    have CH := Lib.hid C
    have DS := Lib.hid (fun (w1 : World) (h1 : RVT w T w1 base q v.tick dq fv nv sv ov SD SF qs Ss) => (show Calls Tryz.prog 76 #[.pointer (some ⟨dq, 0, none⟩)] w1 (fun e w' => e = .returned (.tuple #[]) ∧ RXT w T base q v.tick.syncDir w') by
      refine (rdsync_any dq base SD v.tick.d nv sv ov w1 h1.rv.dir).mono ?_
      rintro e w' ⟨rfl, hc⟩
      obtain ⟨nv', sv', ov', h2⟩ := h1.turnDir hc
      exact ⟨rfl, h2.x⟩))
    clear hv C hg hgt hs
    go_enter Tryz.func37, Tryz.ntmps37
    go_wp2_with (first
      | (go_at_call 71; refine CH.out.mono ?_; rintro e w1 ⟨rfl, hx⟩; have HX := Lib.hid hx; obtain ⟨c0, -, -, -, -, -, -, -, -, -⟩ := hx.rv.cells; clear hx)
      | (go_at_call 76; go_loud (refine (DS.out _ HX.out).mono ?_; rintro e w2 ⟨rfl, hy⟩; have HY := Lib.hid hy; clear hy)))
    go_ret
    exact ⟨rfl, HY.out⟩

set_option maxHeartbeats 2000000 in
theorem rvsync_any (x : ByteArray) (h : RX w base T q v) (hg : GoodV v os N) (hN : N ≤ 1000) :
    Calls Tryz.prog 37 #[.pointer (some ⟨q, 0, none⟩), .string x, .bool false] w fun e w' => e = .returned (.int .i64 (orStop v (v.syncE x))) ∧ RXT w T base q (orTick v (v.tick.sync x)) w' := by
  obtain ⟨dq, fv, nv, sv, ov, SD, SF, qs, Ss, hv⟩ := h
  have C := rvchange_any (RVT.start hv) hg.f0 hg.f1
  have hgt := hg.tick
  cases hs : v.stops with
  | true =>
    rw [orStop_yes hs, orTick_yes hs]
    rw [hs] at C
    have CH := Lib.hid C
    clear hv C hg hgt hs
    go_enter Tryz.func37, Tryz.ntmps37
    go_wp2_with (go_at_call 71; refine CH.out.mono ?_; rintro e w1 ⟨rfl, hx⟩; have HX := Lib.hid hx; obtain ⟨c0, -, -, -, -, -, -, -, -, -⟩ := hx.rv.cells; clear hx)
    go_ret
    exact ⟨rfl, HX.out.x⟩
  | false =>
    rw [orStop_no hs, orTick_no hs]
    rw [hs] at C
    have CH := Lib.hid C
    have hgx2e : getN v.tick.d.now x = getN v.d.now x := by rw [tick_d]
    cases hgx : getN v.d.now x with
    | none =>
      rw [hgx] at hgx2e
      have hgx2 := hgx2e
      have GN := Lib.hid (fun (w1 : World) (h1 : RVT w T w1 base q v.tick dq fv nv sv ov SD SF qs Ss) => rvget_none x h1 hgx2)
      have hE : v.tick.syncE x = 6 := by unfold VS.syncE hasB; rw [hgx2]; rfl
      rw [← syncE_tick, hE, show v.tick.sync x = v.tick by unfold VS.sync; rw [hgx2]]
      have qE := eqlF
      clear hv C hg hgt hs hgx hgx2 hgx2e hE
      go_enter Tryz.func37, Tryz.ntmps37
      go_wp2_with (first
        | (go_at_call 71; refine CH.out.mono ?_; rintro e w1 ⟨rfl, hx⟩; have HX := Lib.hid hx; obtain ⟨c0, -, -, -, -, -, -, -, -, -⟩ := hx.rv.cells; clear hx)
        | (go_at_call 24; go_loud (refine (GN.out _ HX.out).mono ?_; rintro e w9 ⟨rfl, rfl⟩)))
      go_ret
      exact ⟨rfl, HX.out.x⟩
    | some i =>
      rw [hgx] at hgx2e
      have hgx2 := hgx2e
      obtain ⟨k, f, rfl, -, hvf, hfa, hfg⟩ := hgt.at_ hgx2
      have hfew := hfg.few
      obtain ⟨r, S, -, -, -, -, hr, hS, -, -⟩ := (RVT.start hv).rv.file (by rw [tick_fs] at hvf; exact hvf)
      have GN := Lib.hid (fun (w1 : World) (h1 : RVT w T w1 base q v.tick dq fv nv sv ov SD SF qs Ss) => rvget_yes x k r f h1 hgx2 hvf hr)
      have qE := eqlF
      rw [← syncE_tick]
      rw [show v.tick.syncE x = 0 by unfold VS.syncE hasB; rw [hgx2]; rfl, show v.tick.sync x = v.tick.put (k : Int) f.sync by unfold VS.sync; rw [hgx2]; simp only; rw [hfa]]
      have FW := Lib.hid (fun (w1 : World) (h1 : RVT w T w1 base q v.tick dq fv nv sv ov SD SF qs Ss) => (show Calls Tryz.prog 77 #[.pointer (some ⟨r, 0, none⟩)] w1 (fun e w' => e = .returned (.tuple #[]) ∧ RXT w T base q (v.tick.put (k : Int) f.sync) w') by
        obtain ⟨r', S', a, b, d, xs, hr', hS', hrf, -⟩ := h1.rv.file hvf
        rw [hr] at hr'
        injection hr' with hr'
        subst hr'
        refine (rsync_any r base S' f a b d xs w1 hrf hfg.ok.size).mono ?_
        rintro e w' ⟨rfl, hc⟩
        exact ⟨rfl, (h1.turnFile hr hS' hc).x⟩))
      clear hv C hg hgt hs hgx hgx2 hgx2e hvf hfa hfg hr hS hfew
      go_enter Tryz.func37, Tryz.ntmps37
      go_wp2_with (first
        | (go_at_call 71; refine CH.out.mono ?_; rintro e w1 ⟨rfl, hx⟩; have HX := Lib.hid hx; obtain ⟨c0, -, -, -, -, -, -, -, -, -⟩ := hx.rv.cells; clear hx)
        | (go_at_call 24; go_loud (refine (GN.out _ HX.out).mono ?_; rintro e w9 ⟨rfl, rfl⟩))
        | (go_at_call 77; go_loud (refine (FW.out _ HX.out).mono ?_; rintro e w2 ⟨rfl, hy⟩; have HY := Lib.hid hy; clear hy)))
      go_ret
      exact ⟨rfl, HY.out⟩

set_option maxHeartbeats 2000000 in
theorem rvtrunc_any (x : ByteArray) (n : Int) (h : RX w base T q v) (hg : GoodV v os N) (hN : N ≤ 1000) (h0 : -9223372036854775808 ≤ n) (h1 : n ≤ 9223372036854775807) :
    Calls Tryz.prog 36 #[.pointer (some ⟨q, 0, none⟩), .string x, .int .i64 n] w fun e w' => e = .returned (.int .i64 (orStop v (v.truncE x n))) ∧ RXT w T base q (orTick v (v.tick.trunc x n)) w' := by
  obtain ⟨dq, fv, nv, sv, ov, SD, SF, qs, Ss, hv⟩ := h
  have C := rvchange_any (RVT.start hv) hg.f0 hg.f1
  have hgt := hg.tick
  cases hs : v.stops with
  | true =>
    rw [orStop_yes hs, orTick_yes hs]
    rw [hs] at C
    have CH := Lib.hid C
    clear hv C hg hgt hs
    go_enter Tryz.func36, Tryz.ntmps36
    go_wp2_with (go_at_call 71; refine CH.out.mono ?_; rintro e w1 ⟨rfl, hx⟩; have HX := Lib.hid hx; obtain ⟨c0, -, -, -, -, -, -, -, -, -⟩ := hx.rv.cells; clear hx)
    go_ret
    exact ⟨rfl, HX.out.x⟩
  | false =>
    rw [orStop_no hs, orTick_no hs]
    rw [hs] at C
    have CH := Lib.hid C
    have hgx2e : getN v.tick.d.now x = getN v.d.now x := by rw [tick_d]
    cases hgx : getN v.d.now x with
    | none =>
      rw [hgx] at hgx2e
      have hgx2 := hgx2e
      have GN := Lib.hid (fun (w1 : World) (h1 : RVT w T w1 base q v.tick dq fv nv sv ov SD SF qs Ss) => rvget_none x h1 hgx2)
      have hE : v.tick.truncE x n = 6 := by unfold VS.truncE; rw [hgx2]
      rw [← truncE_tick, hE, show v.tick.trunc x n = v.tick by unfold VS.trunc; rw [if_neg (by rw [hE]; omega)]]
      have qE := eqlF
      clear hv C hg hgt hs hgx hgx2 hgx2e hE
      go_enter Tryz.func36, Tryz.ntmps36
      go_wp2_with (first
        | (go_at_call 71; refine CH.out.mono ?_; rintro e w1 ⟨rfl, hx⟩; have HX := Lib.hid hx; obtain ⟨c0, -, -, -, -, -, -, -, -, -⟩ := hx.rv.cells; clear hx)
        | (go_at_call 24; go_loud (refine (GN.out _ HX.out).mono ?_; rintro e w9 ⟨rfl, rfl⟩)))
      go_ret
      exact ⟨rfl, HX.out.x⟩
    | some i =>
      rw [hgx] at hgx2e
      have hgx2 := hgx2e
      obtain ⟨k, f, rfl, -, hvf, hfa, hfg⟩ := hgt.at_ hgx2
      have hfew := hfg.few
      obtain ⟨r, S, -, -, -, -, hr, hS, -, -⟩ := (RVT.start hv).rv.file (by rw [tick_fs] at hvf; exact hvf)
      have GN := Lib.hid (fun (w1 : World) (h1 : RVT w T w1 base q v.tick dq fv nv sv ov SD SF qs Ss) => rvget_yes x k r f h1 hgx2 hvf hr)
      have qE := eqlF
      rw [← truncE_tick]
      by_cases g0 : n < 0
      · obtain ⟨e1, e2⟩ := trunc_through (n := n) hgx2 hvf (fun hh => absurd hh (by omega))
        rw [e1, e2, show truncE n = 1 by unfold truncE; rw [if_pos (.inl g0)], show f.truncI n = f by unfold FS.truncI; rw [if_pos (.inl g0)], put_same hvf]
        clear hv C hg hgt hs hgx hgx2 hgx2e hvf hfa hfg hr hS hfew e1 e2
        go_enter Tryz.func36, Tryz.ntmps36
        go_wp2_with (first
          | (go_at_call 71; refine CH.out.mono ?_; rintro e w1 ⟨rfl, hx⟩; have HX := Lib.hid hx; obtain ⟨c0, -, -, -, -, -, -, -, -, -⟩ := hx.rv.cells; clear hx)
          | (go_at_call 24; go_loud (refine (GN.out _ HX.out).mono ?_; rintro e w9 ⟨rfl, rfl⟩)))
        go_ret
        exact ⟨rfl, HX.out.x⟩
      · by_cases g1 : 1048576 < n
        · obtain ⟨e1, e2⟩ := trunc_through (n := n) hgx2 hvf (fun _ hh => absurd hh (by omega))
          rw [e1, e2, show truncE n = 1 by unfold truncE; rw [if_pos (.inr g1)], show f.truncI n = f by unfold FS.truncI; rw [if_pos (.inr g1)], put_same hvf]
          clear hv C hg hgt hs hgx hgx2 hgx2e hvf hfa hfg hr hS hfew e1 e2
          go_enter Tryz.func36, Tryz.ntmps36
          go_wp2_with (first
            | (go_at_call 71; refine CH.out.mono ?_; rintro e w1 ⟨rfl, hx⟩; have HX := Lib.hid hx; obtain ⟨c0, -, -, -, -, -, -, -, -, -⟩ := hx.rv.cells; clear hx)
            | (go_at_call 24; go_loud (refine (GN.out _ HX.out).mono ?_; rintro e w9 ⟨rfl, rfl⟩)))
          go_ret
          exact ⟨rfl, HX.out.x⟩
        · obtain ⟨m, rfl⟩ : ∃ m : Nat, n = m := ⟨n.toNat, by omega⟩
          have RM0 := (fun (w1 : World) (h1' : RVT w T w1 base q v.tick dq fv nv sv ov SD SF qs Ss) => rvroom_any m h1' hgt hN hgx2 hvf hr (by omega))
          have FW := Lib.hid (fun (w1 : World) (h1' : RVT w T w1 base q v.tick dq fv nv sv ov SD SF qs Ss) => (show Calls Tryz.prog 75 #[.pointer (some ⟨r, 0, none⟩), .int .i64 (m : Int)] w1 (fun e w' => e = .returned (.int .i64 (truncE m)) ∧ RXT w T base q (v.tick.put (k : Int) (f.truncI m)) w') by
            obtain ⟨r', S', a, b, d, xs, hr', hS', hrf, -⟩ := h1'.rv.file hvf
            rw [hr] at hr'
            injection hr' with hr'
            subst hr'
            refine (rtrunc_any r m base S' f a b d xs w1 hrf h0 h1 hfg.ok.size (by omega)).mono ?_
            rintro e w' ⟨rfl, hc⟩
            exact ⟨rfl, (h1'.turnFile hr hS' hc).x⟩))
          cases hfit : v.tick.fits f m with
          | true =>
            obtain ⟨e1, e2⟩ := trunc_through (n := (m : Int)) hgx2 hvf (fun _ _ => hfit)
            rw [e1, e2]
            rw [hfit] at RM0
            have RM := Lib.hid RM0
            clear hv C hg hgt hs hgx hgx2 hgx2e hvf hfa hfg hr hS hfew e1 e2 RM0 hfit
            go_enter Tryz.func36, Tryz.ntmps36
            go_wp2_with (first
              | (go_at_call 71; refine CH.out.mono ?_; rintro e w1 ⟨rfl, hx⟩; have HX := Lib.hid hx; obtain ⟨c0, -, -, -, -, -, -, -, -, -⟩ := hx.rv.cells; clear hx)
              | (go_at_call 24; go_loud (refine (GN.out _ HX.out).mono ?_; rintro e w9 ⟨rfl, rfl⟩))
              | (go_at_call 73; go_loud (refine (RM.out _ HX.out).mono ?_; rintro e w2 ⟨rfl, hb⟩; have HY := Lib.hid (HX.out.below hb); clear hb))
              | (go_at_call 75; go_loud (refine (FW.out _ HY.out).mono ?_; rintro e w3 ⟨rfl, hz⟩; have HZ := Lib.hid hz; clear hz)))
            go_ret
            exact ⟨rfl, HZ.out⟩
          | false =>
            obtain ⟨e1, e2⟩ := trunc_full (n := (m : Int)) hgx2 hvf (by omega) (by omega) hfit
            rw [e1, e2]
            rw [hfit] at RM0
            have RM := Lib.hid RM0
            clear hv C hg hgt hs hgx hgx2 hgx2e hvf hfa hfg hr hS hfew e1 e2 RM0 hfit FW
            go_enter Tryz.func36, Tryz.ntmps36
            go_wp2_with (first
              | (go_at_call 71; refine CH.out.mono ?_; rintro e w1 ⟨rfl, hx⟩; have HX := Lib.hid hx; obtain ⟨c0, -, -, -, -, -, -, -, -, -⟩ := hx.rv.cells; clear hx)
              | (go_at_call 24; go_loud (refine (GN.out _ HX.out).mono ?_; rintro e w9 ⟨rfl, rfl⟩))
              | (go_at_call 73; go_loud (refine (RM.out _ HX.out).mono ?_; rintro e w2 ⟨rfl, hb⟩; have HY := Lib.hid (HX.out.below hb); clear hb)))
            go_ret
            exact ⟨rfl, HY.out.x⟩

set_option maxHeartbeats 2000000 in
theorem rvwrite_any (x : ByteArray) (a : Int) (A : Option Addr) (m c : Nat) (l : List Int) (h : RX w base T q v) (hg : GoodV v os N) (hN : N ≤ 1000) (h0 : -9223372036854775808 ≤ a) (h1 : a ≤ 9223372036854775807) (hrd : Reads w base 1 A m (cellsOf .u8 l)) (hmc : m ≤ c) (hc : c ≤ 9223372036854775807) (hm : m ≤ 300) :
    Calls Tryz.prog 35 #[.pointer (some ⟨q, 0, none⟩), .string x, .int .i64 a, .slice A m c] w fun e w' => e = .returned (.int .i64 (orStop v (v.writeE x a l))) ∧ RXT w T base q (orTick v (v.tick.write x a l)) w' := by
  obtain ⟨dq, fv, nv, sv, ov, SD, SF, qs, Ss, hv⟩ := h
  have C := rvchange_any (RVT.start hv) hg.f0 hg.f1
  have hgt := hg.tick
  cases hs : v.stops with
  | true =>
    rw [orStop_yes hs, orTick_yes hs]
    rw [hs] at C
    have CH := Lib.hid C
    clear hv C hg hgt hs
    go_enter Tryz.func35, Tryz.ntmps35
    go_wp2_with (go_at_call 71; refine CH.out.mono ?_; rintro e w1 ⟨rfl, hx⟩; have HX := Lib.hid hx; obtain ⟨c0, -, -, -, -, -, -, -, -, -⟩ := hx.rv.cells; clear hx)
    go_ret
    exact ⟨rfl, HX.out.x⟩
  | false =>
    rw [orStop_no hs, orTick_no hs]
    rw [hs] at C
    have CH := Lib.hid C
    have hgx2e : getN v.tick.d.now x = getN v.d.now x := by rw [tick_d]
    cases hgx : getN v.d.now x with
    | none =>
      rw [hgx] at hgx2e
      have hgx2 := hgx2e
      have GN := Lib.hid (fun (w1 : World) (h1 : RVT w T w1 base q v.tick dq fv nv sv ov SD SF qs Ss) => rvget_none x h1 hgx2)
      have hE : v.tick.writeE x a l = 6 := by unfold VS.writeE; rw [hgx2]
      rw [← writeE_tick, hE, show v.tick.write x a l = v.tick by unfold VS.write; rw [if_neg (by rw [hE]; omega)]]
      have qE := eqlF
      clear hv C hg hgt hs hgx hgx2 hgx2e hE
      go_enter Tryz.func35, Tryz.ntmps35
      go_wp2_with (first
        | (go_at_call 71; refine CH.out.mono ?_; rintro e w1 ⟨rfl, hx⟩; have HX := Lib.hid hx; obtain ⟨c0, -, -, -, -, -, -, -, -, -⟩ := hx.rv.cells; clear hx)
        | (go_at_call 24; go_loud (refine (GN.out _ HX.out).mono ?_; rintro e w9 ⟨rfl, rfl⟩)))
      go_ret
      exact ⟨rfl, HX.out.x⟩
    | some i =>
      rw [hgx] at hgx2e
      have hgx2 := hgx2e
      obtain ⟨k, f, rfl, -, hvf, hfa, hfg⟩ := hgt.at_ hgx2
      have hfew := hfg.few
      obtain ⟨r, S, -, -, -, -, hr, hS, -, -⟩ := (RVT.start hv).rv.file (by rw [tick_fs] at hvf; exact hvf)
      have GN := Lib.hid (fun (w1 : World) (h1 : RVT w T w1 base q v.tick dq fv nv sv ov SD SF qs Ss) => rvget_yes x k r f h1 hgx2 hvf hr)
      have qE := eqlF
      rw [← writeE_tick]
      have hml : m = l.length := by have := hrd.1; rw [cellsOf_length] at this; omega
      have FW := Lib.hid (fun (w1 : World) (h1' : RVT w T w1 base q v.tick dq fv nv sv ov SD SF qs Ss) => (show Calls Tryz.prog 74 #[.pointer (some ⟨r, 0, none⟩), .int .i64 a, .slice A m c] w1 (fun e w' => e = .returned (.int .i64 (writeE a m)) ∧ RXT w T base q (v.tick.put (k : Int) (f.writeI a l)) w') by
        obtain ⟨r', S', a', b, d, xs, hr', hS', hrf, -⟩ := h1'.rv.file hvf
        rw [hr] at hr'
        injection hr' with hr'
        subst hr'
        refine (rvfwrite_any r a A m c l base base S' f a' b d xs w1 hrf (hrd.below h1'.bel) (Nat.le_refl _) hmc hc h0 h1 (by omega) hfg.ok.size (by omega)).mono ?_
        rintro e w' ⟨rfl, hcc⟩
        exact ⟨rfl, (h1'.turnFile hr hS' hcc).x⟩))
      obtain ⟨M0, hM⟩ : ∃ M0, M0 = f.now.length := ⟨_, rfl⟩
      have hM9 : M0 ≤ 1048576 := by rw [hM]; exact hfg.ok.size
      have HL := Lib.hid (fun (w1 : World) (h1' : RVT w T w1 base q v.tick dq fv nv sv ov SD SF qs Ss) => (show ∃ Ar cr, w1.cell? ⟨r, 0, none⟩ = some (.slice Ar M0 cr) from by
        obtain ⟨r', S', a', b, d, xs, hr', hS', hrf, -⟩ := h1'.rv.file hvf
        rw [hr] at hr'
        injection hr' with hr'
        subst hr'
        obtain ⟨Ar, cr, hav, -, -⟩ := own_form hrf.now
        subst hav
        exact ⟨Ar, cr, by rw [hM]; exact hrf.blk.cell 0⟩))
      by_cases g0 : a < 0
      · obtain ⟨e1, e2⟩ := write_through (a := a) (bs := l) hgx2 hvf (fun g1 g2 _ => absurd g2 (by omega))
        rw [e1, e2, ← hml, show writeE a m = 1 by unfold writeE; rw [if_pos (by omega)], show f.writeI a l = f by unfold FS.writeI; rw [if_pos (by omega)], put_same hvf]
        clear hv C hg hgt hs hgx hgx2 hgx2e hvf hfa hfg hr hS hfew hrd hml e1 e2 FW
        go_enter Tryz.func35, Tryz.ntmps35
        go_wp2_with (first
          | (go_at_call 71; refine CH.out.mono ?_; rintro e w1 ⟨rfl, hx⟩; have HX := Lib.hid hx; obtain ⟨c0, -, -, -, -, -, -, -, -, -⟩ := hx.rv.cells; clear hx)
          | (go_at_call 24; go_loud (refine (GN.out _ HX.out).mono ?_; rintro e w9 ⟨rfl, rfl⟩; obtain ⟨Ar, cr, r0⟩ := HL.out _ HX.out)))
        go_ret
        exact ⟨rfl, HX.out.x⟩
      · by_cases g1 : 1048576 < a
        · obtain ⟨e1, e2⟩ := write_through (a := a) (bs := l) hgx2 hvf (fun g1 g2 _ => absurd g2 (by omega))
          rw [e1, e2, ← hml, show writeE a m = 1 by unfold writeE; rw [if_pos (by omega)], show f.writeI a l = f by unfold FS.writeI; rw [if_pos (by omega)], put_same hvf]
          clear hv C hg hgt hs hgx hgx2 hgx2e hvf hfa hfg hr hS hfew hrd hml e1 e2 FW
          go_enter Tryz.func35, Tryz.ntmps35
          go_wp2_with (first
            | (go_at_call 71; refine CH.out.mono ?_; rintro e w1 ⟨rfl, hx⟩; have HX := Lib.hid hx; obtain ⟨c0, -, -, -, -, -, -, -, -, -⟩ := hx.rv.cells; clear hx)
            | (go_at_call 24; go_loud (refine (GN.out _ HX.out).mono ?_; rintro e w9 ⟨rfl, rfl⟩; obtain ⟨Ar, cr, r0⟩ := HL.out _ HX.out)))
          go_ret
          exact ⟨rfl, HX.out.x⟩
        · have n1 : IntKind.i64.wrap (1048576 - a) = 1048576 - a := by rw [IntKind.wrap_i64]; omega
          by_cases g2 : 1048576 - a < (m : Int)
          · obtain ⟨e1, e2⟩ := write_through (a := a) (bs := l) hgx2 hvf (fun g1 g2 _ => absurd g2 (by omega))
            rw [e1, e2, ← hml, show writeE a m = 1 by unfold writeE; rw [if_pos (by omega)], show f.writeI a l = f by unfold FS.writeI; rw [if_pos (by omega)], put_same hvf]
            clear hv C hg hgt hs hgx hgx2 hgx2e hvf hfa hfg hr hS hfew hrd hml e1 e2 FW
            go_enter Tryz.func35, Tryz.ntmps35
            go_wp2_with (first
              | (go_at_call 71; refine CH.out.mono ?_; rintro e w1 ⟨rfl, hx⟩; have HX := Lib.hid hx; obtain ⟨c0, -, -, -, -, -, -, -, -, -⟩ := hx.rv.cells; clear hx)
              | (go_at_call 24; go_loud (refine (GN.out _ HX.out).mono ?_; rintro e w9 ⟨rfl, rfl⟩; obtain ⟨Ar, cr, r0⟩ := HL.out _ HX.out)))
            go_ret
            exact ⟨rfl, HX.out.x⟩
          · obtain ⟨z, rfl⟩ : ∃ z : Nat, a = z := ⟨a.toNat, by omega⟩
            have n2 : IntKind.i64.wrap ((z : Int) + (m : Int)) = (z : Int) + (m : Int) := by rw [IntKind.wrap_i64]; omega
            by_cases g3 : (M0 : Int) < (z : Int) + (m : Int)
            · by_cases g4 : 0 < m
              · have q4 : 0 < (m : Int) := by omega
                have RM0 := (fun (w1 : World) (h1' : RVT w T w1 base q v.tick dq fv nv sv ov SD SF qs Ss) => rvroom_any (z + m) h1' hgt hN hgx2 hvf hr (by omega))
                rw [show ((z + m : Nat) : Int) = (z : Int) + (m : Int) by omega] at RM0
                cases hfit : v.tick.fits f (z + m) with
                | true =>
                  rw [hfit] at RM0
                  have RM := Lib.hid RM0
                  clear RM0
                  obtain ⟨e1, e2⟩ := write_through (a := (z : Int)) (bs := l) hgx2 hvf (fun _ _ hh => by rw [Int.toNat_natCast, ← hml]; exact hfit)
                  rw [e1, e2, ← hml]
                  clear hv C hg hgt hs hgx hgx2 hgx2e hvf hfa hfg hr hS hfew hrd hml e1 e2 hM hfit
                  go_enter Tryz.func35, Tryz.ntmps35
                  go_wp2_with (first
                    | (go_at_call 71; refine CH.out.mono ?_; rintro e w1 ⟨rfl, hx⟩; have HX := Lib.hid hx; obtain ⟨c0, -, -, -, -, -, -, -, -, -⟩ := hx.rv.cells; clear hx)
                    | (go_at_call 24; go_loud (refine (GN.out _ HX.out).mono ?_; rintro e w9 ⟨rfl, rfl⟩; obtain ⟨Ar, cr, r0⟩ := HL.out _ HX.out))
                    | (go_at_call 73; go_loud (refine (RM.out _ HX.out).mono ?_; rintro e w2 ⟨rfl, hb⟩; have HY := Lib.hid (HX.out.below hb); clear hb))
                    | (go_at_call 74; go_loud (refine (FW.out _ HY.out).mono ?_; rintro e w3 ⟨rfl, hz⟩; have HZ := Lib.hid hz; clear hz)))
                  go_ret
                  exact ⟨rfl, HZ.out⟩
                | false =>
                  obtain ⟨e1, e2⟩ := write_full (a := (z : Int)) (bs := l) hgx2 hvf (by omega) (by omega) (by omega) (by rw [Int.toNat_natCast, ← hml]; exact hfit)
                  rw [e1, e2]
                  rw [hfit] at RM0
                  have RM := Lib.hid RM0
                  clear hv C hg hgt hs hgx hgx2 hgx2e hvf hfa hfg hr hS hfew hrd hml e1 e2 RM0 hfit FW hM
                  go_enter Tryz.func35, Tryz.ntmps35
                  go_wp2_with (first
                    | (go_at_call 71; refine CH.out.mono ?_; rintro e w1 ⟨rfl, hx⟩; have HX := Lib.hid hx; obtain ⟨c0, -, -, -, -, -, -, -, -, -⟩ := hx.rv.cells; clear hx)
                    | (go_at_call 24; go_loud (refine (GN.out _ HX.out).mono ?_; rintro e w9 ⟨rfl, rfl⟩; obtain ⟨Ar, cr, r0⟩ := HL.out _ HX.out))
                    | (go_at_call 73; go_loud (refine (RM.out _ HX.out).mono ?_; rintro e w2 ⟨rfl, hb⟩; have HY := Lib.hid (HX.out.below hb); clear hb)))
                  go_ret
                  exact ⟨rfl, HY.out.x⟩
              · have q4 : ¬ 0 < (m : Int) := by omega
                obtain ⟨e1, e2⟩ := write_through (a := (z : Int)) (bs := l) hgx2 hvf (fun _ _ hh => absurd hh (by omega))
                rw [e1, e2, ← hml]
                clear hv C hg hgt hs hgx hgx2 hgx2e hvf hfa hfg hr hS hfew hrd hml e1 e2 hM
                go_enter Tryz.func35, Tryz.ntmps35
                go_wp2_with (first
                  | (go_at_call 71; refine CH.out.mono ?_; rintro e w1 ⟨rfl, hx⟩; have HX := Lib.hid hx; obtain ⟨c0, -, -, -, -, -, -, -, -, -⟩ := hx.rv.cells; clear hx)
                  | (go_at_call 24; go_loud (refine (GN.out _ HX.out).mono ?_; rintro e w9 ⟨rfl, rfl⟩; obtain ⟨Ar, cr, r0⟩ := HL.out _ HX.out))
                  | (go_at_call 74; go_loud (refine (FW.out _ HX.out).mono ?_; rintro e w3 ⟨rfl, hz⟩; have HZ := Lib.hid hz; clear hz)))
                go_ret
                exact ⟨rfl, HZ.out⟩
            · by_cases g4 : 0 < m
              · have q4 : 0 < (m : Int) := by omega
                have RM0 := (fun (w1 : World) (h1' : RVT w T w1 base q v.tick dq fv nv sv ov SD SF qs Ss) => rvroom_any M0 h1' hgt hN hgx2 hvf hr (by omega))
                rw [fits_yes (v := v.tick) (f := f) (size := M0) (by rw [hM]; exact Nat.le_refl _)] at RM0
                have RM := Lib.hid RM0
                have hfit : v.tick.fits f (z + m) = true := fits_yes (by rw [← hM]; unfold cntN; omega)
                clear RM0
                obtain ⟨e1, e2⟩ := write_through (a := (z : Int)) (bs := l) hgx2 hvf (fun _ _ hh => by rw [Int.toNat_natCast, ← hml]; exact hfit)
                rw [e1, e2, ← hml]
                clear hv C hg hgt hs hgx hgx2 hgx2e hvf hfa hfg hr hS hfew hrd hml e1 e2 hM hfit
                go_enter Tryz.func35, Tryz.ntmps35
                go_wp2_with (first
                  | (go_at_call 71; refine CH.out.mono ?_; rintro e w1 ⟨rfl, hx⟩; have HX := Lib.hid hx; obtain ⟨c0, -, -, -, -, -, -, -, -, -⟩ := hx.rv.cells; clear hx)
                  | (go_at_call 24; go_loud (refine (GN.out _ HX.out).mono ?_; rintro e w9 ⟨rfl, rfl⟩; obtain ⟨Ar, cr, r0⟩ := HL.out _ HX.out))
                  | (go_at_call 73; go_loud (refine (RM.out _ HX.out).mono ?_; rintro e w2 ⟨rfl, hb⟩; have HY := Lib.hid (HX.out.below hb); clear hb))
                  | (go_at_call 74; go_loud (refine (FW.out _ HY.out).mono ?_; rintro e w3 ⟨rfl, hz⟩; have HZ := Lib.hid hz; clear hz)))
                go_ret
                exact ⟨rfl, HZ.out⟩
              · have q4 : ¬ 0 < (m : Int) := by omega
                obtain ⟨e1, e2⟩ := write_through (a := (z : Int)) (bs := l) hgx2 hvf (fun _ _ hh => absurd hh (by omega))
                rw [e1, e2, ← hml]
                clear hv C hg hgt hs hgx hgx2 hgx2e hvf hfa hfg hr hS hfew hrd hml e1 e2 hM
                go_enter Tryz.func35, Tryz.ntmps35
                go_wp2_with (first
                  | (go_at_call 71; refine CH.out.mono ?_; rintro e w1 ⟨rfl, hx⟩; have HX := Lib.hid hx; obtain ⟨c0, -, -, -, -, -, -, -, -, -⟩ := hx.rv.cells; clear hx)
                  | (go_at_call 24; go_loud (refine (GN.out _ HX.out).mono ?_; rintro e w9 ⟨rfl, rfl⟩; obtain ⟨Ar, cr, r0⟩ := HL.out _ HX.out))
                  | (go_at_call 74; go_loud (refine (FW.out _ HX.out).mono ?_; rintro e w3 ⟨rfl, hz⟩; have HZ := Lib.hid hz; clear hz)))
                go_ret
                exact ⟨rfl, HZ.out⟩
end

end Go.Proofs.YtclglbddibjenaaGreat
