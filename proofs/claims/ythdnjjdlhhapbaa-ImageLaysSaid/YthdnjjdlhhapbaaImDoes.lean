/-
  LAYER 12: WHAT does DOES: an act, done to both images. (gendoes12.py wrote it.)
-/
import Derived.Test.YthdnjjdlhhapbaaImAct
import Derived.Deep.RegionHeld3
set_option linter.unusedVariables false
set_option maxRecDepth 100000
set_option linter.unusedSimpArgs false
namespace Go.Proofs.Ythdnjjdlhhapbaa
open Go.RowKit

/-- Both images behind an act. -/
def IDid (base : Nat) (T : Nat → Prop) (p q : Nat) (i k d f h : Int) (m : IM) (w : World) (e : Ending) (w' : World) : Prop := e = .returned (.bool true) ∧ ITurn base T p q i k d f h m m w w'

/-- The cells of an act that a call has boxed. -/
theorem actBox (w : World) (kind at_ n ok : Int) (A1 : Option Addr) (n1 c1 : Nat) (A2 : Option Addr) (n2 c2 : Nat) (A3 : Option Addr) (n3 c3 : Nat) {w' : World} {T : Nat → Prop} (hc : Chg T (w.alloc (.cells #[.int .i64 kind, .int .i64 at_, .int .u64 n, .int .i64 ok, .slice A1 n1 c1, .slice A2 n2 c2, .slice A3 n3 c3] 43)) w') (hT : ¬ T w.heap.size) :
    w'.cell? ⟨w.heap.size, 0, none⟩ = some (.int .i64 kind) ∧ w'.cell? ⟨w.heap.size, 1, none⟩ = some (.int .i64 at_) ∧ w'.cell? ⟨w.heap.size, 2, none⟩ = some (.int .u64 n) ∧ w'.cell? ⟨w.heap.size, 3, none⟩ = some (.int .i64 ok) ∧ w'.cell? ⟨w.heap.size, 4, none⟩ = some (.slice A1 n1 c1) ∧ w'.cell? ⟨w.heap.size, 5, none⟩ = some (.slice A2 n2 c2) ∧ w'.cell? ⟨w.heap.size, 6, none⟩ = some (.slice A3 n3 c3) := by
  have hb := (Blk.new w 43 #[.int .i64 kind, .int .i64 at_, .int .u64 n, .int .i64 ok, .slice A1 n1 c1, .slice A2 n2 c2, .slice A3 n3 c3]).chg hc hT
  exact ⟨hb.cell 0, hb.cell 1, hb.cell 2, hb.cell 3, hb.cell 4, hb.cell 5, hb.cell 6⟩

section
variable {base p q N : Nat} {T : Nat → Prop} {i k d f h : Int} {m : IM}

set_option maxHeartbeats 1000000 in
theorem does_set (at_ n ok : Int) (A1 : Option Addr) (n1 c1 : Nat) (ws : List Int) (A2 : Option Addr) (n2 c2 : Nat) (rs : List Int) (A3 : Option Addr) (n3 c3 : Nat) (is : List Int) (w : World) (H : ITwo w base T p q i k d f h m m) (hg : m.Ok N) (hN : N ≤ 900000) (ha : ActAt w base ⟨0, at_, n, ok, A1, n1, c1, ws, A2, n2, c2, rs, A3, n3, c3, is⟩) :
    Calls Try.prog 12 #[.pointer (some ⟨p, 0, none⟩), .pointer (some ⟨q, 0, none⟩), .agg #[.int .i64 0, .int .i64 at_, .int .u64 n, .int .i64 ok, .slice A1 n1 c1, .slice A2 n2 c2, .slice A3 n3 c3]] w (IDid base T p q i k d f h (m.set at_ n) w) := by
  obtain ⟨wb, hwb⟩ : ∃ wb, wb = w.alloc (.cells #[.int .i64 0, .int .i64 at_, .int .u64 n, .int .i64 ok, .slice A1 n1 c1, .slice A2 n2 c2, .slice A3 n3 c3] 43) := ⟨_, rfl⟩
  have hbw : Below w.heap.size w wb := by rw [hwb]; exact boxed _ _
  have H2 : ITwo wb base T p q i k d f h m m := H.below hbw
  have ha2 := ha.below hbw H.bas
  have ha0 := ha.a0
  have ha1 := ha.a1
  have KP := Lib.hid (fun wA (hx : Chg T wb wA) => actBox w 0 at_ n ok A1 n1 c1 A2 n2 c2 A3 n3 c3 (w' := wA) (T := T) (by rw [← hwb]; exact hx) (fun ht => by have := (H.foot _ ht).2; omega))
  have HH := Lib.hid H
  have HB := Lib.hid hbw
  have H1 : ITwo wb.drew base T p q i k d f h m m := H2.drewN 1
  have hk0 := KP.out wb.drew ((Chg.refl T wb).drew)
  have F1 := Lib.hid (two_iset at_ n H1 hg (by omega) (by omega) (by omega))
  have R1 := Lib.hid (fun wA (hx : ITurn base T p q i k d f h (m.set at_ n) m wb.drew wA) => two_rset at_ n hx H1.foot H1.bas hg (by omega) ha.nn (by omega) (by omega))
  rw [hwb] at F1 R1 KP HB hk0
  generalize m.setE at_ = ee at *
  clear H H1 hbw ha ha2 hwb H2
  go_enter Try.func12, Try.ntmps12
  go_wp2
  go_region_held3 (fun w' => w'.cell? ⟨w.heap.size, 1, none⟩ = some (.int .i64 at_) ∧ w'.cell? ⟨w.heap.size, 2, none⟩ = some (.int .u64 n))
    (first | assumption | exact ⟨hk0.2.1, hk0.2.2.1⟩ | exact ⟨hkA.2.1, hkA.2.2.1⟩ | exact ⟨hkB.2.1, hkB.2.2.1⟩)
    (first
      | (go_at_call 26; refine F1.out.mono ?_; rintro e wA ⟨rfl, hx⟩; have HX := Lib.hid hx; have hkA := KP.out wA hx.1.drew0; clear hx)
      | (go_at_call 36; refine (R1.out wA HX.out).mono ?_; rintro e wB ⟨rfl, hy⟩; have HY := Lib.hid hy; have hkB := KP.out wB hy.1.drew0; clear hy))
  go_wp2
  go_ret
  exact ⟨rfl, ITurn.later HH.out (below_drewn HB.out 1) HY.out⟩

set_option maxHeartbeats 1000000 in
theorem does_put (at_ n ok : Int) (A1 : Option Addr) (n1 c1 : Nat) (ws : List Int) (A2 : Option Addr) (n2 c2 : Nat) (rs : List Int) (A3 : Option Addr) (n3 c3 : Nat) (is : List Int) (w : World) (H : ITwo w base T p q i k d f h m m) (hg : m.Ok N) (hN : N ≤ 900000) (ha : ActAt w base ⟨1, at_, n, ok, A1, n1, c1, ws, A2, n2, c2, rs, A3, n3, c3, is⟩) :
    Calls Try.prog 12 #[.pointer (some ⟨p, 0, none⟩), .pointer (some ⟨q, 0, none⟩), .agg #[.int .i64 1, .int .i64 at_, .int .u64 n, .int .i64 ok, .slice A1 n1 c1, .slice A2 n2 c2, .slice A3 n3 c3]] w (IDid base T p q i k d f h (m.put (encR ok ws rs is)) w) := by
  obtain ⟨wb, hwb⟩ : ∃ wb, wb = w.alloc (.cells #[.int .i64 1, .int .i64 at_, .int .u64 n, .int .i64 ok, .slice A1 n1 c1, .slice A2 n2 c2, .slice A3 n3 c3] 43) := ⟨_, rfl⟩
  have hbw : Below w.heap.size w wb := by rw [hwb]; exact boxed _ _
  have H2 : ITwo wb base T p q i k d f h m m := H.below hbw
  have ha2 := ha.below hbw H.bas
  have ha0 := ha.a0
  have ha1 := ha.a1
  have KP := Lib.hid (fun wA (hx : Chg T wb wA) => actBox w 1 at_ n ok A1 n1 c1 A2 n2 c2 A3 n3 c3 (w' := wA) (T := T) (by rw [← hwb]; exact hx) (fun ht => by have := (H.foot _ ht).2; omega))
  have HH := Lib.hid H
  have HB := Lib.hid hbw
  have hk0 := KP.out wb (Chg.refl T wb)
  have F1 := Lib.hid (two_iput ok A1 n1 c1 ws A2 n2 c2 rs A3 n3 c3 is ha2.ob H2 hg)
  have R1 := Lib.hid (fun wA (hx : ITurn base T p q i k d f h (m.put (encR ok ws rs is)) m wb wA) => two_rput ok A1 n1 c1 ws A2 n2 c2 rs A3 n3 c3 is (ha2.ob.chg hx.1 H2.bas (fun j hj ht => by have := (H2.foot j ht).1; omega)) ha.bw ha.bi hx H2.foot H2.bas hg)
  rw [hwb] at F1 R1 KP HB hk0
  generalize m.putE (encR ok ws rs is) = ee at *
  generalize m.putA (encR ok ws rs is) = aa at *
  generalize m.put (encR ok ws rs is) = mm at *
  obtain ⟨b0, b1, b2, b3, b4, b5, b6⟩ := hk0
  clear H hbw ha ha2 hwb H2
  go_enter Try.func12, Try.ntmps12
  go_wp2_with (first
    | (go_at_call 28; go_loud (refine F1.out.mono ?_; rintro e wA ⟨rfl, hx⟩; have HX := Lib.hid hx; obtain ⟨d0, d1, d2, d3, d4, d5, d6⟩ := KP.out wA hx.1; clear hx))
    | (go_at_call 37; go_loud (refine (R1.out wA HX.out).mono ?_; rintro e wB ⟨rfl, hy⟩; have HY := Lib.hid hy; clear hy)))
  go_ret
  exact ⟨rfl, ITurn.later HH.out HB.out HY.out⟩

set_option maxHeartbeats 1000000 in
theorem does_done (at_ n ok : Int) (A1 : Option Addr) (n1 c1 : Nat) (ws : List Int) (A2 : Option Addr) (n2 c2 : Nat) (rs : List Int) (A3 : Option Addr) (n3 c3 : Nat) (is : List Int) (w : World) (H : ITwo w base T p q i k d f h m m) (hg : m.Ok N) (hN : N ≤ 900000) (ha : ActAt w base ⟨2, at_, n, ok, A1, n1, c1, ws, A2, n2, c2, rs, A3, n3, c3, is⟩) :
    Calls Try.prog 12 #[.pointer (some ⟨p, 0, none⟩), .pointer (some ⟨q, 0, none⟩), .agg #[.int .i64 2, .int .i64 at_, .int .u64 n, .int .i64 ok, .slice A1 n1 c1, .slice A2 n2 c2, .slice A3 n3 c3]] w (IDid base T p q i k d f h m.done w) := by
  obtain ⟨wb, hwb⟩ : ∃ wb, wb = w.alloc (.cells #[.int .i64 2, .int .i64 at_, .int .u64 n, .int .i64 ok, .slice A1 n1 c1, .slice A2 n2 c2, .slice A3 n3 c3] 43) := ⟨_, rfl⟩
  have hbw : Below w.heap.size w wb := by rw [hwb]; exact boxed _ _
  have H2 : ITwo wb base T p q i k d f h m m := H.below hbw
  have ha2 := ha.below hbw H.bas
  have ha0 := ha.a0
  have ha1 := ha.a1
  have KP := Lib.hid (fun wA (hx : Chg T wb wA) => actBox w 2 at_ n ok A1 n1 c1 A2 n2 c2 A3 n3 c3 (w' := wA) (T := T) (by rw [← hwb]; exact hx) (fun ht => by have := (H.foot _ ht).2; omega))
  have HH := Lib.hid H
  have HB := Lib.hid hbw
  have hk0 := KP.out wb (Chg.refl T wb)
  have F1 := Lib.hid (two_idone H2)
  have R1 := Lib.hid (fun wA (hx : ITurn base T p q i k d f h m.done m wb wA) => two_rdone hx H2.foot H2.bas hg)
  rw [hwb] at F1 R1 KP HB hk0
  obtain ⟨b0, b1, b2, b3, b4, b5, b6⟩ := hk0
  clear H hbw ha ha2 hwb H2
  go_enter Try.func12, Try.ntmps12
  go_wp2_with (first
    | (go_at_call 15; go_loud (refine F1.out.mono ?_; rintro e wA ⟨rfl, hx⟩; have HX := Lib.hid hx; clear hx))
    | (go_at_call 16; go_loud (refine (R1.out wA HX.out).mono ?_; rintro e wB ⟨rfl, hy⟩; have HY := Lib.hid hy; clear hy)))
  go_ret
  exact ⟨rfl, ITurn.later HH.out HB.out HY.out⟩

set_option maxHeartbeats 1000000 in
theorem does_back (at_ n ok : Int) (A1 : Option Addr) (n1 c1 : Nat) (ws : List Int) (A2 : Option Addr) (n2 c2 : Nat) (rs : List Int) (A3 : Option Addr) (n3 c3 : Nat) (is : List Int) (w : World) (H : ITwo w base T p q i k d f h m m) (hg : m.Ok N) (hN : N ≤ 900000) (ha : ActAt w base ⟨3, at_, n, ok, A1, n1, c1, ws, A2, n2, c2, rs, A3, n3, c3, is⟩) :
    Calls Try.prog 12 #[.pointer (some ⟨p, 0, none⟩), .pointer (some ⟨q, 0, none⟩), .agg #[.int .i64 3, .int .i64 at_, .int .u64 n, .int .i64 ok, .slice A1 n1 c1, .slice A2 n2 c2, .slice A3 n3 c3]] w (IDid base T p q i k d f h m.back w) := by
  obtain ⟨wb, hwb⟩ : ∃ wb, wb = w.alloc (.cells #[.int .i64 3, .int .i64 at_, .int .u64 n, .int .i64 ok, .slice A1 n1 c1, .slice A2 n2 c2, .slice A3 n3 c3] 43) := ⟨_, rfl⟩
  have hbw : Below w.heap.size w wb := by rw [hwb]; exact boxed _ _
  have H2 : ITwo wb base T p q i k d f h m m := H.below hbw
  have ha2 := ha.below hbw H.bas
  have ha0 := ha.a0
  have ha1 := ha.a1
  have KP := Lib.hid (fun wA (hx : Chg T wb wA) => actBox w 3 at_ n ok A1 n1 c1 A2 n2 c2 A3 n3 c3 (w' := wA) (T := T) (by rw [← hwb]; exact hx) (fun ht => by have := (H.foot _ ht).2; omega))
  have HH := Lib.hid H
  have HB := Lib.hid hbw
  have hk0 := KP.out wb (Chg.refl T wb)
  have F1 := Lib.hid (two_iback H2 hg (by omega))
  have R1 := Lib.hid (fun wA (hx : ITurn base T p q i k d f h m.back m wb wA) => two_rback hx H2.foot H2.bas hg)
  rw [hwb] at F1 R1 KP HB hk0
  obtain ⟨b0, b1, b2, b3, b4, b5, b6⟩ := hk0
  clear H hbw ha ha2 hwb H2
  go_enter Try.func12, Try.ntmps12
  go_wp2_with (first
    | (go_at_call 20; go_loud (refine F1.out.mono ?_; rintro e wA ⟨rfl, hx⟩; have HX := Lib.hid hx; clear hx))
    | (go_at_call 38; go_loud (refine (R1.out wA HX.out).mono ?_; rintro e wB ⟨rfl, hy⟩; have HY := Lib.hid hy; clear hy)))
  go_ret
  exact ⟨rfl, ITurn.later HH.out HB.out HY.out⟩

set_option maxHeartbeats 1000000 in
theorem does_else (kind : Int) (at_ n ok : Int) (A1 : Option Addr) (n1 c1 : Nat) (ws : List Int) (A2 : Option Addr) (n2 c2 : Nat) (rs : List Int) (A3 : Option Addr) (n3 c3 : Nat) (is : List Int) (w : World) (H : ITwo w base T p q i k d f h m m) (hg : m.Ok N) (hN : N ≤ 900000) (ha : ActAt w base ⟨kind, at_, n, ok, A1, n1, c1, ws, A2, n2, c2, rs, A3, n3, c3, is⟩) (q0 : (kind == 0) = false) (q1 : (kind == 1) = false) (q2 : (kind == 2) = false) (q3 : (kind == 3) = false) (h8 : 8 ≤ m.b.length) :
    Calls Try.prog 12 #[.pointer (some ⟨p, 0, none⟩), .pointer (some ⟨q, 0, none⟩), .agg #[.int .i64 kind, .int .i64 at_, .int .u64 n, .int .i64 ok, .slice A1 n1 c1, .slice A2 n2 c2, .slice A3 n3 c3]] w (IDid base T p q i k d f h (m.set (modAt at_ m.b.length) n) w) := by
  obtain ⟨wb, hwb⟩ : ∃ wb, wb = w.alloc (.cells #[.int .i64 kind, .int .i64 at_, .int .u64 n, .int .i64 ok, .slice A1 n1 c1, .slice A2 n2 c2, .slice A3 n3 c3] 43) := ⟨_, rfl⟩
  have hbw : Below w.heap.size w wb := by rw [hwb]; exact boxed _ _
  have H2 : ITwo wb base T p q i k d f h m m := H.below hbw
  have ha2 := ha.below hbw H.bas
  have ha0 := ha.a0
  have ha1 := ha.a1
  have KP := Lib.hid (fun wA (hx : Chg T wb wA) => actBox w kind at_ n ok A1 n1 c1 A2 n2 c2 A3 n3 c3 (w' := wA) (T := T) (by rw [← hwb]; exact hx) (fun ht => by have := (H.foot _ ht).2; omega))
  have HH := Lib.hid H
  have HB := Lib.hid hbw
  obtain ⟨Sx, S2x, bvx, svx, bv2x, wv2x, sv2x, y1, y2, y3, y4, y5⟩ := H2.ex
  obtain ⟨Ab, cb, rfl, -, -, -⟩ := y2.reads
  have hq5 := fun w1 (hb : Below wb.heap.size wb w1) => (nine (y2.below hb).blk).1.2.2.2.2.2.1
  obtain ⟨L, hL⟩ : ∃ L, L = m.b.length := ⟨_, rfl⟩
  rw [← hL] at hq5
  have hLb : L ≤ 2097152 := by have := hg.len; omega
  have hLp : 8 ≤ L := by omega
  obtain ⟨D, hD⟩ : ∃ D : Nat, D = L / 8 := ⟨_, rfl⟩
  have hDp : 0 < D := by omega
  obtain ⟨X, hX⟩ : ∃ X : Int, IntKind.u64.wrap at_ = X := ⟨_, rfl⟩
  have hXm : X = at_ % 18446744073709551616 := by rw [← hX, IntKind.wrap_u64]
  have hXb : 0 ≤ X ∧ X < 18446744073709551616 := by rw [hXm]; omega
  obtain ⟨Y, hY⟩ : ∃ Y : Int, Y = X % (D : Int) := ⟨_, rfl⟩
  have hYb : 0 ≤ Y ∧ Y < D := by rw [hY]; exact ⟨Int.emod_nonneg _ (by omega), Int.emod_lt_of_pos _ (by omega)⟩
  have hMA : modAt at_ m.b.length = 8 * Y := by unfold modAt; rw [← hL, ← hXm, ← hD, hY]
  rw [hMA]
  have z1 : Int.tdiv (L : Int) 8 = (D : Int) := by rw [Int.tdiv_eq_ediv_of_nonneg (by omega)]; omega
  have z2 : IntKind.u64.wrap (D : Int) = (D : Int) := by rw [IntKind.wrap_u64]; omega
  have z3 : Int.tmod X (D : Int) = Y := by rw [Int.tmod_eq_emod_of_nonneg hXb.1, hY]
  have z4 : IntKind.i64.wrap Y = Y := by rw [IntKind.wrap_i64]; omega
  have z5 : IntKind.i64.wrap (8 * Y) = 8 * Y := by rw [IntKind.wrap_i64]; omega
  have z6 : ((D : Int) == 0) = false := by simp; omega
  have z7 : ¬ (D : Int) = 0 := by omega
  have z9 : ¬ D = 0 := by omega
  have z14 : IntKind.i64.wrap (D : Int) = (D : Int) := by rw [IntKind.wrap_i64]; omega
  have z15 : IntKind.u64.wrap Y = Y := by rw [IntKind.wrap_u64]; omega
  have z11 : (L : Int) / 8 = (D : Int) := by omega
  have z12 : X % (D : Int) = Y := hY.symm
  have hx0 : 0 ≤ X := hXb.1
  have z13 : (1 : Int) ≤ (D : Int) := by omega
  have z10 : (D == 0) = false := by simp; omega
  have HL := Lib.hid hq5
  have hyb1 := hYb.1
  have hyb2 := hYb.2
  obtain ⟨Y8, hY8⟩ : ∃ Y8 : Int, 8 * Y = Y8 := ⟨_, rfl⟩
  have z8 : -9223372036854775808 ≤ Y8 ∧ Y8 ≤ 9223372036854775807 := by omega
  have z16 : IntKind.i64.wrap Y8 = Y8 := by rw [IntKind.wrap_i64]; omega
  rw [hY8]
  clear y1 y2 y3 y4 y5 hq5 hL hD hXm hY hMA hXb
  obtain ⟨w5, hw5⟩ : ∃ w5, wb.drew = w5 := ⟨_, rfl⟩
  have hb5 : Below wb.heap.size wb w5 := by rw [← hw5]; exact below_drewn (Below.refl _ _) 1
  have hc5 : Chg T wb w5 := by rw [← hw5]; exact (Chg.refl T wb).drew
  have H1 : ITwo w5.drew base T p q i k d f h m m := (H2.below hb5).drewN 1
  have hk0 := KP.out w5 hc5
  have hk1 := KP.out w5.drew hc5.drew
  have hq0 := HL.out w5 hb5
  have F1 := Lib.hid (two_iset Y8 n H1 hg (by omega) (by omega) (by omega))
  have R1 := Lib.hid (fun wA (hx : ITurn base T p q i k d f h (m.set Y8 n) m w5.drew wA) => two_rset Y8 n hx H1.foot H1.bas hg (by omega) ha.nn (by omega) (by omega))
  have KP5 := Lib.hid (fun wA (hx : Chg T w5.drew wA) => KP.out wA (hc5.trans hx.drew0 (fun _ _ h => h)))
  have HB5 := Lib.hid (hbw.trans (hb5.mono hbw.size))
  rw [hwb] at hw5
  have hq0' := hq0
  have hk0' := hk0
  rw [← hw5] at hq0' hk0'
  generalize m.setE Y8 = ee at *
  clear H H1 hbw ha ha2 hwb H2 HB KP HL hb5 hc5 hq0 hk0
  go_enter Try.func12, Try.ntmps12
  go_wp2
  go_region_held3 (fun w' => w'.cell? ⟨w.heap.size, 1, none⟩ = some (.int .i64 at_) ∧ w'.cell? ⟨q, 5, none⟩ = some (.slice Ab L cb))
    (first | assumption | exact ⟨hk0'.2.1, hq0'⟩) (fail)
  go_wp2
  rw [hw5]
  clear hY8 hw5 hk0' hq0' z1 z2 z3 z4 z5 z6 z7 z9 z10 z11 z12 z13 z14 z15 hx0 hyb1 hyb2 hX
  go_region_held3 (fun w' => w'.cell? ⟨w.heap.size, 2, none⟩ = some (.int .u64 n))
    (first | assumption | exact hk1.2.2.1 | exact hkA.2.2.1 | exact hkB.2.2.1)
    (first
      | (go_at_call 26; refine F1.out.mono ?_; rintro e wA ⟨rfl, hx⟩; have HX := Lib.hid hx; have hkA := KP5.out wA hx.1; clear hx)
      | (go_at_call 36; refine (R1.out wA HX.out).mono ?_; rintro e wB ⟨rfl, hy⟩; have HY := Lib.hid hy; have hkB := KP5.out wB hy.1; clear hy))
  go_wp2
  go_ret
  exact ⟨rfl, ITurn.later HH.out (below_drewn HB5.out 1) HY.out⟩

theorem does_any (a : ActI) (w : World) (H : ITwo w base T p q i k d f h m m) (hg : m.Ok N) (hN : N ≤ 900000) (ha : ActAt w base a) (h8 : 8 ≤ m.b.length) :
    Calls Try.prog 12 #[.pointer (some ⟨p, 0, none⟩), .pointer (some ⟨q, 0, none⟩), .agg #[.int .i64 a.kind, .int .i64 a.at_, .int .u64 a.n, .int .i64 a.ok, .slice a.A1 a.n1 a.c1, .slice a.A2 a.n2 a.c2, .slice a.A3 a.n3 a.c3]] w (IDid base T p q i k d f h (m.act a) w) := by
  obtain ⟨kind, at_, n, ok, A1, n1, c1, ws, A2, n2, c2, rs, A3, n3, c3, is⟩ := a
  by_cases k0 : kind = 0
  · subst k0; exact does_set at_ n ok A1 n1 c1 ws A2 n2 c2 rs A3 n3 c3 is w H hg hN ha
  by_cases k1 : kind = 1
  · subst k1; exact does_put at_ n ok A1 n1 c1 ws A2 n2 c2 rs A3 n3 c3 is w H hg hN ha
  by_cases k2 : kind = 2
  · subst k2; exact does_done at_ n ok A1 n1 c1 ws A2 n2 c2 rs A3 n3 c3 is w H hg hN ha
  by_cases k3 : kind = 3
  · subst k3; exact does_back at_ n ok A1 n1 c1 ws A2 n2 c2 rs A3 n3 c3 is w H hg hN ha
  · rw [show m.act ⟨kind, at_, n, ok, A1, n1, c1, ws, A2, n2, c2, rs, A3, n3, c3, is⟩ = m.set (modAt at_ m.b.length) n by unfold IM.act; rw [if_neg k0, if_neg k1, if_neg k2, if_neg k3]]
    exact does_else kind at_ n ok A1 n1 c1 ws A2 n2 c2 rs A3 n3 c3 is w H hg hN ha (by simpa using k0) (by simpa using k1) (by simpa using k2) (by simpa using k3) h8
end

end Go.Proofs.Ythdnjjdlhhapbaa
