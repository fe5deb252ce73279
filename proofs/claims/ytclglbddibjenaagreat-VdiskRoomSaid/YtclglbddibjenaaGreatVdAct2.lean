/-
  LAYER 8: WHAT does DOES: an act, done to both disks. Written by a program (gen8d.py).
-/
import Derived.Test.YtclglbddibjenaaGreatVdAct
import Derived.Deep.RegionHeld3
set_option linter.unusedVariables false
set_option linter.unusedSimpArgs false
set_option maxRecDepth 100000
namespace Go.Proofs.YtclglbddibjenaaGreat
open Go.RowKit

/-- What a walk knows of an act. -/
structure ActAt (w : World) (base : Nat) (z : Act8) : Prop where
  k0 : -9223372036854775808 ≤ z.kind
  k1 : z.kind ≤ 9223372036854775807
  a : z.a.size ≤ 200
  b : z.b.size ≤ 200
  t0 : -9223372036854775808 ≤ z.at_
  t1 : z.at_ ≤ 9223372036854775807
  bs : Reads w base 1 z.A z.n (cellsOf .u8 z.bs)
  are : AreB z.bs
  nc : z.n ≤ z.c
  cc : z.c ≤ 9223372036854775807
  n3 : z.n ≤ 300
  ks : Reads w base 1 z.K z.m (cellsB z.ks)
  md : z.m ≤ z.d
  dc : z.d ≤ 9223372036854775807

theorem ActAt.of {w0 w : World} {a : Act8} (h : Act8Ok w0 a) (hl : lightB a = true) (hb : Below w0.heap.size w0 w) : ActAt w w0.heap.size a := by
  have b1 := bounds_i64 h.kind
  have b2 := bounds_i64 h.at_
  obtain ⟨l1, l2, l3, -⟩ := lightB_n hl
  exact ⟨b1.1, b1.2, l1, l2, b2.1, b2.2, h.bs.reads.below hb, fun z hz => wf_u8_bd (h.bs.wf z hz), h.bs.le, h.bs.cap, l3, h.ks.reads.below hb, h.ks.le, h.ks.cap⟩

/-- Both disks behind an act, each at a place of its own. -/
def Did (base : Nat) (T : Nat → Prop) (v : VS) (N : Nat) (w : World) (e : Ending) (w' : World) : Prop :=
  ∃ p q, e = .returned (.tuple #[.pointer (some ⟨p, 0, none⟩), .pointer (some ⟨q, 0, none⟩), .bool true]) ∧ Turn base T p q v N w w'

/-- The act's box. -/
abbrev actC (a : Act8) : Array Value := #[.int .i64 a.kind, .string a.a, .string a.b, .int .i64 a.at_, .slice a.A a.n a.c, .slice a.K a.m a.d]
abbrev boxW (w : World) (k : Int) (x y : ByteArray) (t : Int) (A : Option Addr) (n c : Nat) (K : Option Addr) (m d : Nat) : World := w.alloc (.cells #[.int .i64 k, .string x, .string y, .int .i64 t, .slice A n c, .slice K m d] 32)
abbrev BoxAt (w' : World) (h : Nat) (k : Int) (x y : ByteArray) (t : Int) (A : Option Addr) (n c : Nat) (K : Option Addr) (m d : Nat) : Prop :=
  w'.cell? ⟨h, 0, none⟩ = some (.int .i64 k) ∧ w'.cell? ⟨h, 1, none⟩ = some (.string x) ∧ w'.cell? ⟨h, 2, none⟩ = some (.string y) ∧ w'.cell? ⟨h, 3, none⟩ = some (.int .i64 t) ∧ w'.cell? ⟨h, 4, none⟩ = some (.slice A n c) ∧ w'.cell? ⟨h, 5, none⟩ = some (.slice K m d)
section
variable {w w' : World} {k t : Int} {x y : ByteArray} {A K : Option Addr} {n c m d : Nat} {T : Nat → Prop}
theorem boxW_below : Below w.heap.size w (boxW w k x y t A n c K m d) := (Below.refl _ _).alloc (Nat.le_refl _) _
theorem boxW_at (hc : Chg T (boxW w k x y t A n c K m d) w') (h1 : ¬ T w.heap.size) : BoxAt w' w.heap.size k x y t A n c K m d := by
  have a1 := (Blk.new w 32 #[.int .i64 k, .string x, .string y, .int .i64 t, .slice A n c, .slice K m d]).chg hc h1
  exact ⟨a1.cell 0, a1.cell 1, a1.cell 2, a1.cell 3, a1.cell 4, a1.cell 5⟩
end

theorem vxarm_any {w : World} {base p N : Nat} {S : Nat → Prop} {v : VS} {os : OsL} (t : Int) (h : VX w base S p v os) (hg : GoodV v os N) (h0 : -9223372036854775808 ≤ t) (h1 : t ≤ 9223372036854775807) :
    Calls Tryz.prog 25 #[.pointer (some ⟨p, 0, none⟩), .int .i64 t] w fun e w' => e = .returned (.tuple #[]) ∧ VOut w S base p (v.arm t) (N + 1) w' := by
  obtain ⟨dp, mb, bn, bs, pv, SD, SF, ps, Ss, hv⟩ := h
  exact (varm_any t (VDT.start hv) h0 h1).mono fun e w' ⟨he, hx⟩ => ⟨he, hx.vout ((hg.arm h1).more (Nat.le_succ _))⟩
theorem rxarm_any {w : World} {base q : Nat} {S : Nat → Prop} {v : VS} (t : Int) (h : RX w base S q v) (h0 : -9223372036854775808 ≤ t) (h1 : t ≤ 9223372036854775807) :
    Calls Tryz.prog 40 #[.pointer (some ⟨q, 0, none⟩), .int .i64 t] w fun e w' => e = .returned (.tuple #[]) ∧ RXT w S base q (v.arm t) w' := by
  obtain ⟨dq, fv, nv, sv, ov, SD, SF, qs, Ss, hv⟩ := h
  exact (rvarm_any t (RVT.start hv) h0 h1).mono fun e w' ⟨he, hx⟩ => ⟨he, hx.x⟩
theorem Turn.more {base p q N M : Nat} {T : Nat → Prop} {v : VS} {w w' : World} (h : Turn base T p q v N w w') (hN : N ≤ M) : Turn base T p q v M w w' := by
  obtain ⟨hc, h⟩ := h
  obtain ⟨S, S2, os, h1, hg, h2, h3, h4, h5⟩ := h.ex
  exact ⟨hc, h.foot, h.bas, S, S2, os, h1, hg.more hN, h2, h3, h4, h5⟩

set_option maxHeartbeats 4000000 in
theorem does_create (p q base N : Nat) (T : Nat → Prop) (v : VS) (x y : ByteArray) (t : Int) (A : Option Addr) (n c : Nat) (bs : List Int) (K : Option Addr) (m d : Nat) (ks : List Bool) (w : World) (h : Two w base T p q v N) (hN : N + 1 ≤ 1000) (ha : ActAt w base ⟨0, x, y, t, A, n, c, bs, K, m, d, ks⟩) :
    Calls Tryz.prog 11 #[.pointer (some ⟨p, 0, none⟩), .pointer (some ⟨q, 0, none⟩), .agg #[.int .i64 0, .string x, .string y, .int .i64 t, .slice A n c, .slice K m d]] w (Did base T (orTick v (v.tick.create x)) (N + 1) w) := by
  have hbw := boxW_below (w := w) (k := 0) (t := t) (x := x) (y := y) (A := A) (n := n) (c := c) (K := K) (m := m) (d := d)
  have hb1 : Below w.heap.size w (boxW w 0 x y t A n c K m d).drew := below_drewn hbw 1
  have ha1 := ha.a
  have ha2 := ha.b
  have ha3 := ha.t0
  have ha4 := ha.t1
  have hbb := hb1.mono h.bas
  obtain ⟨E, hE⟩ : ∃ E, E = orStop v (doE v.d.now (createO v x)) := ⟨_, rfl⟩
  have F1 := h.pair hb1 (fun S os hx hg => vcreate_any x hx hg (by omega) ha1) (fun S2 os wA hx hg hbA => rvcreate_any x hx hg (by omega) ha1)
  rw [← hE] at F1
  have PR := Lib.hid F1
  have KP := Lib.hid (fun wA (hx : Chg T (boxW w 0 x y t A n c K m d).drew wA) => boxW_at (w := w) (k := 0) (t := t) (x := x) (y := y) (A := A) (n := n) (c := c) (K := K) (m := m) (d := d) hx.drew0 (fun ht => by have := (h.foot _ ht).2; omega))
  have HK := Lib.hid (KP.out _ (Chg.refl _ _))
  have hf := boxW_at (w := w) (k := 0) (t := t) (x := x) (y := y) (A := A) (n := n) (c := c) (K := K) (m := m) (d := d) (Chg.refl (fun _ => False) _) (fun h => h)
  obtain ⟨b0, b1, b2, b3, b4, b5⟩ := hf
  clear F1 h hbw hb1 ha ha1 ha2 ha3 ha4 hbb hE
  go_enter Tryz.func11, Tryz.ntmps11
  go_wp2
  go_region_held3 (fun w' => BoxAt w' w.heap.size 0 x y t A n c K m d)
    (first | assumption | exact HK.out)
    (first
      | (go_at_call 27; go_loud (refine PR.out.mono ?_; rintro e wA ⟨rfl, hc, hx⟩; have HX := hx; have hkA := KP.out wA hc; clear hx hc))
      | (go_at_call 34; go_loud (refine HX.out.mono ?_; rintro e wB ⟨rfl, hc2, hy⟩; have HY := Lib.hid hy; have hkB := KP.out wB hc2; clear hy hc2)))
  go_wp2
  go_ret3
  exact ⟨_, _, rfl, HY.out⟩

set_option maxHeartbeats 4000000 in
theorem does_write (p q base N : Nat) (T : Nat → Prop) (v : VS) (x y : ByteArray) (t : Int) (A : Option Addr) (n c : Nat) (bs : List Int) (K : Option Addr) (m d : Nat) (ks : List Bool) (w : World) (h : Two w base T p q v N) (hN : N + 1 ≤ 1000) (ha : ActAt w base ⟨1, x, y, t, A, n, c, bs, K, m, d, ks⟩) :
    Calls Tryz.prog 11 #[.pointer (some ⟨p, 0, none⟩), .pointer (some ⟨q, 0, none⟩), .agg #[.int .i64 1, .string x, .string y, .int .i64 t, .slice A n c, .slice K m d]] w (Did base T (orTick v (v.tick.write x t bs)) (N + 1) w) := by
  have hbw := boxW_below (w := w) (k := 1) (t := t) (x := x) (y := y) (A := A) (n := n) (c := c) (K := K) (m := m) (d := d)
  have hb1 : Below w.heap.size w (boxW w 1 x y t A n c K m d).drew := below_drewn hbw 1
  have ha1 := ha.a
  have ha2 := ha.b
  have ha3 := ha.t0
  have ha4 := ha.t1
  have hbb := hb1.mono h.bas
  obtain ⟨E, hE⟩ : ∃ E, E = orStop v (v.writeE x t bs) := ⟨_, rfl⟩
  have F1 := h.pair hb1 (fun S os hx hg => vwrite_any x t A n c bs hx hg (by omega) ha1 ha3 ha4 (ha.bs.below hbb) ha.are ha.nc ha.cc ha.n3) (fun S2 os wA hx hg hbA => rvwrite_any x t A n c bs hx hg (by omega) ha3 ha4 ((ha.bs.below hbb).below hbA) ha.nc ha.cc ha.n3)
  rw [← hE] at F1
  have PR := Lib.hid F1
  have KP := Lib.hid (fun wA (hx : Chg T (boxW w 1 x y t A n c K m d).drew wA) => boxW_at (w := w) (k := 1) (t := t) (x := x) (y := y) (A := A) (n := n) (c := c) (K := K) (m := m) (d := d) hx.drew0 (fun ht => by have := (h.foot _ ht).2; omega))
  have HK := Lib.hid (KP.out _ (Chg.refl _ _))
  have hf := boxW_at (w := w) (k := 1) (t := t) (x := x) (y := y) (A := A) (n := n) (c := c) (K := K) (m := m) (d := d) (Chg.refl (fun _ => False) _) (fun h => h)
  obtain ⟨b0, b1, b2, b3, b4, b5⟩ := hf
  clear F1 h hbw hb1 ha ha1 ha2 ha3 ha4 hbb hE
  go_enter Tryz.func11, Tryz.ntmps11
  go_wp2
  go_region_held3 (fun w' => BoxAt w' w.heap.size 1 x y t A n c K m d)
    (first | assumption | exact HK.out)
    (first
      | (go_at_call 28; go_loud (refine PR.out.mono ?_; rintro e wA ⟨rfl, hc, hx⟩; have HX := hx; have hkA := KP.out wA hc; clear hx hc))
      | (go_at_call 35; go_loud (refine HX.out.mono ?_; rintro e wB ⟨rfl, hc2, hy⟩; have HY := Lib.hid hy; have hkB := KP.out wB hc2; clear hy hc2)))
  go_wp2
  go_ret3
  exact ⟨_, _, rfl, HY.out⟩

set_option maxHeartbeats 4000000 in
theorem does_trunc (p q base N : Nat) (T : Nat → Prop) (v : VS) (x y : ByteArray) (t : Int) (A : Option Addr) (n c : Nat) (bs : List Int) (K : Option Addr) (m d : Nat) (ks : List Bool) (w : World) (h : Two w base T p q v N) (hN : N + 1 ≤ 1000) (ha : ActAt w base ⟨2, x, y, t, A, n, c, bs, K, m, d, ks⟩) :
    Calls Tryz.prog 11 #[.pointer (some ⟨p, 0, none⟩), .pointer (some ⟨q, 0, none⟩), .agg #[.int .i64 2, .string x, .string y, .int .i64 t, .slice A n c, .slice K m d]] w (Did base T (orTick v (v.tick.trunc x t)) (N + 1) w) := by
  have hbw := boxW_below (w := w) (k := 2) (t := t) (x := x) (y := y) (A := A) (n := n) (c := c) (K := K) (m := m) (d := d)
  have hb1 : Below w.heap.size w (boxW w 2 x y t A n c K m d).drew := below_drewn hbw 1
  have ha1 := ha.a
  have ha2 := ha.b
  have ha3 := ha.t0
  have ha4 := ha.t1
  have hbb := hb1.mono h.bas
  obtain ⟨E, hE⟩ : ∃ E, E = orStop v (v.truncE x t) := ⟨_, rfl⟩
  have F1 := h.pair hb1 (fun S os hx hg => vtrunc_any x t hx hg (by omega) ha1 ha3 ha4) (fun S2 os wA hx hg hbA => rvtrunc_any x t hx hg (by omega) ha3 ha4)
  rw [← hE] at F1
  have PR := Lib.hid F1
  have KP := Lib.hid (fun wA (hx : Chg T (boxW w 2 x y t A n c K m d).drew wA) => boxW_at (w := w) (k := 2) (t := t) (x := x) (y := y) (A := A) (n := n) (c := c) (K := K) (m := m) (d := d) hx.drew0 (fun ht => by have := (h.foot _ ht).2; omega))
  have HK := Lib.hid (KP.out _ (Chg.refl _ _))
  have hf := boxW_at (w := w) (k := 2) (t := t) (x := x) (y := y) (A := A) (n := n) (c := c) (K := K) (m := m) (d := d) (Chg.refl (fun _ => False) _) (fun h => h)
  obtain ⟨b0, b1, b2, b3, b4, b5⟩ := hf
  clear F1 h hbw hb1 ha ha1 ha2 ha3 ha4 hbb hE
  go_enter Tryz.func11, Tryz.ntmps11
  go_wp2
  go_region_held3 (fun w' => BoxAt w' w.heap.size 2 x y t A n c K m d)
    (first | assumption | exact HK.out)
    (first
      | (go_at_call 29; go_loud (refine PR.out.mono ?_; rintro e wA ⟨rfl, hc, hx⟩; have HX := hx; have hkA := KP.out wA hc; clear hx hc))
      | (go_at_call 36; go_loud (refine HX.out.mono ?_; rintro e wB ⟨rfl, hc2, hy⟩; have HY := Lib.hid hy; have hkB := KP.out wB hc2; clear hy hc2)))
  go_wp2
  go_ret3
  exact ⟨_, _, rfl, HY.out⟩

set_option maxHeartbeats 4000000 in
theorem does_sync (p q base N : Nat) (T : Nat → Prop) (v : VS) (x y : ByteArray) (t : Int) (A : Option Addr) (n c : Nat) (bs : List Int) (K : Option Addr) (m d : Nat) (ks : List Bool) (w : World) (h : Two w base T p q v N) (hN : N + 1 ≤ 1000) (ha : ActAt w base ⟨3, x, y, t, A, n, c, bs, K, m, d, ks⟩) :
    Calls Tryz.prog 11 #[.pointer (some ⟨p, 0, none⟩), .pointer (some ⟨q, 0, none⟩), .agg #[.int .i64 3, .string x, .string y, .int .i64 t, .slice A n c, .slice K m d]] w (Did base T (orTick v (v.tick.sync x)) (N + 1) w) := by
  have hbw := boxW_below (w := w) (k := 3) (t := t) (x := x) (y := y) (A := A) (n := n) (c := c) (K := K) (m := m) (d := d)
  have hb1 : Below w.heap.size w (boxW w 3 x y t A n c K m d).drew := below_drewn hbw 1
  have ha1 := ha.a
  have ha2 := ha.b
  have ha3 := ha.t0
  have ha4 := ha.t1
  have hbb := hb1.mono h.bas
  obtain ⟨E, hE⟩ : ∃ E, E = orStop v (v.syncE x) := ⟨_, rfl⟩
  have F1 := h.pair hb1 (fun S os hx hg => vsync_any x hx hg (by omega) ha1) (fun S2 os wA hx hg hbA => rvsync_any x hx hg (by omega))
  rw [← hE] at F1
  have PR := Lib.hid F1
  have KP := Lib.hid (fun wA (hx : Chg T (boxW w 3 x y t A n c K m d).drew wA) => boxW_at (w := w) (k := 3) (t := t) (x := x) (y := y) (A := A) (n := n) (c := c) (K := K) (m := m) (d := d) hx.drew0 (fun ht => by have := (h.foot _ ht).2; omega))
  have HK := Lib.hid (KP.out _ (Chg.refl _ _))
  have hf := boxW_at (w := w) (k := 3) (t := t) (x := x) (y := y) (A := A) (n := n) (c := c) (K := K) (m := m) (d := d) (Chg.refl (fun _ => False) _) (fun h => h)
  obtain ⟨b0, b1, b2, b3, b4, b5⟩ := hf
  clear F1 h hbw hb1 ha ha1 ha2 ha3 ha4 hbb hE
  go_enter Tryz.func11, Tryz.ntmps11
  go_wp2
  go_region_held3 (fun w' => BoxAt w' w.heap.size 3 x y t A n c K m d)
    (first | assumption | exact HK.out)
    (first
      | (go_at_call 17; go_loud (refine PR.out.mono ?_; rintro e wA ⟨rfl, hc, hx⟩; have HX := hx; have hkA := KP.out wA hc; clear hx hc))
      | (go_at_call 37; go_loud (refine HX.out.mono ?_; rintro e wB ⟨rfl, hc2, hy⟩; have HY := Lib.hid hy; have hkB := KP.out wB hc2; clear hy hc2)))
  go_wp2
  go_ret3
  exact ⟨_, _, rfl, HY.out⟩

set_option maxHeartbeats 4000000 in
theorem does_syncdir (p q base N : Nat) (T : Nat → Prop) (v : VS) (x y : ByteArray) (t : Int) (A : Option Addr) (n c : Nat) (bs : List Int) (K : Option Addr) (m d : Nat) (ks : List Bool) (w : World) (h : Two w base T p q v N) (hN : N + 1 ≤ 1000) (ha : ActAt w base ⟨4, x, y, t, A, n, c, bs, K, m, d, ks⟩) :
    Calls Tryz.prog 11 #[.pointer (some ⟨p, 0, none⟩), .pointer (some ⟨q, 0, none⟩), .agg #[.int .i64 4, .string x, .string y, .int .i64 t, .slice A n c, .slice K m d]] w (Did base T (orTick v v.tick.syncDir) (N + 1) w) := by
  have hbw := boxW_below (w := w) (k := 4) (t := t) (x := x) (y := y) (A := A) (n := n) (c := c) (K := K) (m := m) (d := d)
  have hb1 : Below w.heap.size w (boxW w 4 x y t A n c K m d) := hbw
  have ha1 := ha.a
  have ha2 := ha.b
  have ha3 := ha.t0
  have ha4 := ha.t1
  have hbb := hb1.mono h.bas
  obtain ⟨E, hE⟩ : ∃ E, E = orStop v 0 := ⟨_, rfl⟩
  have F1 := h.pair hb1 (fun S os hx hg => vsyncdir_any hx hg (by omega)) (fun S2 os wA hx hg hbA => rvsyncdir_any ⟨#[]⟩ hx hg (by omega))
  rw [← hE] at F1
  have PR := Lib.hid F1
  have KP := Lib.hid (fun wA (hx : Chg T (boxW w 4 x y t A n c K m d) wA) => boxW_at (w := w) (k := 4) (t := t) (x := x) (y := y) (A := A) (n := n) (c := c) (K := K) (m := m) (d := d) hx (fun ht => by have := (h.foot _ ht).2; omega))
  have HK := Lib.hid (KP.out _ (Chg.refl _ _))
  have hf := boxW_at (w := w) (k := 4) (t := t) (x := x) (y := y) (A := A) (n := n) (c := c) (K := K) (m := m) (d := d) (Chg.refl (fun _ => False) _) (fun h => h)
  obtain ⟨b0, b1, b2, b3, b4, b5⟩ := hf
  clear F1 h hbw hb1 ha ha1 ha2 ha3 ha4 hbb hE
  go_enter Tryz.func11, Tryz.ntmps11
  go_wp2_with (first
      | (go_at_call 18; go_loud (refine PR.out.mono ?_; rintro e wA ⟨rfl, hc, hx⟩; have HX := hx; have hkA := KP.out wA hc; clear hx hc))
      | (go_at_call 37; go_loud (refine HX.out.mono ?_; rintro e wB ⟨rfl, hc2, hy⟩; have HY := Lib.hid hy; have hkB := KP.out wB hc2; clear hy hc2)))
  go_ret3
  exact ⟨_, _, rfl, HY.out⟩

set_option maxHeartbeats 4000000 in
theorem does_rename (p q base N : Nat) (T : Nat → Prop) (v : VS) (x y : ByteArray) (t : Int) (A : Option Addr) (n c : Nat) (bs : List Int) (K : Option Addr) (m d : Nat) (ks : List Bool) (w : World) (h : Two w base T p q v N) (hN : N + 1 ≤ 1000) (ha : ActAt w base ⟨5, x, y, t, A, n, c, bs, K, m, d, ks⟩) :
    Calls Tryz.prog 11 #[.pointer (some ⟨p, 0, none⟩), .pointer (some ⟨q, 0, none⟩), .agg #[.int .i64 5, .string x, .string y, .int .i64 t, .slice A n c, .slice K m d]] w (Did base T (orTick v (v.tick.name ⟨1, x, y, 0⟩)) (N + 1) w) := by
  have hbw := boxW_below (w := w) (k := 5) (t := t) (x := x) (y := y) (A := A) (n := n) (c := c) (K := K) (m := m) (d := d)
  have hb1 : Below w.heap.size w (boxW w 5 x y t A n c K m d).drew := below_drewn hbw 1
  have ha1 := ha.a
  have ha2 := ha.b
  have ha3 := ha.t0
  have ha4 := ha.t1
  have hbb := hb1.mono h.bas
  obtain ⟨E, hE⟩ : ∃ E, E = orStop v (doE v.d.now ⟨1, x, y, 0⟩) := ⟨_, rfl⟩
  have F1 := h.pair hb1 (fun S os hx hg => vrename_any x y 0 hx hg (by omega) ha1 ha2 (by decide)) (fun S2 os wA hx hg hbA => rvrename_any x y hx hg (by omega) ha1 ha2)
  rw [← hE] at F1
  have PR := Lib.hid F1
  have KP := Lib.hid (fun wA (hx : Chg T (boxW w 5 x y t A n c K m d).drew wA) => boxW_at (w := w) (k := 5) (t := t) (x := x) (y := y) (A := A) (n := n) (c := c) (K := K) (m := m) (d := d) hx.drew0 (fun ht => by have := (h.foot _ ht).2; omega))
  have HK := Lib.hid (KP.out _ (Chg.refl _ _))
  have hf := boxW_at (w := w) (k := 5) (t := t) (x := x) (y := y) (A := A) (n := n) (c := c) (K := K) (m := m) (d := d) (Chg.refl (fun _ => False) _) (fun h => h)
  obtain ⟨b0, b1, b2, b3, b4, b5⟩ := hf
  clear F1 h hbw hb1 ha ha1 ha2 ha3 ha4 hbb hE
  go_enter Tryz.func11, Tryz.ntmps11
  go_wp2
  go_region_held3 (fun w' => BoxAt w' w.heap.size 5 x y t A n c K m d)
    (first | assumption | exact HK.out)
    (first
      | (go_at_call 30; go_loud (refine PR.out.mono ?_; rintro e wA ⟨rfl, hc, hx⟩; have HX := hx; have hkA := KP.out wA hc; clear hx hc))
      | (go_at_call 38; go_loud (refine HX.out.mono ?_; rintro e wB ⟨rfl, hc2, hy⟩; have HY := Lib.hid hy; have hkB := KP.out wB hc2; clear hy hc2)))
  go_wp2
  go_ret3
  exact ⟨_, _, rfl, HY.out⟩

set_option maxHeartbeats 4000000 in
theorem does_unlink (p q base N : Nat) (T : Nat → Prop) (v : VS) (x y : ByteArray) (t : Int) (A : Option Addr) (n c : Nat) (bs : List Int) (K : Option Addr) (m d : Nat) (ks : List Bool) (w : World) (h : Two w base T p q v N) (hN : N + 1 ≤ 1000) (ha : ActAt w base ⟨6, x, y, t, A, n, c, bs, K, m, d, ks⟩) :
    Calls Tryz.prog 11 #[.pointer (some ⟨p, 0, none⟩), .pointer (some ⟨q, 0, none⟩), .agg #[.int .i64 6, .string x, .string y, .int .i64 t, .slice A n c, .slice K m d]] w (Did base T (orTick v (v.tick.name ⟨2, x, ⟨#[]⟩, 0⟩)) (N + 1) w) := by
  have hbw := boxW_below (w := w) (k := 6) (t := t) (x := x) (y := y) (A := A) (n := n) (c := c) (K := K) (m := m) (d := d)
  have hb1 : Below w.heap.size w (boxW w 6 x y t A n c K m d).drew := below_drewn hbw 1
  have ha1 := ha.a
  have ha2 := ha.b
  have ha3 := ha.t0
  have ha4 := ha.t1
  have hbb := hb1.mono h.bas
  obtain ⟨E, hE⟩ : ∃ E, E = orStop v (doE v.d.now ⟨2, x, ⟨#[]⟩, 0⟩) := ⟨_, rfl⟩
  have F1 := h.pair hb1 (fun S os hx hg => vunlink_any x ⟨#[]⟩ 0 hx hg (by omega) ha1 (by decide) (by decide)) (fun S2 os wA hx hg hbA => rvunlink_any x hx hg (by omega) ha1)
  rw [← hE] at F1
  have PR := Lib.hid F1
  have KP := Lib.hid (fun wA (hx : Chg T (boxW w 6 x y t A n c K m d).drew wA) => boxW_at (w := w) (k := 6) (t := t) (x := x) (y := y) (A := A) (n := n) (c := c) (K := K) (m := m) (d := d) hx.drew0 (fun ht => by have := (h.foot _ ht).2; omega))
  have HK := Lib.hid (KP.out _ (Chg.refl _ _))
  have hf := boxW_at (w := w) (k := 6) (t := t) (x := x) (y := y) (A := A) (n := n) (c := c) (K := K) (m := m) (d := d) (Chg.refl (fun _ => False) _) (fun h => h)
  obtain ⟨b0, b1, b2, b3, b4, b5⟩ := hf
  clear F1 h hbw hb1 ha ha1 ha2 ha3 ha4 hbb hE
  go_enter Tryz.func11, Tryz.ntmps11
  go_wp2
  go_region_held3 (fun w' => BoxAt w' w.heap.size 6 x y t A n c K m d)
    (first | assumption | exact HK.out)
    (first
      | (go_at_call 31; go_loud (refine PR.out.mono ?_; rintro e wA ⟨rfl, hc, hx⟩; have HX := hx; have hkA := KP.out wA hc; clear hx hc))
      | (go_at_call 39; go_loud (refine HX.out.mono ?_; rintro e wB ⟨rfl, hc2, hy⟩; have HY := Lib.hid hy; have hkB := KP.out wB hc2; clear hy hc2)))
  go_wp2
  go_ret3
  exact ⟨_, _, rfl, HY.out⟩

set_option maxHeartbeats 4000000 in
theorem does_arm (p q base N : Nat) (T : Nat → Prop) (v : VS) (x y : ByteArray) (t : Int) (A : Option Addr) (n c : Nat) (bs : List Int) (K : Option Addr) (m d : Nat) (ks : List Bool) (w : World) (h : Two w base T p q v N) (hN : N + 1 ≤ 1000) (ha : ActAt w base ⟨7, x, y, t, A, n, c, bs, K, m, d, ks⟩) :
    Calls Tryz.prog 11 #[.pointer (some ⟨p, 0, none⟩), .pointer (some ⟨q, 0, none⟩), .agg #[.int .i64 7, .string x, .string y, .int .i64 t, .slice A n c, .slice K m d]] w (Did base T (v.arm t) (N + 1) w) := by
  have hbw := boxW_below (w := w) (k := 7) (t := t) (x := x) (y := y) (A := A) (n := n) (c := c) (K := K) (m := m) (d := d)
  have hb1 : Below w.heap.size w (boxW w 7 x y t A n c K m d) := hbw
  have ha1 := ha.a
  have ha2 := ha.b
  have ha3 := ha.t0
  have ha4 := ha.t1
  have hbb := hb1.mono h.bas
  have F1 := h.pair hb1 (fun S os hx hg => vxarm_any t hx hg ha3 ha4) (fun S2 os wA hx hg hbA => rxarm_any t hx ha3 ha4)
  have PR := Lib.hid F1
  have KP := Lib.hid (fun wA (hx : Chg T (boxW w 7 x y t A n c K m d) wA) => boxW_at (w := w) (k := 7) (t := t) (x := x) (y := y) (A := A) (n := n) (c := c) (K := K) (m := m) (d := d) hx (fun ht => by have := (h.foot _ ht).2; omega))
  have HK := Lib.hid (KP.out _ (Chg.refl _ _))
  have hf := boxW_at (w := w) (k := 7) (t := t) (x := x) (y := y) (A := A) (n := n) (c := c) (K := K) (m := m) (d := d) (Chg.refl (fun _ => False) _) (fun h => h)
  obtain ⟨b0, b1, b2, b3, b4, b5⟩ := hf
  clear F1 h hbw hb1 ha ha1 ha2 ha3 ha4 hbb
  go_enter Tryz.func11, Tryz.ntmps11
  go_wp2_with (first
      | (go_at_call 25; go_loud (refine PR.out.mono ?_; rintro e wA ⟨rfl, hc, hx⟩; have HX := hx; obtain ⟨a0, a1, a2, a3, a4, a5⟩ := KP.out wA hc; clear hx hc))
      | (go_at_call 40; go_loud (refine HX.out.mono ?_; rintro e wB ⟨rfl, hc2, hy⟩; have HY := Lib.hid hy; have hkB := KP.out wB hc2; clear hy hc2)))
  go_ret3
  exact ⟨_, _, rfl, HY.out⟩

set_option maxHeartbeats 4000000 in
theorem does_crash (p q base N : Nat) (T : Nat → Prop) (v : VS) (k : Int) (x y : ByteArray) (t : Int) (A : Option Addr) (n c : Nat) (bs : List Int) (K : Option Addr) (m d : Nat) (ks : List Bool) (w : World) (h : Two w base T p q v N) (hN : N + 1 ≤ 1000) (ha : ActAt w base ⟨k, x, y, t, A, n, c, bs, K, m, d, ks⟩) (q0 : (k == 0) = false) (q1 : (k == 1) = false) (q2 : (k == 2) = false) (q3 : (k == 3) = false) (q4 : (k == 4) = false) (q5 : (k == 5) = false) (q6 : (k == 6) = false) (q7 : (k == 7) = false) :
    Calls Tryz.prog 11 #[.pointer (some ⟨p, 0, none⟩), .pointer (some ⟨q, 0, none⟩), .agg #[.int .i64 k, .string x, .string y, .int .i64 t, .slice A n c, .slice K m d]] w (Did base T (v.crash ks) (N + 1) w) := by
  have hbw := boxW_below (w := w) (k := k) (t := t) (x := x) (y := y) (A := A) (n := n) (c := c) (K := K) (m := m) (d := d)
  have hb1 : Below w.heap.size w (boxW w k x y t A n c K m d).drew := below_drewn hbw 1
  have ha1 := ha.a
  have ha2 := ha.b
  have ha3 := ha.t0
  have ha4 := ha.t1
  have hbb := hb1.mono h.bas
  have F1 := h.crash K m d ks (by omega) hb1 (ha.ks.below hbb) ha.md ha.dc
  have PR := Lib.hid F1
  have KP := Lib.hid (fun wA (hx : Chg T (boxW w k x y t A n c K m d).drew wA) => boxW_at (w := w) (k := k) (t := t) (x := x) (y := y) (A := A) (n := n) (c := c) (K := K) (m := m) (d := d) hx.drew0 (fun ht => by have := (h.foot _ ht).2; omega))
  have HK := Lib.hid (KP.out _ (Chg.refl _ _))
  have hf := boxW_at (w := w) (k := k) (t := t) (x := x) (y := y) (A := A) (n := n) (c := c) (K := K) (m := m) (d := d) (Chg.refl (fun _ => False) _) (fun h => h)
  obtain ⟨b0, b1, b2, b3, b4, b5⟩ := hf
  clear F1 h hbw hb1 ha ha1 ha2 ha3 ha4 hbb
  go_enter Tryz.func11, Tryz.ntmps11
  go_wp2
  go_region_held3 (fun w' => BoxAt w' w.heap.size k x y t A n c K m d)
    (first | assumption | exact HK.out)
    (first
      | (go_at_call 19; go_loud (refine PR.out.mono ?_; rintro e wA ⟨P, rfl, hc, hx⟩; have HX := hx; have hkA := KP.out wA hc; clear hx hc))
      | (go_at_call 41; go_loud (refine HX.out.mono ?_; rintro e wB ⟨Q, rfl, hc, hy⟩; have HY := Lib.hid hy; have hkB := KP.out wB hc; clear hy hc)))
  go_wp2
  go_ret3
  exact ⟨_, _, rfl, HY.out.more (Nat.le_succ _)⟩

theorem does_any (p q base N : Nat) (T : Nat → Prop) (v : VS) (a : Act8) (w : World) (h : Two w base T p q v N) (hN : N + 1 ≤ 1000) (ha : ActAt w base a) :
    Calls Tryz.prog 11 #[.pointer (some ⟨p, 0, none⟩), .pointer (some ⟨q, 0, none⟩), .agg #[.int .i64 a.kind, .string a.a, .string a.b, .int .i64 a.at_, .slice a.A a.n a.c, .slice a.K a.m a.d]] w (Did base T (actV v a) (N + 1) w) := by
  obtain ⟨k, x, y, t, A, n, c, bs, K, m, d, ks⟩ := a
  by_cases k0 : k = 0
  · subst k0; exact does_create p q base N T v x y t A n c bs K m d ks w h hN ha
  by_cases k1 : k = 1
  · subst k1; exact does_write p q base N T v x y t A n c bs K m d ks w h hN ha
  by_cases k2 : k = 2
  · subst k2; exact does_trunc p q base N T v x y t A n c bs K m d ks w h hN ha
  by_cases k3 : k = 3
  · subst k3; exact does_sync p q base N T v x y t A n c bs K m d ks w h hN ha
  by_cases k4 : k = 4
  · subst k4; exact does_syncdir p q base N T v x y t A n c bs K m d ks w h hN ha
  by_cases k5 : k = 5
  · subst k5; exact does_rename p q base N T v x y t A n c bs K m d ks w h hN ha
  by_cases k6 : k = 6
  · subst k6; exact does_unlink p q base N T v x y t A n c bs K m d ks w h hN ha
  by_cases k7 : k = 7
  · subst k7; exact does_arm p q base N T v x y t A n c bs K m d ks w h hN ha
  rw [show actV v ⟨k, x, y, t, A, n, c, bs, K, m, d, ks⟩ = v.crash ks by unfold actV; simp only; rw [if_neg k0, if_neg k1, if_neg k2, if_neg k3, if_neg k4, if_neg k5, if_neg k6, if_neg k7]]
  exact does_crash p q base N T v k x y t A n c bs K m d ks w h hN ha (by simpa using k0) (by simpa using k1) (by simpa using k2) (by simpa using k3) (by simpa using k4) (by simpa using k5) (by simpa using k6) (by simpa using k7)

end Go.Proofs.YtclglbddibjenaaGreat
