/-
  LAYER 7: WHAT does DOES: an act, done to both directories.
-/
import Derived.Test.YtakjiklpfddooaaDirAct
import Derived.Deep.RegionHeld3
set_option linter.unusedVariables false
set_option linter.unusedSimpArgs false
namespace Go.Proofs.Ytakjiklpfddooaa
open Go.RowKit

/-- What a walk knows of an act. -/
structure ActAt (w : World) (base : Nat) (t : ActD) : Prop where
  k0 : -9223372036854775808 ≤ t.kind
  k1 : t.kind ≤ 9223372036854775807
  a : t.a.size ≤ 200
  b : t.b.size ≤ 200
  id : (Lit.int .i64 t.id).wf = true
  ks : Reads w base 1 t.K t.m (cellsB t.ks)
  md : t.m ≤ t.d
  dc : t.d ≤ 9223372036854775807

theorem ActAt.of {w0 w : World} {a : ActD} (h : ActDOk w0 a) (hl : lightB a = true) (hb : Below w0.heap.size w0 w) : ActAt w w0.heap.size a := by
  have b1 := bounds_i64 h.kind
  obtain ⟨l1, l2, -⟩ := lightB_n hl
  exact ⟨b1.1, b1.2, l1, l2, h.id, h.ks.reads.below hb, h.ks.le, h.ks.cap⟩

/-- Both directories behind an act, each at a place of its own. -/
def Did (base : Nat) (T : Nat → Prop) (s : DB) (w : World) (e : Ending) (w' : World) : Prop :=
  ∃ p q, e = .returned (.tuple #[.pointer (some ⟨p, 0, none⟩), .pointer (some ⟨q, 0, none⟩), .bool true]) ∧ Turn base T p q s s w w'

/-- The act's box, and the op's. -/
abbrev boxW (w : World) (k : Int) (x y : ByteArray) (i : Int) (K : Option Addr) (m d : Nat) : World := (w.alloc (.cells #[.int .i64 k, .string x, .string y, .int .i64 i, .slice K m d] 34)).alloc (.cells #[.int .i64 k, .string x, .string y, .int .i64 i] 59)
abbrev BoxAt (w' : World) (h : Nat) (k : Int) (x y : ByteArray) (i : Int) (K : Option Addr) (m d : Nat) : Prop :=
  w'.cell? ⟨h, 0, none⟩ = some (.int .i64 k) ∧ w'.cell? ⟨h, 1, none⟩ = some (.string x) ∧ w'.cell? ⟨h, 2, none⟩ = some (.string y) ∧ w'.cell? ⟨h, 3, none⟩ = some (.int .i64 i) ∧ w'.cell? ⟨h, 4, none⟩ = some (.slice K m d) ∧
  w'.cell? ⟨h + 1, 0, none⟩ = some (.int .i64 k) ∧ w'.cell? ⟨h + 1, 1, none⟩ = some (.string x) ∧ w'.cell? ⟨h + 1, 2, none⟩ = some (.string y) ∧ w'.cell? ⟨h + 1, 3, none⟩ = some (.int .i64 i)
section
variable {w w' : World} {k i : Int} {x y : ByteArray} {K : Option Addr} {m d : Nat} {T : Nat → Prop}
theorem boxW_size : (boxW w k x y i K m d).heap.size = w.heap.size + 2 := by simp [boxW]
theorem boxW_below : Below w.heap.size w (boxW w k x y i K m d) := ((Below.refl _ _).alloc (Nat.le_refl _) _).alloc (by simp) _
theorem boxW_at (hc : Chg T (boxW w k x y i K m d) w') (h1 : ¬ T w.heap.size) (h2 : ¬ T (w.heap.size + 1)) : BoxAt w' w.heap.size k x y i K m d := by
  have a1 := ((Blk.new w 34 #[.int .i64 k, .string x, .string y, .int .i64 i, .slice K m d]).alloc (.cells #[.int .i64 k, .string x, .string y, .int .i64 i] 59)).chg hc h1
  have hs : (w.alloc (.cells #[.int .i64 k, .string x, .string y, .int .i64 i, .slice K m d] 34)).heap.size = w.heap.size + 1 := by simp
  have a2 := Blk.new (w.alloc (.cells #[.int .i64 k, .string x, .string y, .int .i64 i, .slice K m d] 34)) 59 #[.int .i64 k, .string x, .string y, .int .i64 i]
  rw [hs] at a2
  have a3 := a2.chg hc h2
  exact ⟨a1.cell 0, a1.cell 1, a1.cell 2, a1.cell 3, a1.cell 4, a3.cell 0, a3.cell 1, a3.cell 2, a3.cell 3⟩
end

set_option maxHeartbeats 4000000 in
set_option maxRecDepth 100000 in
theorem does_create (p q : Nat) (base N : Nat) (T : Nat → Prop) (s : DB) (x y : ByteArray) (id : Int) (K : Option Addr) (m d : Nat) (ks : List Bool) (w : World) (h : Two w base T p q s s) (hg : GoodD s N) (hN : N ≤ 900000) (ha : ActAt w base ⟨0, x, y, id, K, m, d, ks⟩) :
    Calls Try.prog 9 #[.pointer (some ⟨p, 0, none⟩), .pointer (some ⟨q, 0, none⟩), .agg #[.int .i64 0, .string x, .string y, .int .i64 id, .slice K m d]] w (Did base T (doS s ⟨0, x, y, id⟩) w) := by
  have hok : OkO ⟨0, x, y, id⟩ := ⟨ha.a, ha.b, ha.id, .inl rfl⟩
  have hz := boxW_size (w := w) (k := 0) (i := id) (x := x) (y := y) (K := K) (m := m) (d := d)
  have hbw := boxW_below (w := w) (k := 0) (i := id) (x := x) (y := y) (K := K) (m := m) (d := d)
  have h1 : Two (boxW w 0 x y id K m d).drew base T p q s s := (h.below hbw).drewN 1
  have KP := Lib.hid (fun wA (hx : Chg T (boxW w 0 x y id K m d).drew wA) => boxW_at hx.drew0 (fun ht => by have := (h.foot _ ht).2; omega) (fun ht => by have := (h.foot _ ht).2; omega))
  have HK := Lib.hid (KP.out _ (Chg.refl _ _))
  have F1 := Lib.hid (two_create h1 hg hN hok)
  have R1 := Lib.hid (fun wA (hx : Turn base T p q (doS s ⟨0, x, y, id⟩) s (boxW w 0 x y id K m d).drew wA) => two_do hx h1.foot h1.bas hg hN hok)
  have HH := Lib.hid h
  have HB := Lib.hid (below_drewn hbw 1)
  have hf := boxW_at (w := w) (k := 0) (i := id) (x := x) (y := y) (K := K) (m := m) (d := d) (Chg.refl (fun _ => False) _) (fun h => h) (fun h => h)
  obtain ⟨b0, b1, b2, b3, b4, c0, c1, c2, c3⟩ := hf
  clear h1 h hbw ha hz hok hg
  go_enter Try.func9, Try.ntmps9
  go_wp2
  go_region_held3 (fun w' => BoxAt w' w.heap.size 0 x y id K m d)
    (first | assumption | exact HK.out)
    (first
      | (go_at_call 19; go_loud (refine F1.out.mono ?_; rintro e wA ⟨rfl, hx⟩; have HX := Lib.hid hx; have hkA := KP.out wA hx.1; clear hx))
      | (go_at_call 23; go_loud (refine (R1.out wA HX.out).mono ?_; rintro e wB ⟨rfl, hy⟩; have HY := Lib.hid hy; have hkB := KP.out wB hy.1; clear hy)))
  go_wp2
  go_ret3
  exact ⟨_, _, rfl, Turn.later HH.out HB.out HY.out⟩

set_option maxHeartbeats 4000000 in
set_option maxRecDepth 100000 in
theorem does_rename (p q : Nat) (base N : Nat) (T : Nat → Prop) (s : DB) (x y : ByteArray) (id : Int) (K : Option Addr) (m d : Nat) (ks : List Bool) (w : World) (h : Two w base T p q s s) (hg : GoodD s N) (hN : N ≤ 900000) (ha : ActAt w base ⟨1, x, y, id, K, m, d, ks⟩) :
    Calls Try.prog 9 #[.pointer (some ⟨p, 0, none⟩), .pointer (some ⟨q, 0, none⟩), .agg #[.int .i64 1, .string x, .string y, .int .i64 id, .slice K m d]] w (Did base T (doS s ⟨1, x, y, id⟩) w) := by
  have hok : OkO ⟨1, x, y, id⟩ := ⟨ha.a, ha.b, ha.id, .inr (.inl rfl)⟩
  have hz := boxW_size (w := w) (k := 1) (i := id) (x := x) (y := y) (K := K) (m := m) (d := d)
  have hbw := boxW_below (w := w) (k := 1) (i := id) (x := x) (y := y) (K := K) (m := m) (d := d)
  have h1 : Two (boxW w 1 x y id K m d).drew base T p q s s := (h.below hbw).drewN 1
  have KP := Lib.hid (fun wA (hx : Chg T (boxW w 1 x y id K m d).drew wA) => boxW_at hx.drew0 (fun ht => by have := (h.foot _ ht).2; omega) (fun ht => by have := (h.foot _ ht).2; omega))
  have HK := Lib.hid (KP.out _ (Chg.refl _ _))
  have F1 := Lib.hid (two_rename h1 hg hN hok)
  have R1 := Lib.hid (fun wA (hx : Turn base T p q (doS s ⟨1, x, y, id⟩) s (boxW w 1 x y id K m d).drew wA) => two_do hx h1.foot h1.bas hg hN hok)
  have HH := Lib.hid h
  have HB := Lib.hid (below_drewn hbw 1)
  have hf := boxW_at (w := w) (k := 1) (i := id) (x := x) (y := y) (K := K) (m := m) (d := d) (Chg.refl (fun _ => False) _) (fun h => h) (fun h => h)
  obtain ⟨b0, b1, b2, b3, b4, c0, c1, c2, c3⟩ := hf
  clear h1 h hbw ha hz hok hg
  go_enter Try.func9, Try.ntmps9
  go_wp2
  go_region_held3 (fun w' => BoxAt w' w.heap.size 1 x y id K m d)
    (first | assumption | exact HK.out)
    (first
      | (go_at_call 20; go_loud (refine F1.out.mono ?_; rintro e wA ⟨rfl, hx⟩; have HX := Lib.hid hx; have hkA := KP.out wA hx.1; clear hx))
      | (go_at_call 23; go_loud (refine (R1.out wA HX.out).mono ?_; rintro e wB ⟨rfl, hy⟩; have HY := Lib.hid hy; have hkB := KP.out wB hy.1; clear hy)))
  go_wp2
  go_ret3
  exact ⟨_, _, rfl, Turn.later HH.out HB.out HY.out⟩

set_option maxHeartbeats 4000000 in
set_option maxRecDepth 100000 in
theorem does_unlink (p q : Nat) (base N : Nat) (T : Nat → Prop) (s : DB) (x y : ByteArray) (id : Int) (K : Option Addr) (m d : Nat) (ks : List Bool) (w : World) (h : Two w base T p q s s) (hg : GoodD s N) (hN : N ≤ 900000) (ha : ActAt w base ⟨2, x, y, id, K, m, d, ks⟩) :
    Calls Try.prog 9 #[.pointer (some ⟨p, 0, none⟩), .pointer (some ⟨q, 0, none⟩), .agg #[.int .i64 2, .string x, .string y, .int .i64 id, .slice K m d]] w (Did base T (doS s ⟨2, x, y, id⟩) w) := by
  have hok : OkO ⟨2, x, y, id⟩ := ⟨ha.a, ha.b, ha.id, .inr (.inr rfl)⟩
  have hz := boxW_size (w := w) (k := 2) (i := id) (x := x) (y := y) (K := K) (m := m) (d := d)
  have hbw := boxW_below (w := w) (k := 2) (i := id) (x := x) (y := y) (K := K) (m := m) (d := d)
  have h1 : Two (boxW w 2 x y id K m d).drew base T p q s s := (h.below hbw).drewN 1
  have KP := Lib.hid (fun wA (hx : Chg T (boxW w 2 x y id K m d).drew wA) => boxW_at hx.drew0 (fun ht => by have := (h.foot _ ht).2; omega) (fun ht => by have := (h.foot _ ht).2; omega))
  have HK := Lib.hid (KP.out _ (Chg.refl _ _))
  have F1 := Lib.hid (two_unlink h1 hg hN hok)
  have R1 := Lib.hid (fun wA (hx : Turn base T p q (doS s ⟨2, x, y, id⟩) s (boxW w 2 x y id K m d).drew wA) => two_do hx h1.foot h1.bas hg hN hok)
  have HH := Lib.hid h
  have HB := Lib.hid (below_drewn hbw 1)
  have hf := boxW_at (w := w) (k := 2) (i := id) (x := x) (y := y) (K := K) (m := m) (d := d) (Chg.refl (fun _ => False) _) (fun h => h) (fun h => h)
  obtain ⟨b0, b1, b2, b3, b4, c0, c1, c2, c3⟩ := hf
  clear h1 h hbw ha hz hok hg
  go_enter Try.func9, Try.ntmps9
  go_wp2
  go_region_held3 (fun w' => BoxAt w' w.heap.size 2 x y id K m d)
    (first | assumption | exact HK.out)
    (first
      | (go_at_call 21; go_loud (refine F1.out.mono ?_; rintro e wA ⟨rfl, hx⟩; have HX := Lib.hid hx; have hkA := KP.out wA hx.1; clear hx))
      | (go_at_call 23; go_loud (refine (R1.out wA HX.out).mono ?_; rintro e wB ⟨rfl, hy⟩; have HY := Lib.hid hy; have hkB := KP.out wB hy.1; clear hy)))
  go_wp2
  go_ret3
  exact ⟨_, _, rfl, Turn.later HH.out HB.out HY.out⟩

set_option maxHeartbeats 4000000 in
set_option maxRecDepth 100000 in
theorem does_sync (p q : Nat) (base N : Nat) (T : Nat → Prop) (s : DB) (x y : ByteArray) (id : Int) (K : Option Addr) (m d : Nat) (ks : List Bool) (w : World) (h : Two w base T p q s s) (hg : GoodD s N) (hN : N ≤ 900000) (ha : ActAt w base ⟨3, x, y, id, K, m, d, ks⟩) :
    Calls Try.prog 9 #[.pointer (some ⟨p, 0, none⟩), .pointer (some ⟨q, 0, none⟩), .agg #[.int .i64 3, .string x, .string y, .int .i64 id, .slice K m d]] w (Did base T s.sync w) := by
  have hbw := boxW_below (w := w) (k := 3) (i := id) (x := x) (y := y) (K := K) (m := m) (d := d)
  have h1 : Two (boxW w 3 x y id K m d) base T p q s s := h.below hbw
  have F1 := Lib.hid (two_dsync h1 hg hN)
  have R1 := Lib.hid (fun wA (hx : Turn base T p q s.sync s (boxW w 3 x y id K m d) wA) => two_rsync hx h1.foot h1.bas)
  have HH := Lib.hid h
  have HB := Lib.hid hbw
  have hf := boxW_at (w := w) (k := 3) (i := id) (x := x) (y := y) (K := K) (m := m) (d := d) (Chg.refl (fun _ => False) _) (fun h => h) (fun h => h)
  obtain ⟨b0, b1, b2, b3, b4, c0, c1, c2, c3⟩ := hf
  clear h1 h hbw ha hg
  go_enter Try.func9, Try.ntmps9
  go_wp2_with (first
    | (go_at_call 13; go_loud (refine F1.out.mono ?_; rintro e wA ⟨rfl, hx⟩; have HX := Lib.hid hx; clear hx))
    | (go_at_call 24; go_loud (refine (R1.out wA HX.out).mono ?_; rintro e wB ⟨rfl, hy⟩; have HY := Lib.hid hy; clear hy)))
  go_ret3
  exact ⟨_, _, rfl, Turn.later HH.out HB.out HY.out⟩

set_option maxHeartbeats 4000000 in
set_option maxRecDepth 100000 in
theorem does_crash (p q : Nat) (base N : Nat) (T : Nat → Prop) (s : DB) (k : Int) (x y : ByteArray) (id : Int) (K : Option Addr) (m d : Nat) (ks : List Bool) (w : World) (h : Two w base T p q s s) (hg : GoodD s N) (hN : N ≤ 900000) (ha : ActAt w base ⟨k, x, y, id, K, m, d, ks⟩) (q0 : (k == 0) = false) (q1 : (k == 1) = false) (q2 : (k == 2) = false) (q3 : (k == 3) = false) :
    Calls Try.prog 9 #[.pointer (some ⟨p, 0, none⟩), .pointer (some ⟨q, 0, none⟩), .agg #[.int .i64 k, .string x, .string y, .int .i64 id, .slice K m d]] w (Did base T (s.crash cfT ks) w) := by
  have hz := boxW_size (w := w) (k := k) (i := id) (x := x) (y := y) (K := K) (m := m) (d := d)
  have hbw := boxW_below (w := w) (k := k) (i := id) (x := x) (y := y) (K := K) (m := m) (d := d)
  have h1 : Two (boxW w k x y id K m d).drew base T p q s s := (h.below hbw).drewN 1
  have hrk : Reads (boxW w k x y id K m d).drew base 1 K m (cellsB ks) := (ha.ks.below (hbw.mono h.bas)).drew
  have KP := Lib.hid (fun wA (hx : Chg T (boxW w k x y id K m d).drew wA) => boxW_at hx.drew0 (fun ht => by have := (h.foot _ ht).2; omega) (fun ht => by have := (h.foot _ ht).2; omega))
  have HK := Lib.hid (KP.out _ (Chg.refl _ _))
  have F1 := Lib.hid (two_dcrash K m d ks h1 hrk h1.bas ha.md ha.dc hg hN)
  have R1 := Lib.hid (fun (wA : World) (p' bn' bs' : Nat) (pv' : Value) (hx : Below (boxW w k x y id K m d).drew.heap.size (boxW w k x y id K m d).drew wA) (hcd : CD wA base (fun j => (boxW w k x y id K m d).drew.heap.size ≤ j ∧ j < wA.heap.size) p' (s.crash cfT ks) bn' bs' pv') => two_rcrash K m d ks h1 hx hcd hrk h1.bas ha.md ha.dc hg hN)
  have HH := Lib.hid h
  have HB := Lib.hid (below_drewn hbw 1)
  have hf := boxW_at (w := w) (k := k) (i := id) (x := x) (y := y) (K := K) (m := m) (d := d) (Chg.refl (fun _ => False) _) (fun h => h) (fun h => h)
  obtain ⟨b0, b1, b2, b3, b4, c0, c1, c2, c3⟩ := hf
  clear h1 h hbw ha hz hg hrk
  go_enter Try.func9, Try.ntmps9
  go_wp2
  go_region_held3 (fun w' => BoxAt w' w.heap.size k x y id K m d)
    (first | assumption | exact HK.out)
    (first
      | (go_at_call 14; go_loud (refine F1.out.mono ?_; rintro e wA ⟨pf, bnf, bsf, pvf, rfl, hbx, hcd⟩; have HBX := Lib.hid hbx; have HCD := Lib.hid hcd; have hkA := KP.out wA (Chg.of_below hbx (Nat.le_refl _) T); clear hbx hcd))
      | (go_at_call 25; go_loud (refine (R1.out wA _ _ _ _ HBX.out HCD.out).mono ?_; rintro e wB ⟨q', rfl, hy⟩; have HY := Lib.hid hy; have hkB := KP.out wB hy.1; clear hy)))
  go_wp2
  go_ret3
  exact ⟨_, _, rfl, Turn.later HH.out HB.out HY.out⟩

theorem does_any (p q : Nat) (base N : Nat) (T : Nat → Prop) (s : DB) (a : ActD) (w : World) (h : Two w base T p q s s) (hg : GoodD s N) (hN : N ≤ 900000) (ha : ActAt w base a) :
    Calls Try.prog 9 #[.pointer (some ⟨p, 0, none⟩), .pointer (some ⟨q, 0, none⟩), .agg #[.int .i64 a.kind, .string a.a, .string a.b, .int .i64 a.id, .slice a.K a.m a.d]] w (Did base T (actS s a) w) := by
  obtain ⟨k, x, y, id, K, m, d, ks⟩ := a
  by_cases k0 : k = 0
  · subst k0; exact does_create p q base N T s x y id K m d ks w h hg hN ha
  · by_cases k1 : k = 1
    · subst k1; exact does_rename p q base N T s x y id K m d ks w h hg hN ha
    · by_cases k2 : k = 2
      · subst k2; exact does_unlink p q base N T s x y id K m d ks w h hg hN ha
      · by_cases k3 : k = 3
        · subst k3; exact does_sync p q base N T s x y id K m d ks w h hg hN ha
        · rw [show actS s ⟨k, x, y, id, K, m, d, ks⟩ = s.crash cfT ks by unfold actS; simp only; rw [if_neg k0, if_neg k1, if_neg k2, if_neg k3]]
          exact does_crash p q base N T s k x y id K m d ks w h hg hN ha (by simpa using k0) (by simpa using k1) (by simpa using k2) (by simpa using k3)

end Go.Proofs.Ytakjiklpfddooaa
