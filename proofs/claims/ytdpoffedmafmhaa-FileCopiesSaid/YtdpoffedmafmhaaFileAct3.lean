/-
  LAYER 6: WHAT does DOES: an act, done to both files.
-/
import Derived.Test.YtdpoffedmafmhaaFileAct2
import Derived.Deep.RegionHeld3
set_option linter.unusedVariables false
set_option linter.unusedSimpArgs false
namespace Go.Proofs.Ytdpoffedmafmhaa
open Go.RowKit

/-- What a walk knows of an act. -/
structure ActAt (w : World) (base : Nat) (a : ActM) : Prop where
  k0 : -9223372036854775808 ≤ a.kind
  k1 : a.kind ≤ 9223372036854775807
  a0 : -9223372036854775808 ≤ a.at_
  a1 : a.at_ ≤ 9223372036854775807
  bs : Reads w base 1 a.A a.n (cellsOf .u8 a.bs)
  nc : a.n ≤ a.c
  cc : a.c ≤ 9223372036854775807
  by_ : AreB a.bs
  ks : Reads w base 1 a.K a.m (cellsB a.ks)
  md : a.m ≤ a.d
  dc : a.d ≤ 9223372036854775807

theorem ActAt.of {w0 w : World} {a : ActM} (h : ActOk w0 a) (hb : Below w0.heap.size w0 w) : ActAt w w0.heap.size a := by
  have b1 := bounds_i64 h.kind
  have b2 := bounds_i64 h.at_
  exact ⟨b1.1, b1.2, b2.1, b2.2, h.bs.reads.below hb, h.bs.le, h.bs.cap, fun z hz => wf_u8_bd (h.bs.wf z hz), h.ks.reads.below hb, h.ks.le, h.ks.cap⟩

/-- Both files behind an act, each at a place of its own. -/
def Did (base : Nat) (T : Nat → Prop) (s : FS) (w : World) (e : Ending) (w' : World) : Prop :=
  ∃ p q, e = .returned (.tuple #[.pointer (some ⟨p, 0, none⟩), .pointer (some ⟨q, 0, none⟩), .bool true]) ∧ Turn base T p q s s w w'

theorem lightB_n {a : ActM} (h : lightB a = true) : a.n ≤ 400 ∧ a.m ≤ 200 := by
  unfold lightB at h; simp at h; exact ⟨h.1.1, h.1.2⟩

set_option maxHeartbeats 2000000 in
theorem does_write (p q : Nat) (base : Nat) (T : Nat → Prop) (s : FS) (N : Nat) (at_ : Int) (A : Option Addr) (n c : Nat) (bs : List Int) (K : Option Addr) (m d : Nat) (ks : List Bool) (w : World) (h : Two w base T p q s s) (hg : s.Good N) (hN : N ≤ 900000) (ha : ActAt w base ⟨0, at_, A, n, c, bs, K, m, d, ks⟩) (hn : n ≤ 400) :
    Calls Try.prog 9 #[.pointer (some ⟨p, 0, none⟩), .pointer (some ⟨q, 0, none⟩), .agg #[.int .i64 0, .int .i64 at_, .slice A n c, .slice K m d]] w (Did base T (s.writeI at_ bs) w) := by
  obtain ⟨wb, hwb⟩ : ∃ wb, wb = w.alloc (.cells #[.int .i64 0, .int .i64 at_, .slice A n c, .slice K m d] 34) := ⟨_, rfl⟩
  have hbw : Below w.heap.size w wb := by rw [hwb]; exact (Below.refl _ _).alloc (Nat.le_refl _) _
  have hb2 : Two wb base T p q s s := h.below hbw
  have h1 : Two wb.drew base T p q s s := hb2.drewN 1
  have ha0 := ha.a0
  have ha1 := ha.a1
  have KP := Lib.hid (fun wA (hx : Chg T wb.drew wA) => box_new w ⟨0, at_, A, n, c, bs, K, m, d, ks⟩ (w' := wA) (T := T) (by rw [← hwb]; exact hx.drew0) (fun ht => by have := (h.foot _ ht).2; omega))
  have hk0 := KP.out wb.drew (Chg.refl _ _)
  have hnc := ha.nc
  have hcc := ha.cc
  have hrb : Reads wb.drew base 1 A n (cellsOf .u8 bs) := (ha.bs.below (hbw.mono h.bas)).drew
  have F1 := Lib.hid (two_fwrite at_ A n c bs h1 hrb hnc hcc ha0 ha1 (by omega) hg hN)
  have R1 := Lib.hid (fun wA (hx : Turn base T p q (s.writeI at_ bs) s wb.drew wA) => two_rwrite at_ A n c bs hx h1.foot h1.bas hrb hnc hcc ha0 ha1 (by omega) hg hN)
  clear hrb
  have HH := Lib.hid h
  have HB := Lib.hid hbw
  have HWB := Lib.hid hwb
  rw [hwb] at F1 R1 KP HB hk0
  clear h1 h hbw ha hwb hb2
  go_enter Try.func9, Try.ntmps9
  go_wp2
  go_region_held3 (fun w' => w'.cell? ⟨w.heap.size, 1, none⟩ = some (.int .i64 at_) ∧ w'.cell? ⟨w.heap.size, 2, none⟩ = some (.slice A n c) ∧ w'.cell? ⟨w.heap.size, 3, none⟩ = some (.slice K m d))
    (first | assumption)
    (first
      | (go_at_call 18; refine F1.out.mono ?_; rintro e wA ⟨rfl, hx⟩; have HX := Lib.hid hx; have hkA := KP.out wA hx.1; clear hx)
      | (go_at_call 20; refine (R1.out wA HX.out).mono ?_; rintro e wB ⟨rfl, hy⟩; have HY := Lib.hid hy; have hkB := KP.out wB hy.1; clear hy))
  go_wp2
  go_ret3
  exact ⟨_, _, rfl, Turn.later HH.out (below_drewn HB.out 1) HY.out⟩

set_option maxHeartbeats 2000000 in
theorem does_trunc (p q : Nat) (base : Nat) (T : Nat → Prop) (s : FS) (N : Nat) (at_ : Int) (A : Option Addr) (n c : Nat) (bs : List Int) (K : Option Addr) (m d : Nat) (ks : List Bool) (w : World) (h : Two w base T p q s s) (hg : s.Good N) (hN : N ≤ 900000) (ha : ActAt w base ⟨1, at_, A, n, c, bs, K, m, d, ks⟩) (hn : n ≤ 400) :
    Calls Try.prog 9 #[.pointer (some ⟨p, 0, none⟩), .pointer (some ⟨q, 0, none⟩), .agg #[.int .i64 1, .int .i64 at_, .slice A n c, .slice K m d]] w (Did base T (s.truncI at_) w) := by
  obtain ⟨wb, hwb⟩ : ∃ wb, wb = w.alloc (.cells #[.int .i64 1, .int .i64 at_, .slice A n c, .slice K m d] 34) := ⟨_, rfl⟩
  have hbw : Below w.heap.size w wb := by rw [hwb]; exact (Below.refl _ _).alloc (Nat.le_refl _) _
  have hb2 : Two wb base T p q s s := h.below hbw
  have h1 : Two wb.drew base T p q s s := hb2.drewN 1
  have ha0 := ha.a0
  have ha1 := ha.a1
  have KP := Lib.hid (fun wA (hx : Chg T wb.drew wA) => box_new w ⟨1, at_, A, n, c, bs, K, m, d, ks⟩ (w' := wA) (T := T) (by rw [← hwb]; exact hx.drew0) (fun ht => by have := (h.foot _ ht).2; omega))
  have hk0 := KP.out wb.drew (Chg.refl _ _)
  have F1 := Lib.hid (two_ftrunc at_ h1 ha0 ha1 hg hN)
  have R1 := Lib.hid (fun wA (hx : Turn base T p q (s.truncI at_) s wb.drew wA) => two_rtrunc at_ hx h1.foot h1.bas ha0 ha1 hg hN)
  have HH := Lib.hid h
  have HB := Lib.hid hbw
  have HWB := Lib.hid hwb
  rw [hwb] at F1 R1 KP HB hk0
  clear h1 h hbw ha hwb hb2
  go_enter Try.func9, Try.ntmps9
  go_wp2
  go_region_held3 (fun w' => w'.cell? ⟨w.heap.size, 1, none⟩ = some (.int .i64 at_) ∧ w'.cell? ⟨w.heap.size, 2, none⟩ = some (.slice A n c) ∧ w'.cell? ⟨w.heap.size, 3, none⟩ = some (.slice K m d))
    (first | assumption)
    (first
      | (go_at_call 19; refine F1.out.mono ?_; rintro e wA ⟨rfl, hx⟩; have HX := Lib.hid hx; have hkA := KP.out wA hx.1; clear hx)
      | (go_at_call 21; refine (R1.out wA HX.out).mono ?_; rintro e wB ⟨rfl, hy⟩; have HY := Lib.hid hy; have hkB := KP.out wB hy.1; clear hy))
  go_wp2
  go_ret3
  exact ⟨_, _, rfl, Turn.later HH.out (below_drewn HB.out 1) HY.out⟩

set_option maxHeartbeats 2000000 in
theorem does_sync (p q : Nat) (base : Nat) (T : Nat → Prop) (s : FS) (N : Nat) (at_ : Int) (A : Option Addr) (n c : Nat) (bs : List Int) (K : Option Addr) (m d : Nat) (ks : List Bool) (w : World) (h : Two w base T p q s s) (hg : s.Good N) (hN : N ≤ 900000) (ha : ActAt w base ⟨2, at_, A, n, c, bs, K, m, d, ks⟩) (hn : n ≤ 400) :
    Calls Try.prog 9 #[.pointer (some ⟨p, 0, none⟩), .pointer (some ⟨q, 0, none⟩), .agg #[.int .i64 2, .int .i64 at_, .slice A n c, .slice K m d]] w (Did base T (s.sync) w) := by
  obtain ⟨wb, hwb⟩ : ∃ wb, wb = w.alloc (.cells #[.int .i64 2, .int .i64 at_, .slice A n c, .slice K m d] 34) := ⟨_, rfl⟩
  have hbw : Below w.heap.size w wb := by rw [hwb]; exact (Below.refl _ _).alloc (Nat.le_refl _) _
  have hb2 : Two wb base T p q s s := h.below hbw
  have h1 : Two wb.drew base T p q s s := hb2.drewN 1
  have ha0 := ha.a0
  have ha1 := ha.a1
  have KP := Lib.hid (fun wA (hx : Chg T wb.drew wA) => box_new w ⟨2, at_, A, n, c, bs, K, m, d, ks⟩ (w' := wA) (T := T) (by rw [← hwb]; exact hx.drew0) (fun ht => by have := (h.foot _ ht).2; omega))
  have hk0 := KP.out wb.drew (Chg.refl _ _)
  have F1 := Lib.hid (two_fsync hb2 hg)
  have R1 := Lib.hid (fun wA (hx : Turn base T p q s.sync s wb wA) => two_rsync hx hb2.foot hb2.bas hg)
  have HH := Lib.hid h
  have HB := Lib.hid hbw
  have HWB := Lib.hid hwb
  rw [hwb] at F1 R1 KP HB hk0
  clear h1 h hbw ha hwb hb2
  go_enter Try.func9, Try.ntmps9
  go_wp2_with (first
    | (go_at_call 15; refine F1.out.mono ?_; rintro e wA ⟨rfl, hx⟩; have HX := Lib.hid hx; clear hx)
    | (go_at_call 22; refine (R1.out wA HX.out).mono ?_; rintro e wB ⟨rfl, hy⟩; have HY := Lib.hid hy; clear hy))
  go_ret3
  exact ⟨_, _, rfl, Turn.later HH.out HB.out HY.out⟩

set_option maxHeartbeats 2000000 in
theorem does_crash (p q : Nat) (base : Nat) (T : Nat → Prop) (s : FS) (N : Nat) (kind : Int) (at_ : Int) (A : Option Addr) (n c : Nat) (bs : List Int) (K : Option Addr) (m d : Nat) (ks : List Bool) (w : World) (h : Two w base T p q s s) (hg : s.Good N) (hN : N ≤ 900000) (ha : ActAt w base ⟨kind, at_, A, n, c, bs, K, m, d, ks⟩) (hn : n ≤ 400) (q0 : (kind == 0) = false) (q1 : (kind == 1) = false) (q2 : (kind == 2) = false) :
    Calls Try.prog 9 #[.pointer (some ⟨p, 0, none⟩), .pointer (some ⟨q, 0, none⟩), .agg #[.int .i64 kind, .int .i64 at_, .slice A n c, .slice K m d]] w (Did base T (s.crash ks) w) := by
  obtain ⟨wb, hwb⟩ : ∃ wb, wb = w.alloc (.cells #[.int .i64 kind, .int .i64 at_, .slice A n c, .slice K m d] 34) := ⟨_, rfl⟩
  have hbw : Below w.heap.size w wb := by rw [hwb]; exact (Below.refl _ _).alloc (Nat.le_refl _) _
  have hb2 : Two wb base T p q s s := h.below hbw
  have h1 : Two wb.drew base T p q s s := hb2.drewN 1
  have ha0 := ha.a0
  have ha1 := ha.a1
  have KP := Lib.hid (fun wA (hx : Chg T wb.drew wA) => box_new w ⟨kind, at_, A, n, c, bs, K, m, d, ks⟩ (w' := wA) (T := T) (by rw [← hwb]; exact hx.drew0) (fun ht => by have := (h.foot _ ht).2; omega))
  have hk0 := KP.out wb.drew (Chg.refl _ _)
  have hmd := ha.md
  have hdc := ha.dc
  have hrk : Reads wb.drew base 1 K m (cellsB ks) := (ha.ks.below (hbw.mono h.bas)).drew
  have F1 := Lib.hid (two_fcrash K m d ks h1 hrk h1.bas hmd hdc hg hN)
  have R1 := Lib.hid (fun wA (hx : Below wb.drew.heap.size wb.drew wA) => two_rcrash K m d ks (h1.below hx) (hrk.below (hx.mono h1.bas)) (Nat.le_trans h1.bas hx.size) hmd hdc hg hN)
  have HT := Lib.hid h1
  rw [hwb] at HT
  clear hrk
  have HH := Lib.hid h
  have HB := Lib.hid hbw
  have HWB := Lib.hid hwb
  rw [hwb] at F1 R1 KP HB hk0
  clear h1 h hbw ha hwb hb2
  go_enter Try.func9, Try.ntmps9
  go_wp2
  go_region_held3 (fun w' => w'.cell? ⟨w.heap.size, 1, none⟩ = some (.int .i64 at_) ∧ w'.cell? ⟨w.heap.size, 2, none⟩ = some (.slice A n c) ∧ w'.cell? ⟨w.heap.size, 3, none⟩ = some (.slice K m d))
    (first | assumption)
    (first
      | (go_at_call 13; refine F1.out.mono ?_; rintro e wA hx; have HX := Lib.hid hx; obtain ⟨pf, nvf, svf, pvf, rfl, hbx, -⟩ := hx; have HBX := Lib.hid hbx; have hkA := KP.out wA (Chg.of_below hbx (Nat.le_refl _) T); clear hbx)
      | (go_at_call 23; refine (R1.out wA HBX.out).mono ?_; rintro e wB hy; obtain ⟨p', q', e1, e2, hy2⟩ := HT.out.fresh HX.out hy; subst e2; have HY := Lib.hid hy2; have HE := Lib.hid e1; have hkB := KP.out wB hy2.1; clear hy hy2 e1))
  go_wp2
  go_ret3
  have he := HE.out
  injection he with he
  injection he with he
  injection he with he
  injection he with he
  subst he
  exact ⟨_, _, rfl, Turn.later HH.out (below_drewn HB.out 1) HY.out⟩

theorem does_any (p q : Nat) (base : Nat) (T : Nat → Prop) (s : FS) (N : Nat) (a : ActM) (w : World) (h : Two w base T p q s s) (hg : s.Good N) (hN : N ≤ 900000) (ha : ActAt w base a) (hl : lightB a = true) :
    Calls Try.prog 9 #[.pointer (some ⟨p, 0, none⟩), .pointer (some ⟨q, 0, none⟩), .agg #[.int .i64 a.kind, .int .i64 a.at_, .slice a.A a.n a.c, .slice a.K a.m a.d]] w (Did base T (s.act a) w) := by
  have hn := (lightB_n hl).1
  obtain ⟨kind, at_, A, n, c, bs, K, m, d, ks⟩ := a
  by_cases k0 : kind = 0
  · subst k0; exact does_write p q base T s N at_ A n c bs K m d ks w h hg hN ha hn
  · by_cases k1 : kind = 1
    · subst k1; exact does_trunc p q base T s N at_ A n c bs K m d ks w h hg hN ha hn
    · by_cases k2 : kind = 2
      · subst k2; exact does_sync p q base T s N at_ A n c bs K m d ks w h hg hN ha hn
      · rw [show s.act ⟨kind, at_, A, n, c, bs, K, m, d, ks⟩ = s.crash ks by unfold FS.act; rw [if_neg k0, if_neg k1, if_neg k2]]
        exact does_crash p q base T s N kind at_ A n c bs K m d ks w h hg hN ha hn (by simpa using k0) (by simpa using k1) (by simpa using k2)

end Go.Proofs.Ytdpoffedmafmhaa
