/-
  LAYER 12: WHAT THE DOCUMENT'S OWN Load AND New OF AN IMAGE DO: contracts.
-/
import Derived.Test.YthdnjjdlhhapbaaImRefP
import Derived.Test.YthdnjjdlhhapbaaImNew
set_option linter.unusedVariables false
set_option maxRecDepth 100000
set_option linter.unusedSimpArgs false
namespace Go.Proofs.Ythdnjjdlhhapbaa
open Go.RowKit

/-- Two rows in the making, apart. -/
structure Duo (w wx : World) (u v : Value) (N M : Nat) (xs ys : List Int) : Prop where
  a : OutB w u N xs wx
  b : OutB w v M ys wx
  ne : ∀ g, u.ownBlock = some g → v.ownBlock ≠ some g
section
variable {w wx wy : World} {u v u' v' : Value} {N M R : Nat} {xs ys zs : List Int}
theorem Duo.below (h : Duo w wx u v N M xs ys) (hb : Below wx.heap.size wx wy) : Duo w wy u v N M xs ys := ⟨h.a.below hb, h.b.below hb, h.ne⟩
theorem Duo.swap (h : Duo w wx u v N M xs ys) : Duo w wx v u M N ys xs := ⟨h.b, h.a, fun g h1 h2 => h.ne g h2 h1⟩
theorem Duo.left (h : Duo w wx u v N M xs ys) (ho : wy.ownsRow w.heap.size 5 1 u' (N + R) (cellsOf .u8 xs ++ cellsOf .u8 zs)) (hg : wx.grownBy wy u.ownBlock) (hat : u'.ownBlock = u.ownBlock ∨ u'.ownBlock = some wx.heap.size) : Duo w wy u' v (N + R) M (xs ++ zs) ys := by
  refine ⟨h.a.app ho hg, ⟨own_chg h.b.own (Chg.of_grown hg) (fun g hg e => h.ne g e hg), own_grown h.a.bel h.a.own (Nat.le_refl _) h.a.bel.size hg⟩, fun g h1 h2 => ?_⟩
  rcases hat with e | e
  · exact h.ne g (by rw [← e]; exact h1) h2
  · rw [e] at h1; injection h1 with h1
    have := (h.b.own.lt g h2).2
    omega
theorem Duo.right (h : Duo w wx u v N M xs ys) (ho : wy.ownsRow w.heap.size 5 1 v' (M + R) (cellsOf .u8 ys ++ cellsOf .u8 zs)) (hg : wx.grownBy wy v.ownBlock) (hat : v'.ownBlock = v.ownBlock ∨ v'.ownBlock = some wx.heap.size) : Duo w wy u v' N (M + R) xs (ys ++ zs) := (h.swap.left ho hg hat).swap
theorem Duo.lit (h : OutB w u N xs wx) : Duo w (wx.alloc (.cells #[] 5)) u (.slice (some ⟨wx.heap.size, 0, none⟩) 0 0) N 0 xs [] :=
  ⟨h.below (boxed _ _), OutB.lit2 h.bel, fun g h1 h2 => by
    have := (h.own.lt g h1).2
    simp [Value.ownBlock] at h2
    omega⟩
end

theorem RX.made {w0 w' : World} {base g lm n : Nat} {i k d f h : Int} {bv wv : Value} {zs : List Int} (hb : base ≤ w0.heap.size) (hw : w0.heap.size ≤ w'.heap.size) (hg : w0.heap.size ≤ g) (hn : n = zs.length)
    (hk : Blk w' g 50 (rimC i k d f h bv wv lm (.slice none 0 0))) (h1 : w'.ownsRow w0.heap.size 5 1 bv n (cellsOf .u8 zs)) (h2 : w'.ownsRow w0.heap.size 5 1 wv n (cellsOf .u8 zs)) :
    RX w' base (fun j => w0.heap.size ≤ j ∧ j < w'.heap.size) g i k d f h ⟨zs, zs, [], lm⟩ bv wv (.slice none 0 0) := by
  subst hn
  exact ⟨fun j hj => ⟨by omega, hj.2⟩, by omega, ⟨hg, hk.lt⟩, hk, own_base h1 hb, own_base h2 hb, World.ownsRow_nil _ _ _ _, fun g hg => h1.lt g hg, fun g hg => h2.lt g hg, fun g hg => by simp [Value.ownBlock] at hg⟩

set_option maxHeartbeats 2000000 in
theorem rload_yes {B base : Nat} (i k d f h : Int) (A : Option Addr) (n c lm : Nat) (zs : List Int) (w : World) (hr : rightH d f = true) (hlt : 256 + 8 * (d + f) ≤ (n : Int)) (hz : Reads w B 1 A n (cellsOf .u8 zs)) (hB : B ≤ w.heap.size) (hl : n ≤ 1099511627776) (hlm : lm ≤ 1048576) (hbas : base ≤ w.heap.size) :
    Calls Try.prog 35 #[hdV i k d f h, .slice A n c, .int .i64 lm] w (RXnew base i k d f h ⟨zs, zs, [], lm⟩ w) := by
  obtain ⟨i0, hi, hz0, hz1, hz2⟩ := info_parts byteInfo
  have R1 := Lib.hid (rhright_any i k d f h)
  have HB0 := Lib.hid (boxed w (.cells #[.int .u64 i, .int .u64 k, .int .i64 d, .int .i64 f, .int .u64 h] 28))
  have HA := Lib.hid (fun wx (hx : Below (w.alloc (.cells #[.int .u64 i, .int .u64 k, .int .i64 d, .int .i64 f, .int .u64 h] 28)).heap.size (w.alloc (.cells #[.int .u64 i, .int .u64 k, .int .i64 d, .int .i64 f, .int .u64 h] 28)) wx) => (hdAt_of hx : HdAt wx w.heap.size i k d f h))
  rw [hr] at R1
  have hbd := rightH_bd hr
  have OB := Lib.hid (fun w1 => rhobjects_any i k d f h w1 (by omega) hbd.2.1 (by omega) hbd.2.2.2)
  obtain ⟨t, ht⟩ : ∃ t, 256 + 8 * (d + f) = t := ⟨_, rfl⟩
  rw [ht] at OB hlt
  have HR := Lib.hid (fun w1 (hb : Below w.heap.size w w1) => (hz.more hB).below hb)
  have HN := Lib.hid hz.len
  have HBAS := Lib.hid hbas
  have t1 : ¬ (n : Int) < t := by omega
  have t2 : ¬ 1048576 < (lm : Int) := by omega
  have k1 : 0 + n ≤ maxLen := by unfold maxLen; omega
  have k2 : (0 + n) * 1 ≤ 140737488355328 := by omega
  clear hr hbd ht hz
  go_enter Try.func35, Try.ntmps35
  go_wp2_with (first
    | (go_at_call 34; refine (R1.out _).mono ?_; rintro e w1 ⟨rfl, hb1⟩; obtain ⟨x0, x1, x2, x3, x4⟩ := HA.out _ hb1)
    | (go_at_call 22; refine (OB.out _).mono ?_; rintro e w2 ⟨rfl, hb2⟩; have hb2 := hb1.trans (hb2.mono hb1.size)))
  have HW : Hid (∀ wx, Below w2.heap.size w2 wx → HdAt wx w.heap.size i k d f h) := fun wx hx => HA.out _ (hb2.trans (hx.mono hb2.size))
  have hbW : Below w.heap.size w w2.drew := below_drewn (HB0.out.trans (hb2.mono HB0.out.size)) 1
  obtain ⟨W, hW⟩ : ∃ W, w2.drew = W := ⟨_, rfl⟩
  have HWD : Hid (∀ wx, Below W.heap.size W wx → HdAt wx w.heap.size i k d f h) := fun wx hx => by
    rw [← hW] at hx
    exact HW.out wx ((below_drewn (Below.refl _ _) 1).trans hx)
  rw [hW] at hbW
  have HRW := Lib.hid (fun wx (hx : Below W.heap.size W wx) => HR.out wx (hbW.trans (hx.mono hbW.size)))
  have La := OutB.lit W
  have Db := Duo.lit La
  have H0 := Lib.hid (HWD.out _ (Below.refl _ _))
  have HSZ : Hid (w.heap.size < W.heap.size) := by have := hb2.size; simp at this; show w.heap.size < _; rw [← hW]; show w.heap.size < w2.heap.size; omega
  clear hb1 hb2 x0 x1 x2 x3 x4
  rw [World.size_alloc] at Db
  have Ha := Lib.hid (HWD.out _ La.bel)
  have Hb := Lib.hid (HWD.out _ Db.a.bel)
  subst hW
  go_region_held3 (fun w' => HdAt w' w.heap.size i k d f h)
    (first | assumption | exact H0.out | exact Ha.out | exact Hb.out | exact HWD.out _ Db.a.bel | exact HWD.out _ (Db.a.bel.alloc Db.a.bel.size _))
    (first
      | (refine step_append_any _ rfl _ _ _ rfl w2.drew.heap.size 5 i0 (.int .u8 0) 1 1 Try.underlying39 hi hz0 hz1 hz2 rfl (Nat.lt_succ_self 0) (.slice (some ⟨_, 0, none⟩) 0 0) 0 [] rfl La.own w.heap.size A n c (cellsOf .u8 zs) rfl (HRW.out _ La.bel) (cellsOf_one _ _) k1 k2 La.bel.size ?_; intro v3 w3 ho3 hg3 hat3; have O1 := La.app (ys := zs) ho3 hg3; rw [Nat.zero_add, List.nil_append] at O1; obtain ⟨A3, c3, rfl, -, -⟩ := own_form O1.own; have hK1 := HWD.out _ O1.bel; have Db := Duo.lit O1; clear La ho3 hg3 hat3)
      | (refine step_append_any _ rfl _ _ _ rfl w2.drew.heap.size 5 i0 (.int .u8 0) 1 1 Try.underlying39 hi hz0 hz1 hz2 rfl (Nat.lt_succ_self 0) (.slice (some ⟨_, 0, none⟩) 0 0) 0 [] rfl Db.a.own w.heap.size A n c (cellsOf .u8 zs) rfl (HRW.out _ Db.a.bel) (cellsOf_one _ _) k1 k2 Db.a.bel.size ?_; intro v3 w3 ho3 hg3 hat3; have Db := Db.left (zs := zs) ho3 hg3 hat3; rw [Nat.zero_add, List.nil_append] at Db; obtain ⟨A4, c4, rfl, -, -⟩ := own_form Db.a.own; clear ho3 hg3 hat3)
      | (refine step_append_any _ rfl _ _ _ rfl w2.drew.heap.size 5 i0 (.int .u8 0) 1 1 Try.underlying39 hi hz0 hz1 hz2 rfl (Nat.lt_succ_self 0) (.slice (some ⟨_, 0, none⟩) 0 0) 0 [] rfl Db.b.own w.heap.size A n c (cellsOf .u8 zs) rfl (HRW.out _ Db.b.bel) (cellsOf_one _ _) k1 k2 Db.b.bel.size ?_; intro v3 w3 ho3 hg3 hat3; have Db := Db.right (zs := zs) ho3 hg3 hat3; rw [Nat.zero_add, List.nil_append] at Db; obtain ⟨A5, c5, rfl, -, -⟩ := own_form Db.b.own; clear ho3 hg3 hat3))
  all_goals
    go_wp2
    go_ret
    have hbx := Db.a.bel
    have hbz := hbx.alloc hbx.size
    have hww := hbW.trans (hbx.mono hbW.size)
    have hsz := hbW.size
    refine ⟨_, _, _, _, rfl, hww.alloc hww.size _, RX.made (w0 := w) HBAS.out (by simp; have := hww.size; omega) hww.size HN.out.symm (Blk.new _ _ _) ?_ ?_⟩
    · first
        | exact own_base (Db.a.own.alloc _) hsz
        | exact own_base (Db.b.own.alloc _) hsz
    · first
        | exact own_base (Db.a.own.alloc _) hsz
        | exact own_base (Db.b.own.alloc _) hsz

set_option maxHeartbeats 2000000 in
theorem rnew_yes {base : Nat} (i k d f h : Int) (lm : Nat) (w : World) (hr : rightH d f = true) (hik : 0 ≤ i ∧ i < 18446744073709551616) (hkk : 0 ≤ k ∧ k < 18446744073709551616) (hhk : 0 ≤ h ∧ h < 18446744073709551616) (hlm : lm ≤ 1048576) (hbas : base ≤ w.heap.size) :
    Calls Try.prog 10 #[hdV i k d f h, .int .i64 lm] w (RXnew base i k d f h ⟨newB i k d f h, newB i k d f h, [], lm⟩ w) := by
  obtain ⟨i0, hi, hz0, hz1, hz2⟩ := info_parts byteInfo
  have R1 := Lib.hid (rhright_any i k d f h)
  have HB0 := Lib.hid (boxed w (.cells #[.int .u64 i, .int .u64 k, .int .i64 d, .int .i64 f, .int .u64 h] 28))
  have HA := Lib.hid (fun wx (hx : Below (w.alloc (.cells #[.int .u64 i, .int .u64 k, .int .i64 d, .int .i64 f, .int .u64 h] 28)).heap.size (w.alloc (.cells #[.int .u64 i, .int .u64 k, .int .i64 d, .int .i64 f, .int .u64 h] 28)) wx) => (hdAt_of hx : HdAt wx w.heap.size i k d f h))
  rw [hr] at R1
  have hbd := rightH_bd hr
  obtain ⟨hK, hK1, hK2⟩ := newK_eq hr
  have OB := Lib.hid (fun w1 => rhobjects_any i k d f h w1 (by omega) hbd.2.1 (by omega) hbd.2.2.2)
  have hlt := hK
  rw [hK] at OB
  have EN := Lib.hid (fun w1 => rhenc_yes i k d f h w1 hr hik hkk hhk)
  have HLE := Lib.hid (encH_length i k d f h)
  have HLN := Lib.hid (newB_length (i := i) (k := k) (h := h) hr)
  have HNB : Hid (newB i k d f h = encH i k d f h ++ List.replicate (newK d f - 64) 0) := rfl
  have HLD := Lib.hid (fun w1 A (n c : Nat) (hn : n = newK d f) (hz : Reads w1 w1.heap.size 1 A n (cellsOf .u8 (newB i k d f h))) (hb : base ≤ w1.heap.size) => rload_yes (base := base) i k d f h A n c lm (newB i k d f h) w1 hr (by omega) hz (Nat.le_refl _) (by omega) hlm hb)
  generalize newB i k d f h = nb at *
  generalize encH i k d f h = eh at *
  generalize newK d f = K at *
  obtain ⟨Z, hZ⟩ : ∃ Z, Z = K - 64 := ⟨_, rfl⟩
  rw [← hZ] at HNB
  have hZi : (K : Int) - 64 = (Z : Int) := by omega
  have hwz : IntKind.i64.wrap (Z : Int) = (Z : Int) := by rw [IntKind.wrap_i64]; omega
  have HZ : Hid (64 + Z = K ∧ 0 < Z ∧ K ≤ 4352) := ⟨by omega, by omega, hK2⟩
  have HLE2 : Hid (cellsOf .u8 eh ++ List.replicate Z (Value.int .u8 0) = cellsOf .u8 (eh ++ List.replicate Z 0)) := by show _ = _; rw [cellsOf_append]; simp [cellsOf]
  have HBAS := Lib.hid hbas
  clear hr hbd hK hlt hik hkk hhk hlm hK1 hK2 hZ
  go_enter Try.func10, Try.ntmps10
  go_wp2_with (first
    | (go_at_call 34; refine (R1.out _).mono ?_; rintro e w1 ⟨rfl, hb1⟩))
  obtain ⟨W, hW⟩ : ∃ W, w1.drew = W := ⟨_, rfl⟩
  have hbW : Below w.heap.size w W := by rw [← hW]; exact below_drewn (HB0.out.trans (hb1.mono HB0.out.size)) 1
  have hb : Below (w.alloc (.cells #[.int .u64 i, .int .u64 k, .int .i64 d, .int .i64 f, .int .u64 h] 28)).heap.size (w.alloc (.cells #[.int .u64 i, .int .u64 k, .int .i64 d, .int .i64 f, .int .u64 h] 28)) W := by rw [← hW]; exact below_drewn hb1 1
  have H0 := Lib.hid (HA.out _ hb)
  clear hb1
  subst hW
  go_region_held3 (fun w' => HdAt w' w.heap.size i k d f h)
    (first | assumption | exact H0.out | exact HA.out _ hb)
    (first
      | (go_at_call 21; refine (EN.out _).mono ?_; rintro e wx ⟨A5, n5, c5, rfl, hn5, ho5, hbx, -, -⟩; rw [HLE.out] at hn5; subst hn5; have O5 := OutB.mk (own_base ho5 hb.size) (hb.trans (hbx.mono hb.size)); have hb := hb.trans (hbx.mono hb.size); clear ho5 hbx)
      | (go_at_call 22; refine (OB.out _).mono ?_; rintro e wy ⟨rfl, hby⟩; have hb := hb.trans (hby.mono hb.size); have O5 := O5.below hby; clear hby)
      | (obtain ⟨v2, w2, hr2, ho2, hg2, hat2⟩ := run_append_zeros_own (P := Try.prog) wy (w.alloc (.cells #[.int .u64 i, .int .u64 k, .int .i64 d, .int .i64 f, .int .u64 h] 28)).heap.size 39 3 39 5 i0 (.int .u8 0) .i64 .i64 Try.underlying39 Try.underlying3 hi hz0 hz1 hz2 rfl rfl (.slice A5 64 c5) 64 _ O5.own Z HZ.out.2.1 (by have := HZ.out; omega) O5.bel.size; refine step_of rfl (Lib.wp_append_run wy (.tmp 10) (.tmp 13) 39 3 rfl _ _ rfl rfl v2 w2 hr2 ?_); rw [HZ.out.1] at ho2; obtain ⟨A6, c6, rfl, -, -⟩ := own_form ho2; have hb2 := own_grown O5.bel O5.own (Nat.le_refl _) O5.bel.size hg2; have hk2 : HdAt w2 w.heap.size i k d f h := HA.out _ hb2; have HO2 := Lib.hid (And.intro ho2 hb2); clear hr2 ho2 hg2 hat2))
  all_goals
    have hb2 := HO2.out.2
    have hbw := HB0.out.trans (hb2.mono HB0.out.size)
    have RD := Reads.of_own HO2.out.1
    rw [HLE2.out, ← HNB.out] at RD
    have LD := Lib.hid (HLD.out w2 A6 K c6 rfl RD (Nat.le_trans HBAS.out hbw.size))
    clear RD hb hb2
    obtain ⟨x0, x1, x2, x3, x4⟩ := hk2
    go_wp2_with (go_at_call 35; refine LD.out.mono ?_; rintro e w9 hx; have HX9 := Lib.hid hx; obtain ⟨p9, bv9, wv9, sv9, rfl, -, -⟩ := hx)
    go_ret
    obtain ⟨p8, bv8, wv8, sv8, he, h8, hx8⟩ := HX9.out
    have hww := hbw.trans (h8.mono hbw.size)
    have h1 := hbw.size
    refine ⟨p8, bv8, wv8, sv8, he, hww, hx8.mono (fun j hj => ⟨by omega, hj.2⟩) (fun j hj => ⟨by have := HBAS.out; omega, hj.2⟩)⟩

end Go.Proofs.Ythdnjjdlhhapbaa
