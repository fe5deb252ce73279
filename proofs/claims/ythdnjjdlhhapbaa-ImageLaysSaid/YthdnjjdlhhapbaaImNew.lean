/-
  LAYER 12: WHAT unchanged, New, Load AND Copy OF PACKAGE image DO: contracts.
-/
import Derived.Test.YthdnjjdlhhapbaaImFn
import Derived.Deep.RegionHeld3
set_option linter.unusedVariables false
set_option maxRecDepth 100000
set_option linter.unusedSimpArgs false
namespace Go.Proofs.Ythdnjjdlhhapbaa
open Go.RowKit

/-- How many bytes a new image has; which. -/
def newK (d f : Int) : Nat := (256 + 8 * (d + f)).toNat
def newB (i k d f h : Int) : List Int := encH i k d f h ++ List.replicate (newK d f - 64) 0
theorem newK_eq {d f : Int} (hr : rightH d f = true) : 256 + 8 * (d + f) = (newK d f : Int) ∧ 272 ≤ newK d f ∧ newK d f ≤ 4352 := by
  have := rightH_bd hr
  unfold newK; omega
theorem newB_length {i k d f h : Int} (hr : rightH d f = true) : (newB i k d f h).length = newK d f := by
  have := newK_eq hr
  unfold newB
  rw [List.length_append, encH_length, List.length_replicate]; omega
theorem newB_bytes (i k d f h : Int) : AreB (newB i k d f h) := (encH_bytes _ _ _ _ _).append (AreB.zeros _)
theorem newB_splice {i k d f h : Int} (hr : rightH d f = true) : splice (List.replicate (newK d f) 0) 0 (encH i k d f h) = newB i k d f h := by
  have := newK_eq hr
  unfold splice newB
  rw [List.take_zero, List.nil_append, encH_length, List.drop_replicate]

/-- An image is made of a row of the call's own. -/
theorem IX.made {w0 w' : World} {base g lm n c : Nat} {i k d f h : Int} {A : Option Addr} {zs : List Int} (hb : base ≤ w0.heap.size) (hw : w0.heap.size ≤ w'.heap.size) (hg : w0.heap.size ≤ g) (hn : n = zs.length)
    (hk : Blk w' g 91 (imC i k d f h lm (.slice A n c) n (.slice none 0 0))) (hown : w'.ownsRow w0.heap.size 5 1 (.slice A n c) n (cellsOf .u8 zs)) :
    IX w' base (fun j => w0.heap.size ≤ j ∧ j < w'.heap.size) g i k d f h ⟨zs, zs, [], lm⟩ (.slice A n c) (.slice none 0 0) := by
  subst hn
  exact ⟨fun j hj => ⟨by omega, hj.2⟩, by omega, ⟨hg, hk.lt⟩, hk, own_base hown hb, World.ownsRow_nil _ _ _ _, fun g hg => hown.lt g hg, fun g hg => by simp [Value.ownBlock] at hg⟩

/-- unchanged. -/
theorem iunch_any (i k d f h : Int) (A : Option Addr) (n c lm : Nat) (w : World) :
    Calls Try.prog 32 #[hdV i k d f h, .slice A n c, .int .i64 lm] w fun e w' => ∃ g, e = .returned (.pointer (some ⟨g, 0, none⟩)) ∧ w.heap.size ≤ g ∧ Below w.heap.size w w' ∧ Blk w' g 91 (imC i k d f h lm (.slice A n c) n (.slice none 0 0)) := by
  go_enter Try.func32, Try.ntmps32
  go_wp2
  go_ret
  have hb := Blk.new (w.alloc (.cells #[.int .u64 i, .int .u64 k, .int .i64 d, .int .i64 f, .int .u64 h] 27)) 91 (imC i k d f h lm (.slice A n c) n (.slice none 0 0))
  rw [World.size_alloc] at hb
  exact ⟨_, rfl, by omega, (boxed _ _).alloc (by simp) _, hb⟩

set_option maxHeartbeats 1000000 in
theorem icopy_any {base p : Nat} {S : Nat → Prop} {i k d f h : Int} {m : IM} {bv sv : Value} (w : World) (H : IX w base S p i k d f h m bv sv) (hl : m.b.length ≤ 1099511627776) :
    Calls Try.prog 27 #[.pointer (some ⟨p, 0, none⟩)] w (IXnew base i k d f h ⟨m.b, m.b, [], m.lim⟩ w) := by
  obtain ⟨A, c, rfl, q1, q2, q3⟩ := H.reads
  have CL := Lib.hid (fun w1 (hb : Below w.heap.size w w1) => bclone_any A m.b.length c m.b w1.heap.size w1 ((q3.below hb).more hb.size) (Nat.le_refl _) (by omega))
  obtain ⟨n, hn⟩ : ∃ n, n = m.b.length := ⟨_, rfl⟩
  obtain ⟨lm, hlm⟩ : ∃ lm, lm = m.lim := ⟨_, rfl⟩
  have hc0 := fun w1 (hb : Below w.heap.size w w1) => (nine (H.below hb).blk).1
  rw [← hn] at CL hc0
  rw [← hlm] at hc0 ⊢
  have HC : Hid (∀ w1, Below w.heap.size w w1 → HdAt w1 p i k d f h ∧ w1.cell? ⟨p, 5, none⟩ = some (.int .i64 (lm : Int)) ∧ w1.cell? ⟨p, 6, none⟩ = some (.slice A n c)) := fun w1 hb => by
    obtain ⟨a0, a1, a2, a3, a4, a5, a6, -, -⟩ := hc0 w1 hb
    exact ⟨⟨a0, a1, a2, a3, a4⟩, a5, a6⟩
  have HN := Lib.hid hn
  have HBAS := Lib.hid H.bas
  have hb : Below w.heap.size w w.drew := below_drewn (Below.refl _ _) 1
  have H0 := Lib.hid (HC.out _ hb)
  clear H q1 q2 q3 hn hlm hc0
  go_enter Try.func27, Try.ntmps27
  go_wp2_with fail
  go_region_held3 (fun w' => HdAt w' p i k d f h ∧ w'.cell? ⟨p, 5, none⟩ = some (.int .i64 (lm : Int)) ∧ w'.cell? ⟨p, 6, none⟩ = some (.slice A n c))
    (first | assumption | exact H0.out | exact HC.out _ hb)
    (first
      | (go_at_call 45; refine (CL.out _ hb).mono ?_; rintro e wx ⟨A1, n1, c1, rfl, hn1, ho1, hbx, -, -⟩; rw [← HN.out] at hn1; have hn1 := hn1.symm; subst hn1; have HB1 := Lib.hid hb.size; have HB2 := Lib.hid hbx.size; have hb := hb.trans (hbx.mono hb.size); have HO1 := Lib.hid ho1; clear hbx ho1)
      | (go_at_call 32; refine (iunch_any i k d f h A1 n c1 lm _).mono ?_; rintro e wy ⟨g, rfl, hg, hby, hk⟩; have HK := Lib.hid (And.intro hg (And.intro hby hk)); have hb := hb.trans (hby.mono hb.size); clear hg hby hk))
  go_wp2
  go_ret
  exact ⟨g, _, _, rfl, hb, IX.made HBAS.out hb.size (Nat.le_trans (Nat.le_trans HB1.out HB2.out) HK.out.1) HN.out HK.out.2.2 (own_base (own_below HO1.out HK.out.2.1) HB1.out)⟩
theorem icopy_nil (w : World) : Calls Try.prog 27 #[.pointer none] w fun e w' => e = .returned (.pointer none) ∧ w = w' := by
  go_enter Try.func27, Try.ntmps27
  go_wp2
  go_ret
  exact ⟨rfl, rfl⟩

/-! ### Load -/
theorem iload_no (i k d f h : Int) (A : Option Addr) (n c : Nat) (lm : Int) (w : World) (hno : rightH d f = false ∨ (rightH d f = true ∧ (n : Int) < 256 + 8 * (d + f))) :
    Calls Try.prog 23 #[hdV i k d f h, .slice A n c, .int .i64 lm] w fun e w' => e = .returned (.pointer none) ∧ Below w.heap.size w w' := by
  have R1 := Lib.hid (hright_any i k d f h)
  have HB0 := Lib.hid (boxed w (.cells #[.int .u64 i, .int .u64 k, .int .i64 d, .int .i64 f, .int .u64 h] 27))
  have HA := Lib.hid (fun wx (hx : Below (w.alloc (.cells #[.int .u64 i, .int .u64 k, .int .i64 d, .int .i64 f, .int .u64 h] 27)).heap.size (w.alloc (.cells #[.int .u64 i, .int .u64 k, .int .i64 d, .int .i64 f, .int .u64 h] 27)) wx) => (hdAt_of hx : HdAt wx w.heap.size i k d f h))
  rcases hno with hr | ⟨hr, hlt⟩
  · rw [hr] at R1
    clear hr
    go_enter Try.func23, Try.ntmps23
    go_wp2_with (go_at_call 29; refine (R1.out _).mono ?_; rintro e w1 ⟨rfl, hb1⟩)
    go_ret
    exact ⟨rfl, HB0.out.trans (hb1.mono HB0.out.size)⟩
  · rw [hr] at R1
    have hbd := rightH_bd hr
    have OB := Lib.hid (fun w1 => hobjects_any i k d f h w1 (by omega) hbd.2.1 (by omega) hbd.2.2.2)
    obtain ⟨t, ht⟩ : ∃ t, 256 + 8 * (d + f) = t := ⟨_, rfl⟩
    rw [ht] at OB hlt
    clear hr hbd ht
    go_enter Try.func23, Try.ntmps23
    go_wp2_with (first
      | (go_at_call 29; refine (R1.out _).mono ?_; rintro e w1 ⟨rfl, hb1⟩; obtain ⟨x0, x1, x2, x3, x4⟩ := HA.out _ hb1)
      | (go_at_call 30; refine (OB.out _).mono ?_; rintro e w2 ⟨rfl, hb2⟩; have hb2 := hb1.trans (hb2.mono hb1.size)))
    go_ret
    exact ⟨rfl, HB0.out.trans (hb2.mono HB0.out.size)⟩

set_option maxHeartbeats 1000000 in
theorem iload_yes {B base : Nat} (i k d f h : Int) (A : Option Addr) (n c lm : Nat) (zs : List Int) (w : World) (hr : rightH d f = true) (hlt : 256 + 8 * (d + f) ≤ (n : Int)) (hz : Reads w B 1 A n (cellsOf .u8 zs)) (hB : B ≤ w.heap.size) (hl : n ≤ 1099511627776) (hbas : base ≤ w.heap.size) :
    Calls Try.prog 23 #[hdV i k d f h, .slice A n c, .int .i64 lm] w (IXnew base i k d f h ⟨zs, zs, [], lm⟩ w) := by
  have R1 := Lib.hid (hright_any i k d f h)
  have HB0 := Lib.hid (boxed w (.cells #[.int .u64 i, .int .u64 k, .int .i64 d, .int .i64 f, .int .u64 h] 27))
  have HA := Lib.hid (fun wx (hx : Below (w.alloc (.cells #[.int .u64 i, .int .u64 k, .int .i64 d, .int .i64 f, .int .u64 h] 27)).heap.size (w.alloc (.cells #[.int .u64 i, .int .u64 k, .int .i64 d, .int .i64 f, .int .u64 h] 27)) wx) => (hdAt_of hx : HdAt wx w.heap.size i k d f h))
  rw [hr] at R1
  have hbd := rightH_bd hr
  have OB := Lib.hid (fun w1 => hobjects_any i k d f h w1 (by omega) hbd.2.1 (by omega) hbd.2.2.2)
  obtain ⟨t, ht⟩ : ∃ t, 256 + 8 * (d + f) = t := ⟨_, rfl⟩
  rw [ht] at OB hlt
  have CL := Lib.hid (fun w1 (hb : Below w.heap.size w w1) => bclone_any A n c zs B w1 (hz.keep (fun p hp => hb.cell (by omega))) (Nat.le_trans hB hb.size) (by omega))
  have HN := Lib.hid hz.len
  have HBAS := Lib.hid hbas
  have t1 : ¬ (n : Int) < t := by omega
  clear hr hbd ht hz
  go_enter Try.func23, Try.ntmps23
  go_wp2_with (first
    | (go_at_call 29; refine (R1.out _).mono ?_; rintro e w1 ⟨rfl, hb1⟩; obtain ⟨x0, x1, x2, x3, x4⟩ := HA.out _ hb1)
    | (go_at_call 30; refine (OB.out _).mono ?_; rintro e w2 ⟨rfl, hb2⟩; have hb2 := hb1.trans (hb2.mono hb1.size)))
  have hb := below_drewn hb2 1
  have H0 := Lib.hid (HA.out _ hb)
  clear hb1 x0 x1 x2 x3 x4
  go_region_held3 (fun w' => HdAt w' w.heap.size i k d f h)
    (first | assumption | exact H0.out | exact HA.out _ hb)
    (first
      | (go_at_call 45; refine (CL.out _ (HB0.out.trans (hb.mono HB0.out.size))).mono ?_; rintro e wx ⟨A1, n1, c1, rfl, hn1, ho1, hbx, -, -⟩; rw [HN.out] at hn1; have hn1 := hn1.symm; subst hn1; have HB1 := Lib.hid hb.size; have HB2 := Lib.hid hbx.size; have hb := hb.trans (hbx.mono hb.size); have HO1 := Lib.hid ho1; clear hbx ho1)
      | (go_at_call 32; refine (iunch_any i k d f h A1 n c1 lm _).mono ?_; rintro e wy ⟨g, rfl, hg, hby, hk⟩; have HK := Lib.hid (And.intro hg (And.intro hby hk)); have hb := hb.trans (hby.mono hb.size); clear hg hby hk))
  go_wp2
  go_ret
  have hbb := HB0.out.trans (hb.mono HB0.out.size)
  have h1 := HB0.out.size
  have h2 := HB1.out
  have h3 := HB2.out
  have h4 := HK.out.1
  refine ⟨g, _, _, rfl, hbb, IX.made HBAS.out hbb.size (by omega) HN.out.symm HK.out.2.2 (own_base (own_below HO1.out HK.out.2.1) (by omega))⟩

/-! ### New -/
theorem inew_no (G : Nat) (i k d f h lm : Int) (w : World) (hr : rightH d f = false) :
    Calls Try.prog 8 #[.pointer (some ⟨G, 0, none⟩), hdV i k d f h, .int .i64 lm] w fun e w' => e = .returned (.pointer none) ∧ Below w.heap.size w w' := by
  have R1 := Lib.hid (hright_any i k d f h)
  have HB0 := Lib.hid (boxed w (.cells #[.int .u64 i, .int .u64 k, .int .i64 d, .int .i64 f, .int .u64 h] 27))
  rw [hr] at R1
  clear hr
  go_enter Try.func8, Try.ntmps8
  go_wp2_with (go_at_call 29; refine (R1.out _).mono ?_; rintro e w1 ⟨rfl, hb1⟩)
  go_ret
  exact ⟨rfl, HB0.out.trans (hb1.mono HB0.out.size)⟩

set_option maxHeartbeats 1000000 in
theorem inew_yes {base : Nat} (G : Nat) (i k d f h : Int) (lm : Nat) (w : World) (hr : rightH d f = true) (ht : IsTable w G) (hbas : base ≤ w.heap.size) :
    Calls Try.prog 8 #[.pointer (some ⟨G, 0, none⟩), hdV i k d f h, .int .i64 lm] w (IXnew base i k d f h ⟨newB i k d f h, newB i k d f h, [], lm⟩ w) := by
  have R1 := Lib.hid (hright_any i k d f h)
  have HB0 := Lib.hid (boxed w (.cells #[.int .u64 i, .int .u64 k, .int .i64 d, .int .i64 f, .int .u64 h] 27))
  have HA := Lib.hid (fun wx (hx : Below (w.alloc (.cells #[.int .u64 i, .int .u64 k, .int .i64 d, .int .i64 f, .int .u64 h] 27)).heap.size (w.alloc (.cells #[.int .u64 i, .int .u64 k, .int .i64 d, .int .i64 f, .int .u64 h] 27)) wx) => (hdAt_of hx : HdAt wx w.heap.size i k d f h))
  rw [hr] at R1
  have hbd := rightH_bd hr
  obtain ⟨hK, hK1, hK2⟩ := newK_eq hr
  have OB := Lib.hid (fun w1 => hobjects_any i k d f h w1 (by omega) hbd.2.1 (by omega) hbd.2.2.2)
  rw [hK] at OB
  have EN := Lib.hid (fun w1 (hb : Below w.heap.size w w1) => henc_yes G i k d f h w1 hr (IsTable.below ht hb ht.lt))
  have HSP := Lib.hid (newB_splice (i := i) (k := k) (h := h) hr)
  have HLN := Lib.hid (newB_length (i := i) (k := k) (h := h) hr)
  have HLE := Lib.hid (encH_length i k d f h)
  generalize newB i k d f h = nb at *
  generalize encH i k d f h = eh at *
  generalize newK d f = K at *
  obtain ⟨Zc, hZl, hZs, hmk⟩ := make_bytes K (by omega)
  have HZ2 : Hid (Zc = (cellsOf .u8 (List.replicate K 0)).toArray) := by show _ = _; rw [← hZl, Array.toArray_toList]
  have HBAS := Lib.hid hbas
  have t1 : Hid ((cellsOf .u8 eh).length = 64) := by show _ = _; rw [cellsOf_length]; exact HLE.out
  have t2 : Hid (64 = Nat.min 64 K) := by show 64 = min 64 K; omega
  have t3 : Hid (0 + 64 ≤ (cellsOf .u8 (List.replicate K 0)).length) := by show _ ≤ _; rw [cellsOf_length, List.length_replicate]; omega
  clear hr hbd hK ht hZl hZs
  go_enter Try.func8, Try.ntmps8
  go_wp2_with (first
    | (go_at_call 29; refine (R1.out _).mono ?_; rintro e w1 ⟨rfl, hb1⟩; obtain ⟨x0, x1, x2, x3, x4⟩ := HA.out _ hb1)
    | (go_at_call 30; refine (OB.out _).mono ?_; rintro e w2 ⟨rfl, hb2⟩; have hb2 := hb1.trans (hb2.mono hb1.size); have hb3 := hb2.alloc hb2.size (.cells Zc 5); obtain ⟨y0, y1, y2, y3, y4⟩ := HA.out _ hb3; have HZB := Lib.hid (made_blk (Zc := Zc) w2))
    | (go_at_call 31; refine (EN.out _ (HB0.out.trans (hb3.mono HB0.out.size))).mono ?_; rintro e w4 hte; obtain ⟨A5, n5, c5, rfl, hn5, r5, -, -, hb5, -⟩ := hte.reads; rw [HLE.out] at hn5; subst hn5; have hb6 := hb3.trans (hb5.mono hb3.size); have hzb : Blk w4 w2.heap.size 5 (cellsOf .u8 (List.replicate K 0)).toArray := (by rw [← HZ2.out]; exact HZB.out.below hb5 HZB.out.lt); clear hte hb5)
    | (show wpList _ _ _ (Oper.mk _ (.call { callee := .builtin .copy, args := _, argTypes := _ }) _ _ _ _ :: _) _ _; go_loud (refine wpList_copy_blk rfl (.tmp 14) (.tmp 17) _ _ rfl 5 Try.underlying39 imByteOne _ _ _ _ _ _ rfl rfl w2.heap.size 0 64 (cellsOf .u8 (List.replicate K 0)) 5 hzb (cellsOf .u8 eh) t1.out t2.out (fun _ => ⟨rfl, by obtain ⟨ad, h0, _, hc⟩ := r5.2 (by omega); exact ⟨ad, h0, hc⟩⟩) t3.out (cellsOf_one _ _) ?_; intro w7 HG hc7; have hb7 := hb6.trans (hc7.below (by have := hb6.size; simp at this ⊢; omega) (fun j _ e => by have := hb2.size; simp at this ⊢; omega)); obtain ⟨z0, z1, z2, z3, z4⟩ := HA.out _ hb7))
    | (go_at_call 32; go_loud (refine (iunch_any i k d f h _ K K lm _).mono ?_; rintro e wy ⟨g, rfl, hg, hby, hk⟩; have HK := Lib.hid (And.intro hg (And.intro hby hk)); clear hg hby hk)))
  go_ret
  have hq1 := HB0.out.size
  have hq2 := hb2.size
  have hq3 := hb7.size
  have hq4 := HK.out.1
  have hbw := HB0.out.trans (hb7.mono hq1)
  have hby := hbw.trans (HK.out.2.1.mono hbw.size)
  have hblk : Blk wy w2.heap.size 5 (cellsOf .u8 nb).toArray := by
    have h1 := HG.out
    rw [splice_cells, HSP.out] at h1
    exact h1.below HK.out.2.1 h1.lt
  have hown : wy.ownsRow w.heap.size 5 1 (.slice (some ⟨w2.heap.size, 0, none⟩) K K) K (cellsOf .u8 nb) :=
    row_shut (by omega) hblk (Nat.le_refl _) (by unfold maxLen; omega) (by rw [cellsOf_length, HLN.out]; omega) (by rw [Nat.mul_one, List.take_of_length_le (by rw [cellsOf_length, HLN.out]; omega)]) (by rw [cellsOf_length, HLN.out]; omega)
  exact ⟨g, _, _, rfl, hby, IX.made HBAS.out hby.size (by omega) HLN.out.symm HK.out.2.2 hown⟩

end Go.Proofs.Ythdnjjdlhhapbaa
