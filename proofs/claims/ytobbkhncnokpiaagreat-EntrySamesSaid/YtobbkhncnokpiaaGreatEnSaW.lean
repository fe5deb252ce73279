/-
  LAYER 16: the walk of EntrySames.
-/
import Derived.Test.YtobbkhncnokpiaaGreatEnSame2
import Derived.Test.YtobbkhncnokpiaaGreatEnNil
import Derived.Test.YtobbkhncnokpiaaGreatEnLaw
set_option linter.unusedVariables false
set_option maxRecDepth 100000
set_option linter.unusedSimpArgs false
namespace Go.Proofs.YtobbkhncnokpiaaGreat
open Go.RowKit Go.Shelf

/-- The cells of a boxed record. -/
abbrev RcAt (w : World) (g : Nat) (s0 s1 s2 s3 : Int) (A : Option Addr) (n c : Nat) : Prop :=
  w.cell? ⟨g, 0, none⟩ = some (.int .u64 s0) ∧ w.cell? ⟨g, 1, none⟩ = some (.int .u64 s1) ∧ w.cell? ⟨g, 2, none⟩ = some (.int .u64 s2) ∧ w.cell? ⟨g, 3, none⟩ = some (.int .u64 s3) ∧ w.cell? ⟨g, 4, none⟩ = some (.slice A n c)
theorem rcAt_of {w : World} {g : Nat} {t : TypeId} {s0 s1 s2 s3 : Int} {A : Option Addr} {n c : Nat} (h : Blk w g t #[.int .u64 s0, .int .u64 s1, .int .u64 s2, .int .u64 s3, .slice A n c]) : RcAt w g s0 s1 s2 s3 A n c := ⟨h.cell 0, h.cell 1, h.cell 2, h.cell 3, h.cell 4⟩
theorem same_self (a : RC) : a.same a = true := by simp [RC.same]

set_option maxHeartbeats 4000000 in
theorem sames_law (a b : RC) (w : World) (ha : RCOk w w.heap.size a) (hb : RCOk w w.heap.size b) :
    Calls Tryz.prog 6 #[a.v, b.v] w fun e w' => e = .returned (.bool true) ∧ Below w.heap.size w w' := by
  have AW := Lib.hid eawake_any
  have AN := Lib.hid (fun wx => eadd_nil a wx)
  have GN := Lib.hid eget_nil
  have LN := Lib.hid elen_nil
  have EN := Lib.hid eall_nil
  have HA := Lib.hid (fun wx (hx : Below w.heap.size w wx) => ha.txt.below hx)
  have HB := Lib.hid (fun wx (hx : Below w.heap.size w wx) => hb.txt.below hx)
  obtain ⟨sb, hsb⟩ : ∃ q, Hid (a.same b = q) := ⟨_, Lib.hid rfl⟩
  have S1 := Lib.hid (fun wx (hx : Below w.heap.size w wx) => esame_any a b w.heap.size w.heap.size wx (HA.out wx hx) (HB.out wx hx) hx.size hx.size)
  have S2 := Lib.hid (fun wx (hx : Below w.heap.size w wx) => resame_any a b w.heap.size w.heap.size wx (HA.out wx hx) (HB.out wx hx) hx.size hx.size)
  have S3 := Lib.hid (fun wx (hx : Below w.heap.size w wx) => esame_any a a w.heap.size w.heap.size wx (HA.out wx hx) (HA.out wx hx) hx.size hx.size)
  rw [same_self] at S3
  rw [hsb.out] at S1 S2
  clear hsb ha hb HA HB
  obtain ⟨s0, s1, s2, s3, A, n, c, xs⟩ := a
  obtain ⟨u0, u1, u2, u3, A', n', c', ys⟩ := b
  unfold RC.v at AN S1 S2 S3 ⊢
  dsimp only at AN S1 S2 S3 ⊢
  obtain ⟨hb0, hk0, hk1⟩ := two_boxes w 36 #[.int .u64 s0, .int .u64 s1, .int .u64 s2, .int .u64 s3, .slice A n c] #[.int .u64 u0, .int .u64 u1, .int .u64 u2, .int .u64 u3, .slice A' n' c']
  have HBA := Lib.hid (fun wx (hx : Below ((w.alloc (.cells #[.int .u64 s0, .int .u64 s1, .int .u64 s2, .int .u64 s3, .slice A n c] 36)).alloc (.cells #[.int .u64 u0, .int .u64 u1, .int .u64 u2, .int .u64 u3, .slice A' n' c'] 36)).heap.size ((w.alloc (.cells #[.int .u64 s0, .int .u64 s1, .int .u64 s2, .int .u64 s3, .slice A n c] 36)).alloc (.cells #[.int .u64 u0, .int .u64 u1, .int .u64 u2, .int .u64 u3, .slice A' n' c'] 36)) wx) =>
    (⟨rcAt_of (hk0.below hx hk0.lt), rcAt_of (hk1.below hx hk1.lt)⟩ : RcAt wx w.heap.size s0 s1 s2 s3 A n c ∧ RcAt wx (w.heap.size + 1) u0 u1 u2 u3 A' n' c'))
  have HB0 := Lib.hid hb0
  have k0 := hk0.cell 4
  have k1 := hk1.cell 4
  have k2 := hk0.cell 0
  have k3 := hk0.cell 1
  have k4 := hk0.cell 2
  have k5 := hk0.cell 3
  clear hb0 hk0 hk1
  by_cases hbig : 100 < n ∨ (¬ 100 < n ∧ 100 < n')
  · clear S1 S2 S3 AN GN LN EN
    rcases hbig with h | ⟨h, h'⟩
    · have hi : (100 : Int) < (n : Int) := by omega
      go_enter Tryz.func6, Tryz.ntmps6
      go_wp2_with (go_at_call 7; refine (AW.out _).mono ?_; rintro e w1 ⟨rfl, hb1⟩)
      go_ret
      exact ⟨rfl, HB0.out.trans (hb1.mono HB0.out.size)⟩
    · have hi : ¬ (100 : Int) < (n : Int) := by omega
      have hi' : (100 : Int) < (n' : Int) := by omega
      go_enter Tryz.func6, Tryz.ntmps6
      go_wp2_with (go_at_call 7; refine (AW.out _).mono ?_; rintro e w1 ⟨rfl, hb1⟩)
      go_ret
      exact ⟨rfl, HB0.out.trans (hb1.mono HB0.out.size)⟩
  · have hi : ¬ (100 : Int) < (n : Int) := by omega
    have hi' : ¬ (100 : Int) < (n' : Int) := by omega
    clear hbig
    go_enter Tryz.func6, Tryz.ntmps6
    go_wp2_with (first
      | (go_at_call 11; go_loud (refine (AN.out _).mono ?_; rintro e w1 ⟨rfl, hb1⟩))
      | (go_at_call 15; go_loud (refine (GN.out _).mono ?_; unfold rcZ; rintro e w2 ⟨rfl, hb2⟩; have hbb := hb1.trans (hb2.mono hb1.size); have HBB := Lib.hid (hbb.alloc hbb.size (.cells #[.int .u64 0, .int .u64 0, .int .u64 0, .int .u64 0, .slice none 0 0] 36)); clear hbb)))
    clear hb1 hb2 k0 k1 k2 k3 k4 k5
    have hbb := HBB.out
    clear HBB
    have hb := below_drewn hbb 1
    clear hbb
    have HK := Lib.hid (HBA.out _ hb)
    have m1 : True := trivial
    go_region_held3 (fun w' => RcAt w' w.heap.size s0 s1 s2 s3 A n c ∧ RcAt w' (w.heap.size + 1) u0 u1 u2 u3 A' n' c')
      (first | assumption | exact HK.out | exact HBA.out _ hb)
      (first
        | (go_at_call 31; clear m1; refine (S1.out _ (HB0.out.trans (hb.mono HB0.out.size))).mono ?_; rintro e wx ⟨rfl, hbx⟩; have hb := hb.trans (hbx.mono hb.size); clear hbx)
        | (go_at_call 17; refine (S2.out _ (HB0.out.trans (hb.mono HB0.out.size))).mono ?_; rintro e wx ⟨rfl, hbx⟩; have hb := hb.trans (hbx.mono hb.size); clear hbx)
        | (go_at_call 31; refine (S3.out _ (HB0.out.trans (hb.mono HB0.out.size))).mono ?_; rintro e wx ⟨rfl, hbx⟩; have hb := hb.trans (hbx.mono hb.size); clear hbx)
        | (go_at_call 23; refine (LN.out _).mono ?_; rintro e wx ⟨rfl, hbx⟩; have hb := hb.trans (hbx.mono hb.size); clear hbx)
        | (go_at_call 22; refine (EN.out _).mono ?_; rintro e wx ⟨rfl, hbx⟩; have hb := hb.trans (hbx.mono hb.size); clear hbx)
        | (go_at_call 7; refine (AW.out _).mono ?_; rintro e wx ⟨rfl, hbx⟩; have hb := hb.trans (hbx.mono hb.size); clear hbx))
    go_wp2
    go_ret
    exact ⟨rfl, HB0.out.trans (hb.mono HB0.out.size)⟩

end Go.Proofs.YtobbkhncnokpiaaGreat
