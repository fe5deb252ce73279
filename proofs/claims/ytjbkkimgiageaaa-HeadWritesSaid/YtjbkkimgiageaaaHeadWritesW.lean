/-
  LAYER 10: the walk of HeadWrites.
-/
import Derived.Test.YtjbkkimgiageaaaHeadLaw
import Derived.Test.YtjbkkimgiageaaaHeadEncR
import Derived.Test.YtjbkkimgiageaaaRegionH
set_option linter.unusedVariables false
set_option linter.unusedSimpArgs false
set_option maxRecDepth 100000
namespace Go.Proofs.Ytjbkkimgiageaaa
open Go.RowKit

set_option maxHeartbeats 4000000 in
theorem writes_law (i k d f m n : Int) (w : World)
    (h : (Lit.int .u64 i).wf = true ∧ (Lit.int .u64 k).wf = true ∧ (Lit.int .i64 d).wf = true ∧ (Lit.int .i64 f).wf = true ∧ (Lit.int .u64 m).wf = true) (hn : (Lit.int .i64 n).wf = true) :
    Calls Try.prog 3 #[hdV i k d f m, .int .i64 n] w fun e w' => e = .returned (.bool true) ∧ Below w.heap.size w w' := by
  have bi := wf_u64_bd h.1
  have bk := wf_u64_bd h.2.1
  have bm := wf_u64_bd h.2.2.2.2
  have hb0 : Below w.heap.size w (w.alloc (.cells #[.int .u64 i, .int .u64 k, .int .i64 d, .int .i64 f, .int .u64 m] 24)) := boxed _ _
  have HBA := Lib.hid (fun wx (hx : Below (w.alloc (.cells #[.int .u64 i, .int .u64 k, .int .i64 d, .int .i64 f, .int .u64 m] 24)).heap.size (w.alloc (.cells #[.int .u64 i, .int .u64 k, .int .i64 d, .int .i64 f, .int .u64 m] 24)) wx) => (hdAt_of hx : HdAt wx w.heap.size i k d f m))
  have R1 := Lib.hid (hright_any i k d f m)
  have R2 := Lib.hid (rhright_any i k d f m)
  have EN := Lib.hid (fun G wx (ht : IsTable wx G) => henc_any G i k d f m wx ht)
  have ER := Lib.hid (fun wx => rhenc_any i k d f m wx bi bk bm)
  have HX := Lib.hid (encHR_bytes i k d f m)
  generalize encHR i k d f m = x at *
  have HBD : Hid (rightH d f = true → 1 ≤ d ∧ d ≤ 256 ∧ 1 ≤ f ∧ f ≤ 256) := rightH_bd
  obtain ⟨r, hr⟩ : ∃ r, rightH d f = r := ⟨_, rfl⟩
  rw [hr] at R1 R2 HBD
  have SL := Lib.hid (hslot_any n)
  have hp : 0 ≤ n % 2 ∧ n % 2 ≤ 1 := by omega
  obtain ⟨p, hpe⟩ : ∃ p, n % 2 = p := ⟨_, rfl⟩
  obtain ⟨u, hu⟩ : ∃ u, IntKind.u64.wrap n = u := ⟨_, rfl⟩
  have hub : 0 ≤ u ∧ u < 18446744073709551616 ∧ u % 2 = p := by rw [← hu, ← hpe, IntKind.wrap_u64]; omega
  have hut : u.tmod 2 = p := by rw [Int.tmod_eq_emod_of_nonneg hub.1]; exact hub.2.2
  rw [hpe] at SL hp
  have hpw : IntKind.i64.wrap p = p := by rw [IntKind.wrap_i64]; omega
  have hpu : IntKind.u64.wrap p = p := by rw [IntKind.wrap_u64]; omega
  have hu2 := And.intro hub.1 hub.2.1
  have HB0 := Lib.hid hb0
  clear h hn bi bk bm hr hpe hub hb0
  go_enter Try.func3, Try.ntmps3
  go_wp2_with (first
    | (go_at_call 6; refine (crcMake_any _).mono ?_; rintro e w1 ⟨rfl, ht1, hb1⟩; obtain ⟨x0, x1, x2, x3, x4⟩ := HBA.out _ hb1)
    | (go_at_call 7; refine (to_any _ _ _ _ _ _).mono ?_; rintro e w2 ⟨rfl, hb2⟩; have hb3 := hb1.trans (hb2.mono hb1.size); have ht2 := IsTable.below ht1 hb2 ht1.lt))
  have hbh : Below w2.heap.size w2 (w2.alloc (.cells #[.int .u64 i, .int .u64 k, .int .i64 d, .int .i64 f, .int .u64 m] 27)) := boxed _ _
  have HBB : Hid (∀ wx, Below (w2.alloc (.cells #[.int .u64 i, .int .u64 k, .int .i64 d, .int .i64 f, .int .u64 m] 27)).heap.size (w2.alloc (.cells #[.int .u64 i, .int .u64 k, .int .i64 d, .int .i64 f, .int .u64 m] 27)) wx →
      (HdAt wx w.heap.size i k d f m ∧ HdAt wx w2.heap.size i k d f m) ∧ IsTable wx (w.heap.size + 1) ∧ Below w.heap.size w wx) := fun wx hx => by
    have q1 := hbh.trans (hx.mono hbh.size)
    have q2 := hb3.trans (q1.mono hb3.size)
    have q3 : IsTable w2 (w.heap.size + 1) := by rw [World.size_alloc] at ht2; exact ht2
    exact ⟨⟨HBA.out _ q2, hdAt_of hx⟩, IsTable.below q3 q1 q3.lt, HB0.out.trans (q2.mono HB0.out.size)⟩
  clear hb1 hb2 hb3 ht1 ht2 x0 x1 x2 x3 x4
  have hb : Below (w2.alloc (.cells #[.int .u64 i, .int .u64 k, .int .i64 d, .int .i64 f, .int .u64 m] 27)).heap.size (w2.alloc (.cells #[.int .u64 i, .int .u64 k, .int .i64 d, .int .i64 f, .int .u64 m] 27)) (w2.alloc (.cells #[.int .u64 i, .int .u64 k, .int .i64 d, .int .i64 f, .int .u64 m] 27)).drew := below_drewn (Below.refl _ _) 1
  have HK := Lib.hid (HBB.out _ hb).1
  go_region_held3 (fun w' => HdAt w' w.heap.size i k d f m ∧ HdAt w' w2.heap.size i k d f m)
    (first | assumption | exact HK.out | exact (HBB.out _ hb).1)
    (first
      | (go_at_call 9; refine (EN.out _ _ (HBB.out _ hb).2.1).mono ?_; rintro e wx ⟨A1, _, c1, rfl, rfl, ho1, hbx, -, -⟩; have hb := hb.trans (hbx.mono hb.size); have hr1 := Reads.of_own ho1; clear hbx ho1)
      | (go_at_call 10; refine (ER.out _).mono ?_; rintro e wx ⟨A2, _, c2, rfl, rfl, ho2, hbx, -, -⟩; have hb := hb.trans (hbx.mono hb.size); have hr2 := Reads.of_own ho2; have hr1 := hr1.below hbx; clear hbx ho2)
      | (go_at_call 8; refine (same_yes A1 A2 x.length x.length c1 c2 x x _ hr1 hr2 HX.out rfl).mono ?_; rintro e wx ⟨rfl, rfl⟩)
      | (go_at_call 11; refine (R1.out _).mono ?_; rintro e wx ⟨rfl, hbx⟩; have hb := hb.trans (hbx.mono hb.size); clear hbx)
      | (go_at_call 12; refine (R2.out _).mono ?_; rintro e wx ⟨rfl, hbx⟩; have hb := hb.trans (hbx.mono hb.size); clear hbx)
      | (go_at_call 13; refine (hdata_any _ _ _ _ _ _).mono ?_; rintro e wx ⟨rfl, hbx⟩; have hb := hb.trans (hbx.mono hb.size); clear hbx))
  clear hr1 hr2
  go_wp2
  have hb := below_drewn hb 1
  have HK := Lib.hid (HBB.out _ hb).1
  cases r
  · refine wp_region_held_drew (S := fun w' => HdAt w' w.heap.size i k d f m ∧ HdAt w' w2.heap.size i k d f m) (by kernel_rfl) HK.out (fun hHeld => ?_)
    refine takeH_yes (i := 0) (v := ?_) rfl (by kernel_rfl) (by kernel_rfl) (by kernel_rfl) (fun _ _ _ h => h) (by kernel_rfl) ?_ (by assumption) ?_
    rotate_left
    · intro wz hSw; (try dsimp only at hSw); go_simp; try with_reducible rfl
    simp only [Act.put, List.setIfInBounds_toArray, List.set_cons_zero, List.set_cons_succ]
    refine oneH (i := 1) rfl (by kernel_rfl) (fun K hK => ?_)
    go_simp
    go_at_call 12
    refine (R2.out _).mono ?_
    rintro e wx ⟨rfl, hbx⟩
    have hb := hb.trans (hbx.mono hb.size)
    clear hbx
    refine hK.out _ _ (HBB.out _ hb).1 (fun hHeld => ?_)
    clear hK K
    try simp only [Act.put, List.setIfInBounds_toArray, List.set_cons_zero, List.set_cons_succ]
    refine takeH_yes (i := 2) (v := ?_) rfl (by kernel_rfl) (by kernel_rfl) (by kernel_rfl) (fun _ _ _ h => h) (by kernel_rfl) ?_ (by assumption) ?_
    rotate_left
    · intro wz hSw; (try dsimp only at hSw); go_simp; try with_reducible rfl
    simp only [Act.put, List.setIfInBounds_toArray, List.set_cons_zero, List.set_cons_succ]
    refine takeH_no (i := 3) rfl (by kernel_rfl) (by kernel_rfl) (by kernel_rfl) (fun _ _ _ h => h) (by kernel_rfl) (by assumption) ?_
    simp only [Act.put, List.setIfInBounds_toArray, List.set_cons_zero, List.set_cons_succ]
    refine takeH_no (i := 4) rfl (by kernel_rfl) (by kernel_rfl) (by kernel_rfl) (fun _ _ _ h => h) (by kernel_rfl) (by assumption) ?_
    simp only [Act.put, List.setIfInBounds_toArray, List.set_cons_zero, List.set_cons_succ]
    refine takeH_no (i := 5) rfl (by kernel_rfl) (by kernel_rfl) (by kernel_rfl) (fun _ _ _ h => h) (by kernel_rfl) (by assumption) ?_
    simp only [Act.put, List.setIfInBounds_toArray, List.set_cons_zero, List.set_cons_succ]
    refine takeH_no (i := 6) rfl (by kernel_rfl) (by kernel_rfl) (by kernel_rfl) (fun _ _ _ h => h) (by kernel_rfl) (by assumption) ?_
    simp only [Act.put, List.setIfInBounds_toArray, List.set_cons_zero, List.set_cons_succ]
    refine takeH_no (i := 7) rfl (by kernel_rfl) (by kernel_rfl) (by kernel_rfl) (fun _ _ _ h => h) (by kernel_rfl) (by assumption) ?_
    simp only [Act.put, List.setIfInBounds_toArray, List.set_cons_zero, List.set_cons_succ]
    refine takeH_no (i := 8) rfl (by kernel_rfl) (by kernel_rfl) (by kernel_rfl) (fun _ _ _ h => h) (by kernel_rfl) (by assumption) ?_
    simp only [Act.put, List.setIfInBounds_toArray, List.set_cons_zero, List.set_cons_succ]
    refine takeH_no (i := 9) rfl (by kernel_rfl) (by kernel_rfl) (by kernel_rfl) (fun _ _ _ h => h) (by kernel_rfl) (by assumption) ?_
    simp only [Act.put, List.setIfInBounds_toArray, List.set_cons_zero, List.set_cons_succ]
    refine takeH_no (i := 10) rfl (by kernel_rfl) (by kernel_rfl) (by kernel_rfl) (fun _ _ _ h => h) (by kernel_rfl) (by assumption) ?_
    simp only [Act.put, List.setIfInBounds_toArray, List.set_cons_zero, List.set_cons_succ]
    refine takeH_no (i := 11) rfl (by kernel_rfl) (by kernel_rfl) (by kernel_rfl) (fun _ _ _ h => h) (by kernel_rfl) (by assumption) ?_
    simp only [Act.put, List.setIfInBounds_toArray, List.set_cons_zero, List.set_cons_succ]
    refine takeH_no (i := 12) rfl (by kernel_rfl) (by kernel_rfl) (by kernel_rfl) (fun _ _ _ h => h) (by kernel_rfl) (by assumption) ?_
    simp only [Act.put, List.setIfInBounds_toArray, List.set_cons_zero, List.set_cons_succ]
    refine takeH_no (i := 13) rfl (by kernel_rfl) (by kernel_rfl) (by kernel_rfl) (fun _ _ _ h => h) (by kernel_rfl) (by assumption) ?_
    simp only [Act.put, List.setIfInBounds_toArray, List.set_cons_zero, List.set_cons_succ]
    refine takeH_no (i := 14) rfl (by kernel_rfl) (by kernel_rfl) (by kernel_rfl) (fun _ _ _ h => h) (by kernel_rfl) (by assumption) ?_
    simp only [Act.put, List.setIfInBounds_toArray, List.set_cons_zero, List.set_cons_succ]
    refine takeH_no (i := 15) rfl (by kernel_rfl) (by kernel_rfl) (by kernel_rfl) (fun _ _ _ h => h) (by kernel_rfl) (by assumption) ?_
    simp only [Act.put, List.setIfInBounds_toArray, List.set_cons_zero, List.set_cons_succ]
    refine takeH_no (i := 16) rfl (by kernel_rfl) (by kernel_rfl) (by kernel_rfl) (fun _ _ _ h => h) (by kernel_rfl) (by assumption) ?_
    simp only [Act.put, List.setIfInBounds_toArray, List.set_cons_zero, List.set_cons_succ]
    refine takeH_yes (i := 17) (v := ?_) rfl (by kernel_rfl) (by kernel_rfl) (by kernel_rfl) (fun _ _ _ h => h) (by kernel_rfl) ?_ (by assumption) ?_
    rotate_left
    · intro wz hSw; (try dsimp only at hSw); go_simp; try with_reducible rfl
    simp only [Act.put, List.setIfInBounds_toArray, List.set_cons_zero, List.set_cons_succ]
    refine wpAnyH_done (by kernel_rfl) ?_ _
    go_wp2_with (first
      | (go_at_call 17; refine (SL.out _).mono ?_; rintro e w7 ⟨rfl, rfl⟩)
      | (go_at_call 18; refine (awake_any _).mono ?_; rintro e w8 ⟨rfl, hbx⟩; have hb9 := hb.trans (hbx.mono hb.size); clear hbx))
    go_ret
    exact ⟨rfl, (HBB.out _ hb9).2.2⟩
  · obtain ⟨d1, d2, f1, f2⟩ := HBD.out rfl
    have e1 : IntKind.i64.wrap (8 * d) = 8 * d := by rw [IntKind.wrap_i64]; omega
    have e2 : IntKind.i64.wrap (256 + 8 * d) = 256 + 8 * d := by rw [IntKind.wrap_i64]; omega
    go_region_held3 (fun w' => HdAt w' w.heap.size i k d f m ∧ HdAt w' w2.heap.size i k d f m)
      (first | assumption | exact HK.out | exact (HBB.out _ hb).1)
      (first
        | (go_at_call 12; refine (R2.out _).mono ?_; rintro e wx ⟨rfl, hbx⟩; have hb := hb.trans (hbx.mono hb.size); clear hbx)
        | (go_at_call 14; refine (hfield_any _ _ _ _ _ _ (by omega) d2).mono ?_; rintro e wx ⟨rfl, hbx⟩; have hb := hb.trans (hbx.mono hb.size); clear hbx)
        | (go_at_call 15; refine (hobjects_any _ _ _ _ _ _ (by omega) d2 (by omega) f2).mono ?_; rintro e wx ⟨rfl, hbx⟩; have hb := hb.trans (hbx.mono hb.size); clear hbx)
        | (go_at_call 16; refine (rhobjects_any _ _ _ _ _ _ (by omega) d2 (by omega) f2).mono ?_; rintro e wx ⟨rfl, hbx⟩; have hb := hb.trans (hbx.mono hb.size); clear hbx))
    go_wp2_with (first
      | (go_at_call 17; refine (SL.out _).mono ?_; rintro e w7 ⟨rfl, rfl⟩)
      | (go_at_call 18; refine (awake_any _).mono ?_; rintro e w8 ⟨rfl, hbx⟩; have hb9 := hb.trans (hbx.mono hb.size); clear hbx))
    go_ret
    exact ⟨rfl, (HBB.out _ hb9).2.2⟩

end Go.Proofs.Ytjbkkimgiageaaa
