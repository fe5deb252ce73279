/-
  LAYER 18: the walk of ClipCuts.
-/
import Derived.Test.YtaeegcohimflbaaGreatCaE
import Derived.BigQuiet
import Derived.Deep.Cut
set_option linter.unusedVariables false
set_option maxRecDepth 100000
set_option linter.unusedSimpArgs false
namespace Go.Proofs.YtaeegcohimflbaaGreat
open Go.RowKit Go.Shelf

set_option maxHeartbeats 4000000 in
theorem cuts_law (a f : Int) (A : Option Addr) (n c : Nat) (zs : List Int) (to : Int) (w : World) (ha : (Lit.int .u8 a).wf = true) (hf : (Lit.int .u8 f).wf = true) (hin : InInts w .u8 A n c zs) (hto : (Lit.int .i64 to).wf = true) :
    Calls Tryz.prog 3 #[.int .u8 a, .int .u8 f, .slice A n c, .int .i64 to] w fun e w' => e = .returned (.bool true) ∧ Below w.heap.size w w' := by
  have AW := Lib.hid clawake_any
  have ba := wf_u8_bd ha
  have bf := wf_u8_bd hf
  have hbt := bounds_i64 hto
  have hz : AreB zs := fun z hz => wf_u8_bd (hin.wf z hz)
  have hl := hin.le
  have hcap := hin.cap
  obtain ⟨D, hD⟩ : ∃ D, 1 + a % 5 = D := ⟨_, rfl⟩
  obtain ⟨F, hF⟩ : ∃ F, 1 + f % 5 = F := ⟨_, rfl⟩
  have hR : rightH D F = true := by simp [rightH]; omega
  have HH := Lib.hid (fun wx => header_any a f D F wx ba.1 ba.2 bf.1 bf.2 hD hF)
  have RD := Lib.hid (fun wx (hx : Below w.heap.size w wx) => hin.reads.below hx)
  obtain ⟨L, hL⟩ := scan_ex (zs.take (cutN n to)) ((newK D F : Nat) : Int)
  clear ha hf hto hin hD hF ba bf
  have hb : Below w.heap.size w w := Below.refl _ _
  by_cases hq : 3000 < n
  · have t1 : (3000 : Int) < (n : Int) := by omega
    clear hL
    go_enter Tryz.func3, Tryz.ntmps3
    go_wp2_with (first
      | (go_at_call 6; refine (AW.out _).mono ?_; rintro e wx ⟨rfl, hbx⟩; have hb := hb.trans (hbx.mono hb.size); clear hbx)
      | (go_at_call 7; refine (HH.out _).mono ?_; rintro e wx ⟨rfl, hbx⟩; have hb := hb.trans (hbx.mono hb.size); clear hbx; have hb := (hb.alloc hb.size (.cells #[.int .u64 1, .int .u64 2, .int .i64 D, .int .i64 F, .int .u64 0] 26)).alloc (by have := hb.size; simp; omega) (.cells #[.int .u64 1, .int .u64 2, .int .i64 D, .int .i64 F, .int .u64 0] 27)))
    go_ret
    exact ⟨rfl, hb⟩
  have t1 : ¬ (3000 : Int) < (n : Int) := by omega
  have t2 : (n : Int) ≤ 3000 := by omega
  go_enter Tryz.func3, Tryz.ntmps3
  go_upto_region 6 with (first
    | (go_at_call 6; refine (AW.out _).mono ?_; rintro e wx ⟨rfl, hbx⟩; have hb := hb.trans (hbx.mono hb.size); clear hbx)
    | (go_at_call 7; refine (HH.out _).mono ?_; rintro e w2 ⟨rfl, hbx⟩; have hb := hb.trans (hbx.mono hb.size); clear hbx))
  obtain ⟨W2, hW2, X2⟩ : ∃ W2, (w2.alloc (.cells #[.int .u64 1, .int .u64 2, .int .i64 D, .int .i64 F, .int .u64 0] 26)).alloc (.cells #[.int .u64 1, .int .u64 2, .int .i64 D, .int .i64 F, .int .u64 0] 27) = W2 ∧ Hid (HdTwo w2 W2 D F) := ⟨_, rfl, Lib.hid (hdTwo _ _ _)⟩
  rw [hW2]
  have HD := Lib.hid (fun wx (hx : Below W2.heap.size W2 wx) => (⟨hdAt_blk (X2.out.hd.below hx X2.out.hd.lt), hdAt_blk (X2.out.rf.below hx X2.out.rf.lt)⟩ : HdAt wx w2.heap.size 1 2 D F 0 ∧ HdAt wx (w2.heap.size + 1) 1 2 D F 0))
  have HB2 := Lib.hid (hb.trans (X2.out.below.mono hb.size))
  have HRD := Lib.hid (fun wx (hx : Below W2.heap.size W2 wx) => (RD.out wx (HB2.out.trans (hx.mono HB2.out.size))))
  have hwB := HB2.out.size
  clear hW2 hb
  obtain ⟨g1, hg1⟩ : ∃ g1, w2.heap.size = g1 := ⟨_, rfl⟩
  rw [hg1] at HD
  try rw [hg1]
  clear hg1
  have hb : Below W2.heap.size W2 W2 := Below.refl _ _
  obtain ⟨⟨y0, y1, y2, y3, y4⟩, z0, z1, z2, z3, z4⟩ := HD.out _ hb
  by_cases hok : ((newK D F : Nat) : Int) ≤ to ∧ wholeB n (newK D F : Nat) to L = true
  · obtain ⟨hk1, hk2⟩ := hok
    have hk2' := hk2
    unfold wholeB at hk2'
    obtain ⟨-, hk3, hk4⟩ := of_decide_eq_true hk2'
    obtain ⟨T, rfl⟩ : ∃ T : Nat, to = T := ⟨to.toNat, by omega⟩
    have hcN : cutN n T = T := by unfold cutN; omega
    rw [hcN] at hL
    have CY := Lib.hid (fun wx (hx : Below W2.heap.size W2 wx) => cut_yes 1 2 D F 0 A n c zs T L wx (HRD.out wx hx) (Nat.le_trans hwB hx.size) hz hl hcap (by omega) hR (by omega) (by omega) hL hk4)
    have RY := Lib.hid (fun wx (hx : Below W2.heap.size W2 wx) => rcut_yes 1 2 D F 0 A n c zs T L wx (HRD.out wx hx) (Nat.le_trans hwB hx.size) hz hl hcap (by omega) hR (by omega) (by omega) hL hk4)
    have WY := Lib.hid (fun wx (hx : Below W2.heap.size W2 wx) => cwords_any 1 2 D F 0 A n c zs T L wx (HRD.out wx hx) (Nat.le_trans hwB hx.size) hz hl hcap (by omega) hR (by omega) (by omega) (by rw [hcN]; exact hL))
    have VY := Lib.hid (fun wx (hx : Below W2.heap.size W2 wx) => rcwords_any 1 2 D F 0 A n c zs T L wx (HRD.out wx hx) (Nat.le_trans hwB hx.size) hz hl hcap (by omega) hR (by omega) (by omega) (by rw [hcN]; exact hL))
    have hlz : zs.length = n := (HRD.out _ hb).len
    have hzt : (zs.take T).length = T := by rw [List.length_take]; omega
    have hnk := newK_eq hR
    have hwl : ∀ q ∈ wordsS (newK D F) L, q + 8 ≤ (zs.take T).length := fun q hq => (wordsS_fit (by omega) (by omega) (by omega) hL q hq).2.1
    obtain ⟨o1, o2, o3, -⟩ := cutF_ok (T : Nat) (wordsS (newK D F) L) (zs.take T, []) (hz.take T) hwl
    have hml := words_most hR hL
    obtain ⟨x1, hx1⟩ : ∃ x, (cutW D F L zs T).1 = x := ⟨_, rfl⟩
    obtain ⟨x2, hx2⟩ : ∃ x, (cutW D F L zs T).2 = x := ⟨_, rfl⟩
    have hb1 : AreB x1 := by rw [← hx1]; exact o2
    have hl2 : x2.length ≤ 1000000 := by
      rw [← hx2]
      have h9 : (cutW D F L zs T).2.length ≤ 0 + (wordsS (newK D F) L).length := o3
      omega
    rw [hx1, hx2] at CY RY
    obtain ⟨ws, hws⟩ : ∃ ws, wordsS (newK D F) L = ws := ⟨_, rfl⟩
    rw [hws] at WY VY
    have hwl2 : ws.length ≤ 1000000 := by rw [← hws]; omega
    have HX1 := Lib.hid hb1
    clear hx1 hx2 hws o1 o2 o3 hwl hml hzt hlz hcN hk1 hk2 hk2' hk3 hk4 hL hnk
    go_wp2_with (first
      | (go_at_call 8; refine (CY.out _ hb).mono ?_; rintro e w3 ⟨A3, c3, v3, rfl, ho3, hp3, -, -, hbx⟩; obtain ⟨B3, d3, rfl, -, -⟩ := own_form hp3; have hb := hb.trans (hbx.mono hb.size); have H3 := Lib.hid (And.intro ho3 hp3); clear ho3 hp3 hbx y0 y1 y2 y3 y4 z0 z1 z2 z3 z4; obtain ⟨⟨y0, y1, y2, y3, y4⟩, z0, z1, z2, z3, z4⟩ := HD.out _ hb)
      | (go_at_call 9; refine (RY.out _ hb).mono ?_; rintro e w4 ⟨A4, c4, v4, rfl, ho4, hp4, -, -, hbx⟩; obtain ⟨B4, d4, rfl, -, -⟩ := own_form hp4; have hb34 := hbx; have hb := hb.trans (hbx.mono hb.size); have H4 := Lib.hid (And.intro ho4 (And.intro hp4 hb34)); clear ho4 hp4 hbx hb34 y0 y1 y2 y3 y4 z0 z1 z2 z3 z4))
    have HB4 := Lib.hid hb
    have hb : Below w4.heap.size w4 w4.drew := below_drewn (Below.refl _ _) 1
    have HD4 := Lib.hid (fun wx (hx : Below w4.heap.size w4 wx) => HD.out wx (HB4.out.trans (hx.mono HB4.out.size)))
    have HK := Lib.hid (HD4.out _ hb)
    have SM := Lib.hid (fun wx (hx : Below w4.heap.size w4 wx) => same_yes A3 A4 T T c3 c4 x1 x1 wx (((Reads.of_own H3.out.1).below (H4.out.2.2)).below (hx.mono H4.out.2.2.size)) ((Reads.of_own H4.out.1).below hx) HX1.out (Lib.hid rfl))
    have IN := Lib.hid (fun wx (hx : Below w4.heap.size w4 wx) => ints_yes B3 B4 x2.length x2.length d3 d4 (nI x2) wx (((Reads.of_own H3.out.2).below (H4.out.2.2)).below (hx.mono H4.out.2.2.size)) ((Reads.of_own H4.out.2.1).below hx) (by omega))
    have m1 : True := trivial
    go_region_held3 (fun w' => HdAt w' g1 1 2 D F 0 ∧ HdAt w' (g1 + 1) 1 2 D F 0)
      (first | assumption | exact HK.out | exact HD4.out _ (by assumption))
      (first
        | (go_at_call 10; refine (SM.out _ hb).mono ?_; rintro e wx ⟨rfl, rfl⟩)
        | (clear m1; go_at_call 11; refine (IN.out _ hb).mono ?_; rintro e wx ⟨rfl, hbx⟩; have hb := hb.trans (hbx.mono hb.size); clear hbx)
        | (go_at_call 12; refine (WY.out _ (HB4.out.trans (hb.mono HB4.out.size))).mono ?_; rintro e w6 ⟨v6, rfl, ho6, hbx⟩; obtain ⟨A6, c6, rfl, -, -⟩ := own_form ho6; have hb := hb.trans (hbx.mono hb.size); have H6 := Lib.hid ho6; clear ho6 hbx)
        | (go_at_call 13; refine (VY.out _ (HB4.out.trans (hb.mono HB4.out.size))).mono ?_; rintro e w7 ⟨v7, rfl, ho7, hbx⟩; obtain ⟨A7, c7, rfl, -, -⟩ := own_form ho7; have hb := hb.trans (hbx.mono hb.size); have H7 := Lib.hid (And.intro ho7 hbx); clear ho7 hbx)
        | (go_at_call 11; refine (ints_yes A6 A7 ws.length ws.length c6 c7 (nI ws) _ ((Reads.of_own H6.out).below H7.out.2) (Reads.of_own H7.out.1) (by omega)).mono ?_; rintro e wx ⟨rfl, hbx⟩; have hb := hb.trans (hbx.mono hb.size); clear hbx)
        | (go_at_call 6; refine (AW.out _).mono ?_; rintro e wx ⟨rfl, hbx⟩; have hb := hb.trans (hbx.mono hb.size); clear hbx))
    go_wp2
    go_ret
    exact ⟨rfl, HB2.out.trans ((HB4.out.trans (hb.mono HB4.out.size)).mono HB2.out.size)⟩
  · have hno : to < ((newK D F : Nat) : Int) ∨ wholeB n (newK D F : Nat) to L = false := by
      by_cases h1 : to < ((newK D F : Nat) : Int)
      · exact .inl h1
      · right
        cases h2 : wholeB n (newK D F : Nat) to L with
        | false => rfl
        | true => exact absurd ⟨by omega, h2⟩ hok
    have CN := Lib.hid (fun wx (hx : Below W2.heap.size W2 wx) => cut_no 1 2 D F 0 A n c zs to L wx (HRD.out wx hx) (Nat.le_trans hwB hx.size) hz hl hcap (by omega) hR hbt.1 hbt.2 hL hno)
    have RN := Lib.hid (fun wx (hx : Below W2.heap.size W2 wx) => rcut_no 1 2 D F 0 A n c zs to L wx (HRD.out wx hx) (Nat.le_trans hwB hx.size) hz hl hcap (by omega) hR hbt.1 hbt.2 hL hno)
    clear hok hno hL
    go_wp2_with (first
      | (go_at_call 8; refine (CN.out _ hb).mono ?_; rintro e w3 ⟨rfl, hbx⟩; have hb := hb.trans (hbx.mono hb.size); clear hbx y0 y1 y2 y3 y4 z0 z1 z2 z3 z4; obtain ⟨⟨y0, y1, y2, y3, y4⟩, z0, z1, z2, z3, z4⟩ := HD.out _ hb)
      | (go_at_call 9; refine (RN.out _ hb).mono ?_; rintro e w4 ⟨rfl, hbx⟩; have hb := hb.trans (hbx.mono hb.size); clear hbx y0 y1 y2 y3 y4 z0 z1 z2 z3 z4))
    have HB4 := Lib.hid hb
    have hb : Below w4.heap.size w4 w4.drew := below_drewn (Below.refl _ _) 1
    have HD4 := Lib.hid (fun wx (hx : Below w4.heap.size w4 wx) => HD.out wx (HB4.out.trans (hx.mono HB4.out.size)))
    have HK := Lib.hid (HD4.out _ hb)
    have SM := Lib.hid (fun wx => same_yes none none 0 0 0 0 [] [] wx (B := 0) (B' := 0) Reads.none_ Reads.none_ (by intro z hz; cases hz) (Lib.hid rfl))
    have IN := Lib.hid (fun wx => ints_yes none none 0 0 0 0 [] wx (B := 0) (B' := 0) (Reads.none_) (Reads.none_) (by omega))
    refine wp_region_held_drew (S := fun w' => HdAt w' g1 1 2 D F 0 ∧ HdAt w' (g1 + 1) 1 2 D F 0) (by kernel_rfl) HK.out (fun hHeld => ?_)
    refine takeH_yes (i := 0) (v := ?_) rfl (by kernel_rfl) (by kernel_rfl) (by kernel_rfl) (fun _ _ _ h => h) (by kernel_rfl) ?_ (by assumption) ?_
    rotate_left
    · intro wz hSw; (try dsimp only at hSw); go_simp; try with_reducible rfl
    simp only [Act.put, List.setIfInBounds_toArray, List.set_cons_zero, List.set_cons_succ]
    refine takeH_yes (i := 1) (v := ?_) rfl (by kernel_rfl) (by kernel_rfl) (by kernel_rfl) (fun _ _ _ h => h) (by kernel_rfl) ?_ (by assumption) ?_
    rotate_left
    · intro wz hSw; (try dsimp only at hSw); go_simp; try with_reducible rfl
    simp only [Act.put, List.setIfInBounds_toArray, List.set_cons_zero, List.set_cons_succ]
    refine oneH (i := 2) rfl (by kernel_rfl) (fun K hK => ?_)
    go_simp
    go_at_call 10
    refine (SM.out _).mono ?_
    rintro e wx ⟨rfl, rfl⟩
    refine hK.out _ _ (HD4.out _ hb) (fun hHeld => ?_)
    clear hK K
    try simp only [Act.put, List.setIfInBounds_toArray, List.set_cons_zero, List.set_cons_succ]
    refine takeH_yes (i := 3) (v := ?_) rfl (by kernel_rfl) (by kernel_rfl) (by kernel_rfl) (fun _ _ _ h => h) (by kernel_rfl) ?_ (by assumption) ?_
    rotate_left
    · intro wz hSw; (try dsimp only at hSw); go_simp; try with_reducible rfl
    simp only [Act.put, List.setIfInBounds_toArray, List.set_cons_zero, List.set_cons_succ]
    refine takeH_yes (i := 4) (v := ?_) rfl (by kernel_rfl) (by kernel_rfl) (by kernel_rfl) (fun _ _ _ h => h) (by kernel_rfl) ?_ (by assumption) ?_
    rotate_left
    · intro wz hSw; (try dsimp only at hSw); go_simp; try with_reducible rfl
    simp only [Act.put, List.setIfInBounds_toArray, List.set_cons_zero, List.set_cons_succ]
    refine takeH_yes (i := 5) (v := ?_) rfl (by kernel_rfl) (by kernel_rfl) (by kernel_rfl) (fun _ _ _ h => h) (by kernel_rfl) ?_ (by assumption) ?_
    rotate_left
    · intro wz hSw; (try dsimp only at hSw); go_simp; try with_reducible rfl
    simp only [Act.put, List.setIfInBounds_toArray, List.set_cons_zero, List.set_cons_succ]
    refine oneH (i := 6) rfl (by kernel_rfl) (fun K hK => ?_)
    go_simp
    go_at_call 11
    refine (IN.out _).mono ?_
    rintro e wx ⟨rfl, hbx⟩
    have hb := hb.trans (hbx.mono hb.size)
    clear hbx
    refine hK.out _ _ (HD4.out _ hb) (fun hHeld => ?_)
    clear hK K
    try simp only [Act.put, List.setIfInBounds_toArray, List.set_cons_zero, List.set_cons_succ]
    refine takeH_yes (i := 7) (v := ?_) rfl (by kernel_rfl) (by kernel_rfl) (by kernel_rfl) (fun _ _ _ h => h) (by kernel_rfl) ?_ (by assumption) ?_
    rotate_left
    · intro wz hSw; (try dsimp only at hSw); go_simp; try with_reducible rfl
    simp only [Act.put, List.setIfInBounds_toArray, List.set_cons_zero, List.set_cons_succ]
    refine takeH_yes (i := 8) (v := ?_) rfl (by kernel_rfl) (by kernel_rfl) (by kernel_rfl) (fun _ _ _ h => h) (by kernel_rfl) ?_ (by assumption) ?_
    rotate_left
    · intro wz hSw; (try dsimp only at hSw); go_simp; try with_reducible rfl
    simp only [Act.put, List.setIfInBounds_toArray, List.set_cons_zero, List.set_cons_succ]
    refine takeH_yes (i := 9) (v := ?_) rfl (by kernel_rfl) (by kernel_rfl) (by kernel_rfl) (fun _ _ _ h => h) (by kernel_rfl) ?_ (by assumption) ?_
    rotate_left
    · intro wz hSw; (try dsimp only at hSw); go_simp; try with_reducible rfl
    simp only [Act.put, List.setIfInBounds_toArray, List.set_cons_zero, List.set_cons_succ]
    refine takeH_yes (i := 10) (v := ?_) rfl (by kernel_rfl) (by kernel_rfl) (by kernel_rfl) (fun _ _ _ h => h) (by kernel_rfl) ?_ (by assumption) ?_
    rotate_left
    · intro wz hSw; (try dsimp only at hSw); go_simp; try with_reducible rfl
    simp only [Act.put, List.setIfInBounds_toArray, List.set_cons_zero, List.set_cons_succ]
    refine takeH_yes (i := 11) (v := ?_) rfl (by kernel_rfl) (by kernel_rfl) (by kernel_rfl) (fun _ _ _ h => h) (by kernel_rfl) ?_ (by assumption) ?_
    rotate_left
    · intro wz hSw; (try dsimp only at hSw); go_simp; try with_reducible rfl
    simp only [Act.put, List.setIfInBounds_toArray, List.set_cons_zero, List.set_cons_succ]
    refine takeH_yes (i := 12) (v := ?_) rfl (by kernel_rfl) (by kernel_rfl) (by kernel_rfl) (fun _ _ _ h => h) (by kernel_rfl) ?_ (by assumption) ?_
    rotate_left
    · intro wz hSw; (try dsimp only at hSw); go_simp; try with_reducible rfl
    simp only [Act.put, List.setIfInBounds_toArray, List.set_cons_zero, List.set_cons_succ]
    refine takeH_yes (i := 13) (v := ?_) rfl (by kernel_rfl) (by kernel_rfl) (by kernel_rfl) (fun _ _ _ h => h) (by kernel_rfl) ?_ (by assumption) ?_
    rotate_left
    · intro wz hSw; (try dsimp only at hSw); go_simp; try with_reducible rfl
    simp only [Act.put, List.setIfInBounds_toArray, List.set_cons_zero, List.set_cons_succ]
    refine takeH_yes (i := 14) (v := ?_) rfl (by kernel_rfl) (by kernel_rfl) (by kernel_rfl) (fun _ _ _ h => h) (by kernel_rfl) ?_ (by assumption) ?_
    rotate_left
    · intro wz hSw; (try dsimp only at hSw); go_simp; try with_reducible rfl
    simp only [Act.put, List.setIfInBounds_toArray, List.set_cons_zero, List.set_cons_succ]
    refine takeH_yes (i := 15) (v := ?_) rfl (by kernel_rfl) (by kernel_rfl) (by kernel_rfl) (fun _ _ _ h => h) (by kernel_rfl) ?_ (by assumption) ?_
    rotate_left
    · intro wz hSw; (try dsimp only at hSw); go_simp; try with_reducible rfl
    simp only [Act.put, List.setIfInBounds_toArray, List.set_cons_zero, List.set_cons_succ]
    refine takeH_yes (i := 16) (v := ?_) rfl (by kernel_rfl) (by kernel_rfl) (by kernel_rfl) (fun _ _ _ h => h) (by kernel_rfl) ?_ (by assumption) ?_
    rotate_left
    · intro wz hSw; (try dsimp only at hSw); go_simp; try with_reducible rfl
    simp only [Act.put, List.setIfInBounds_toArray, List.set_cons_zero, List.set_cons_succ]
    refine takeH_no (i := 17) rfl (by kernel_rfl) (by kernel_rfl) (by kernel_rfl) (fun _ _ _ h => h) (by kernel_rfl) (by assumption) ?_
    simp only [Act.put, List.setIfInBounds_toArray, List.set_cons_zero, List.set_cons_succ]
    refine takeH_no (i := 18) rfl (by kernel_rfl) (by kernel_rfl) (by kernel_rfl) (fun _ _ _ h => h) (by kernel_rfl) (by assumption) ?_
    simp only [Act.put, List.setIfInBounds_toArray, List.set_cons_zero, List.set_cons_succ]
    refine takeH_no (i := 19) rfl (by kernel_rfl) (by kernel_rfl) (by kernel_rfl) (fun _ _ _ h => h) (by kernel_rfl) (by assumption) ?_
    simp only [Act.put, List.setIfInBounds_toArray, List.set_cons_zero, List.set_cons_succ]
    refine takeH_no (i := 20) rfl (by kernel_rfl) (by kernel_rfl) (by kernel_rfl) (fun _ _ _ h => h) (by kernel_rfl) (by assumption) ?_
    simp only [Act.put, List.setIfInBounds_toArray, List.set_cons_zero, List.set_cons_succ]
    refine takeH_no (i := 21) rfl (by kernel_rfl) (by kernel_rfl) (by kernel_rfl) (fun _ _ _ h => h) (by kernel_rfl) (by assumption) ?_
    simp only [Act.put, List.setIfInBounds_toArray, List.set_cons_zero, List.set_cons_succ]
    refine takeH_no (i := 22) rfl (by kernel_rfl) (by kernel_rfl) (by kernel_rfl) (fun _ _ _ h => h) (by kernel_rfl) (by assumption) ?_
    simp only [Act.put, List.setIfInBounds_toArray, List.set_cons_zero, List.set_cons_succ]
    refine takeH_no (i := 23) rfl (by kernel_rfl) (by kernel_rfl) (by kernel_rfl) (fun _ _ _ h => h) (by kernel_rfl) (by assumption) ?_
    simp only [Act.put, List.setIfInBounds_toArray, List.set_cons_zero, List.set_cons_succ]
    refine takeH_no (i := 24) rfl (by kernel_rfl) (by kernel_rfl) (by kernel_rfl) (fun _ _ _ h => h) (by kernel_rfl) (by assumption) ?_
    simp only [Act.put, List.setIfInBounds_toArray, List.set_cons_zero, List.set_cons_succ]
    refine takeH_no (i := 25) rfl (by kernel_rfl) (by kernel_rfl) (by kernel_rfl) (fun _ _ _ h => h) (by kernel_rfl) (by assumption) ?_
    simp only [Act.put, List.setIfInBounds_toArray, List.set_cons_zero, List.set_cons_succ]
    refine takeH_yes (i := 26) (v := ?_) rfl (by kernel_rfl) (by kernel_rfl) (by kernel_rfl) (fun _ _ _ h => h) (by kernel_rfl) ?_ (by assumption) ?_
    rotate_left
    · intro wz hSw; (try dsimp only at hSw); go_simp; try with_reducible rfl
    simp only [Act.put, List.setIfInBounds_toArray, List.set_cons_zero, List.set_cons_succ]
    refine takeH_yes (i := 27) (v := ?_) rfl (by kernel_rfl) (by kernel_rfl) (by kernel_rfl) (fun _ _ _ h => h) (by kernel_rfl) ?_ (by assumption) ?_
    rotate_left
    · intro wz hSw; (try dsimp only at hSw); go_simp; try with_reducible rfl
    simp only [Act.put, List.setIfInBounds_toArray, List.set_cons_zero, List.set_cons_succ]
    refine takeH_yes (i := 28) (v := ?_) rfl (by kernel_rfl) (by kernel_rfl) (by kernel_rfl) (fun _ _ _ h => h) (by kernel_rfl) ?_ (by assumption) ?_
    rotate_left
    · intro wz hSw; (try dsimp only at hSw); go_simp; try with_reducible rfl
    simp only [Act.put, List.setIfInBounds_toArray, List.set_cons_zero, List.set_cons_succ]
    refine oneH (i := 29) rfl (by kernel_rfl) (fun K hK => ?_)
    go_simp
    go_at_call 6
    refine (AW.out _).mono ?_
    rintro e wx ⟨rfl, hbx⟩
    have hb := hb.trans (hbx.mono hb.size)
    clear hbx
    refine hK.out _ _ (HD4.out _ hb) (fun hHeld => ?_)
    clear hK K
    try simp only [Act.put, List.setIfInBounds_toArray, List.set_cons_zero, List.set_cons_succ]
    refine takeH_yes (i := 30) (v := ?_) rfl (by kernel_rfl) (by kernel_rfl) (by kernel_rfl) (fun _ _ _ h => h) (by kernel_rfl) ?_ (by assumption) ?_
    rotate_left
    · intro wz hSw; (try dsimp only at hSw); go_simp; try with_reducible rfl
    simp only [Act.put, List.setIfInBounds_toArray, List.set_cons_zero, List.set_cons_succ]
    refine takeH_yes (i := 31) (v := ?_) rfl (by kernel_rfl) (by kernel_rfl) (by kernel_rfl) (fun _ _ _ h => h) (by kernel_rfl) ?_ (by assumption) ?_
    rotate_left
    · intro wz hSw; (try dsimp only at hSw); go_simp; try with_reducible rfl
    simp only [Act.put, List.setIfInBounds_toArray, List.set_cons_zero, List.set_cons_succ]
    refine wpAnyH_done (by kernel_rfl) ?_ _
    go_wp2
    go_ret
    exact ⟨rfl, HB2.out.trans ((HB4.out.trans (hb.mono HB4.out.size)).mono HB2.out.size)⟩
end Go.Proofs.YtaeegcohimflbaaGreat
