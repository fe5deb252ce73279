/-
  LAYER 9: the walk of ObjWrites.
-/
import Derived.Test.YtbgdaiecmpjcbaaObjLaw
import Derived.Test.YtbgdaiecmpjcbaaObjEncR
import Derived.Test.YtbgdaiecmpjcbaaRegionH
set_option linter.unusedVariables false
set_option linter.unusedSimpArgs false
set_option maxRecDepth 100000
namespace Go.Proofs.Ytbgdaiecmpjcbaa
open Go.RowKit

/-- How many bytes an object's are. -/
theorem encR_size {k : Int} {ws rs is : List Int} (h : rightN k ws.length rs.length is.length = true) : algn (bareN k rs.length is.length : Nat) = ((encR k ws rs is).length : Int) := by
  obtain ⟨h1, _⟩ := rightN_len h
  have e : 16 + 8 * ws.length + rs.length + 8 * is.length = bareN k rs.length is.length := by unfold bareN frontN; omega
  unfold encR
  rw [if_pos h]
  unfold encO
  rw [List.length_append, List.length_replicate, headO_length, e, algn_at (by omega), padn_eight]
  omega

set_option maxHeartbeats 4000000 in
theorem writes_law (k : Int) (A : Option Addr) (n c : Nat) (ws : List Int) (B : Option Addr) (m d : Nat) (rs : List Int) (C : Option Addr) (p q : Nat) (is : List Int) (a b : Int) (w : World)
    (ha : ObIn w k A n c ws B m d rs C p q is) (h1 : (Lit.int .u16 a).wf = true) (h2 : (Lit.int .u16 b).wf = true) :
    Calls Try.prog 3 #[obV k A n c B m d C p q, .int .u16 a, .int .u16 b] w fun e w' => e = .returned (.bool true) ∧ Below w.heap.size w w' := by
  have ba := bounds_u16 h1
  have bb := bounds_u16 h2
  have b1 := ha.wi.cap
  have b2 := ha.wi.le
  have b3 := ha.ri.cap
  have b4 := ha.ri.le
  have b5 := ha.ii.cap
  have b6 := ha.ii.le
  have LA := Lib.hid (fun w => light_any k A n c B m d C p q w (by omega) (by omega) (by omega))
  obtain ⟨la, hla⟩ : ∃ b, lightN n m p = b := ⟨_, rfl⟩
  rw [hla] at LA
  have hb0 : Below w.heap.size w (w.alloc (.cells #[.int .i64 k, .slice A n c, .slice B m d, .slice C p q] 25)) := (Below.refl _ _).alloc (Nat.le_refl _) _
  have HBA := Lib.hid (fun wx (hx : Below (w.alloc (.cells #[.int .i64 k, .slice A n c, .slice B m d, .slice C p q] 25)).heap.size (w.alloc (.cells #[.int .i64 k, .slice A n c, .slice B m d, .slice C p q] 25)) wx) => (obAt_of hx : ObAt wx w.heap.size k A n c B m d C p q))
  cases la
  · clear ha b1 b2 b3 b4 b5 b6 hla h1 h2
    go_enter Try.func3, Try.ntmps3
    go_wp2_with (first
      | (go_at_call 7; refine (LA.out _).mono ?_; rintro e w1 ⟨rfl, hb1⟩)
      | (go_at_call 8; refine (awake_any _).mono ?_; rintro e w5 ⟨rfl, hb5⟩))
    go_ret
    exact ⟨rfl, (hb0.trans (hb1.mono hb0.size)).trans (hb5.mono (hb0.trans (hb1.mono hb0.size)).size)⟩
  have l1 := lightN_len hla
  have HA := Lib.hid (fun wx (hx : Below w.heap.size w wx) => ha.reads.below hx (Nat.le_refl _))
  have hwd := ha.words
  have hby := ha.bytes
  have e1 := ha.wi.reads.len
  have e2 := ha.ri.reads.len
  have e3 := ha.ii.reads.len
  have EN := Lib.hid (fun wx (hx : Below w.heap.size w wx) => oenc_any k A n c ws B m d rs C p q is wx (HA.out wx hx) hx.size)
  have ER := Lib.hid (fun wx (hx : Below w.heap.size w wx) => roenc_any k A n c ws B m d rs C p q is wx (HA.out wx hx) hx.size hwd.1 hwd.2)
  have HXB : Hid (AreB (encR k ws rs is)) := encR_bytes hby
  obtain ⟨r, hr⟩ : ∃ r, rightN k n m p = r := ⟨_, rfl⟩
  have HSZ : Hid (r = true → algn (bareN k m p : Nat) = ((encR k ws rs is).length : Int)) := fun h => by rw [← e2, ← e3]; exact encR_size (by rw [e1, e2, e3, hr, h])
  generalize encR k ws rs is = x at *
  have R1 := Lib.hid (fun w => oright_any k A n c B m d C p q w (by omega) (by omega) (by omega))
  have R2 := Lib.hid (fun w => rright_any k A n c B m d C p q w (by omega) (by omega) (by omega))
  have Z1 := Lib.hid (fun w => osize_any k A n c B m d C p q w (by omega) (by omega))
  rw [hr] at R1 R2
  have W1 := Lib.hid (owords_any k)
  have W2 := Lib.hid (rwordsk_any k)
  have F1 := Lib.hid (ofront_any k)
  have I1 := Lib.hid (fun w => oitem_any k b w (by omega) (by omega))
  have T1 := Lib.hid (fun w => oat_any a w (by omega) (by omega))
  have hM5 := kwN_le k
  have hfk : frontN k = 16 + 8 * kwN k := rfl
  generalize frontN k = F at *
  generalize kwN k = M at *
  have hF : (F : Int) = 16 + 8 * (M : Int) := by omega
  rw [hF] at F1 I1
  have hwa : IntKind.i64.wrap a = a := by rw [IntKind.wrap_i64]; omega
  have hwb : IntKind.i64.wrap b = b := by rw [IntKind.wrap_i64]; omega
  have HB0 := Lib.hid hb0
  clear ha b1 b2 b3 b4 b5 b6 hla hb0 h1 h2 hwd hby e1 e2 e3 HA l1 hr hfk hF
  go_enter Try.func3, Try.ntmps3
  go_wp2_with (first
    | (go_at_call 7; refine (LA.out _).mono ?_; rintro e w1 ⟨rfl, hb1⟩; have hb2 := below_drewn hb1 1; clear hb1))
  have hb := hb2
  clear hb2
  have HK := Lib.hid (HBA.out _ hb)
  go_region_held3 (fun w' => ObAt w' w.heap.size k A n c B m d C p q)
    (first | assumption | exact HK.out | exact HBA.out _ hb)
    (first
      | (go_at_call 10; refine (to_any _ _ _ _ _ _ _ _ _ _ _).mono ?_; rintro e wx ⟨rfl, hbx⟩; have hb := hb.trans (hbx.mono hb.size); clear hbx)
      | (go_at_call 9; refine (EN.out _ (HB0.out.trans (hb.mono HB0.out.size))).mono ?_; rintro e wx ⟨A1, N1, c1, rfl, hN1, ho1, hbx, -, -⟩; have hb := hb.trans (hbx.mono hb.size); have hr1 := Reads.of_own ho1; have HN1 := Lib.hid hN1; clear hbx ho1 hN1)
      | (go_at_call 11; refine (ER.out _ (HB0.out.trans (hb.mono HB0.out.size))).mono ?_; rintro e wx ⟨A2, N2, c2, rfl, hN2, ho2, hbx, -, -⟩; have hb := hb.trans (hbx.mono hb.size); have hr2 := Reads.of_own ho2; have hr1 := hr1.below hbx; have HN2 := Lib.hid hN2; clear hbx ho2 hN2))
  have HR1 := Lib.hid hr1
  have HR2 := Lib.hid hr2
  clear hr1 hr2
  cases r
  · go_wp2
    have hb := below_drewn hb 1
    have HK := Lib.hid (HBA.out _ hb)
    refine wp_region_held_drew (S := fun w' => ObAt w' w.heap.size k A n c B m d C p q) (by kernel_rfl) HK.out (fun hHeld => ?_)
    refine takeH_yes (i := 0) (v := ?_) rfl (by kernel_rfl) (by kernel_rfl) (by kernel_rfl) (fun _ _ _ h => h) (by kernel_rfl) ?_ (by assumption) ?_
    rotate_left
    · intro wz hSw; (try dsimp only at hSw); go_simp; try with_reducible rfl
    simp only [Act.put, List.setIfInBounds_toArray, List.set_cons_zero, List.set_cons_succ]
    refine takeH_yes (i := 1) (v := ?_) rfl (by kernel_rfl) (by kernel_rfl) (by kernel_rfl) (fun _ _ _ h => h) (by kernel_rfl) ?_ (by assumption) ?_
    rotate_left
    · intro wz hSw; (try dsimp only at hSw); go_simp; try with_reducible rfl
    simp only [Act.put, List.setIfInBounds_toArray, List.set_cons_zero, List.set_cons_succ]
    refine oneH (i := 2) rfl (by kernel_rfl) (fun K hK => ?_)
    go_simp
    go_at_call 12
    refine (same_yes A1 A2 N1 N2 c1 c2 x x _ HR1.out.drew HR2.out.drew HXB.out rfl).mono ?_
    rintro e wx ⟨rfl, rfl⟩
    refine hK.out _ _ (HBA.out _ hb) (fun hHeld => ?_)
    clear hK K
    try simp only [Act.put, List.setIfInBounds_toArray, List.set_cons_zero, List.set_cons_succ]
    refine takeH_yes (i := 3) (v := ?_) rfl (by kernel_rfl) (by kernel_rfl) (by kernel_rfl) (fun _ _ _ h => h) (by kernel_rfl) ?_ (by assumption) ?_
    rotate_left
    · intro wz hSw; (try dsimp only at hSw); go_simp; try with_reducible rfl
    simp only [Act.put, List.setIfInBounds_toArray, List.set_cons_zero, List.set_cons_succ]
    refine takeH_yes (i := 4) (v := ?_) rfl (by kernel_rfl) (by kernel_rfl) (by kernel_rfl) (fun _ _ _ h => h) (by kernel_rfl) ?_ (by assumption) ?_
    rotate_left
    · intro wz hSw; (try dsimp only at hSw); go_simp; try with_reducible rfl
    simp only [Act.put, List.setIfInBounds_toArray, List.set_cons_zero, List.set_cons_succ]
    refine takeH_yes (i := 5) (v := ?_) rfl (by kernel_rfl) (by kernel_rfl) (by kernel_rfl) (fun _ _ _ h => h) (by kernel_rfl) ?_ (by assumption) ?_
    rotate_left
    · intro wz hSw; (try dsimp only at hSw); go_simp; try with_reducible rfl
    simp only [Act.put, List.setIfInBounds_toArray, List.set_cons_zero, List.set_cons_succ]
    refine takeH_yes (i := 8) (v := ?_) rfl (by kernel_rfl) (by kernel_rfl) (by kernel_rfl) (fun _ _ _ h => h) (by kernel_rfl) ?_ (by assumption) ?_
    rotate_left
    · intro wz hSw; (try dsimp only at hSw); go_simp; try with_reducible rfl
    simp only [Act.put, List.setIfInBounds_toArray, List.set_cons_zero, List.set_cons_succ]
    refine oneH (i := 6) rfl (by kernel_rfl) (fun K hK => ?_)
    go_simp
    go_at_call 10
    refine (to_any _ _ _ _ _ _ _ _ _ _ _).mono ?_
    rintro e wx ⟨rfl, hbx⟩
    have hb := hb.trans (hbx.mono hb.size)
    clear hbx
    refine hK.out _ _ (HBA.out _ hb) (fun hHeld => ?_)
    clear hK K
    try simp only [Act.put, List.setIfInBounds_toArray, List.set_cons_zero, List.set_cons_succ]
    refine oneH (i := 7) rfl (by kernel_rfl) (fun K hK => ?_)
    go_simp
    go_at_call 13
    refine (R1.out _).mono ?_
    rintro e wx ⟨rfl, hbx⟩
    have hb := hb.trans (hbx.mono hb.size)
    clear hbx
    refine hK.out _ _ (HBA.out _ hb) (fun hHeld => ?_)
    clear hK K
    try simp only [Act.put, List.setIfInBounds_toArray, List.set_cons_zero, List.set_cons_succ]
    refine oneH (i := 9) rfl (by kernel_rfl) (fun K hK => ?_)
    go_simp
    go_at_call 14
    refine (R2.out _).mono ?_
    rintro e wx ⟨rfl, hbx⟩
    have hb := hb.trans (hbx.mono hb.size)
    clear hbx
    refine hK.out _ _ (HBA.out _ hb) (fun hHeld => ?_)
    clear hK K
    try simp only [Act.put, List.setIfInBounds_toArray, List.set_cons_zero, List.set_cons_succ]
    refine takeH_yes (i := 10) (v := ?_) rfl (by kernel_rfl) (by kernel_rfl) (by kernel_rfl) (fun _ _ _ h => h) (by kernel_rfl) ?_ (by assumption) ?_
    rotate_left
    · intro wz hSw; (try dsimp only at hSw); go_simp; try with_reducible rfl
    simp only [Act.put, List.setIfInBounds_toArray, List.set_cons_zero, List.set_cons_succ]
    refine takeH_yes (i := 11) (v := ?_) rfl (by kernel_rfl) (by kernel_rfl) (by kernel_rfl) (fun _ _ _ h => h) (by kernel_rfl) ?_ (by assumption) ?_
    rotate_left
    · intro wz hSw; (try dsimp only at hSw); go_simp; try with_reducible rfl
    simp only [Act.put, List.setIfInBounds_toArray, List.set_cons_zero, List.set_cons_succ]
    refine takeH_yes (i := 12) (v := ?_) rfl (by kernel_rfl) (by kernel_rfl) (by kernel_rfl) (fun _ _ _ h => h) (by kernel_rfl) ?_ (by assumption) ?_
    rotate_left
    · intro wz hSw; (try dsimp only at hSw); go_simp; try with_reducible rfl
    simp only [Act.put, List.setIfInBounds_toArray, List.set_cons_zero, List.set_cons_succ]
    refine takeH_yes (i := 13) (v := ?_) rfl (by kernel_rfl) (by kernel_rfl) (by kernel_rfl) (fun _ _ _ h => h) (by kernel_rfl) ?_ (by assumption) ?_
    rotate_left
    · intro wz hSw; (try dsimp only at hSw); go_simp; try with_reducible rfl
    simp only [Act.put, List.setIfInBounds_toArray, List.set_cons_zero, List.set_cons_succ]
    refine oneH (i := 14) rfl (by kernel_rfl) (fun K hK => ?_)
    go_simp
    go_at_call 14
    refine (R2.out _).mono ?_
    rintro e wx ⟨rfl, hbx⟩
    have hb := hb.trans (hbx.mono hb.size)
    clear hbx
    refine hK.out _ _ (HBA.out _ hb) (fun hHeld => ?_)
    clear hK K
    try simp only [Act.put, List.setIfInBounds_toArray, List.set_cons_zero, List.set_cons_succ]
    refine takeH_yes (i := 15) (v := ?_) rfl (by kernel_rfl) (by kernel_rfl) (by kernel_rfl) (fun _ _ _ h => h) (by kernel_rfl) ?_ (by assumption) ?_
    rotate_left
    · intro wz hSw; (try dsimp only at hSw); go_simp; try with_reducible rfl
    simp only [Act.put, List.setIfInBounds_toArray, List.set_cons_zero, List.set_cons_succ]
    refine takeH_no (i := 16) rfl (by kernel_rfl) (by kernel_rfl) (by kernel_rfl) (fun _ _ _ h => h) (by kernel_rfl) (by assumption) ?_
    simp only [Act.put, List.setIfInBounds_toArray, List.set_cons_zero, List.set_cons_succ]
    refine takeH_no (i := 17) rfl (by kernel_rfl) (by kernel_rfl) (by kernel_rfl) (fun _ _ _ h => h) (by kernel_rfl) (by assumption) ?_
    simp only [Act.put, List.setIfInBounds_toArray, List.set_cons_zero, List.set_cons_succ]
    refine takeH_no (i := 18) rfl (by kernel_rfl) (by kernel_rfl) (by kernel_rfl) (fun _ _ _ h => h) (by kernel_rfl) (by assumption) ?_
    simp only [Act.put, List.setIfInBounds_toArray, List.set_cons_zero, List.set_cons_succ]
    refine takeH_no (i := 19) rfl (by kernel_rfl) (by kernel_rfl) (by kernel_rfl) (fun _ _ _ h => h) (by kernel_rfl) (by assumption) ?_
    simp only [Act.put, List.setIfInBounds_toArray, List.set_cons_zero, List.set_cons_succ]
    refine takeH_no (i := 20) rfl (by kernel_rfl) (by kernel_rfl) (by kernel_rfl) (fun _ _ _ h => h) (by kernel_rfl) (by assumption) ?_
    simp only [Act.put, List.setIfInBounds_toArray, List.set_cons_zero, List.set_cons_succ]
    refine takeH_no (i := 21) rfl (by kernel_rfl) (by kernel_rfl) (by kernel_rfl) (fun _ _ _ h => h) (by kernel_rfl) (by assumption) ?_
    simp only [Act.put, List.setIfInBounds_toArray, List.set_cons_zero, List.set_cons_succ]
    refine takeH_yes (i := 22) (v := ?_) rfl (by kernel_rfl) (by kernel_rfl) (by kernel_rfl) (fun _ _ _ h => h) (by kernel_rfl) ?_ (by assumption) ?_
    rotate_left
    · intro wz hSw; (try dsimp only at hSw); go_simp; try with_reducible rfl
    simp only [Act.put, List.setIfInBounds_toArray, List.set_cons_zero, List.set_cons_succ]
    refine takeH_yes (i := 23) (v := ?_) rfl (by kernel_rfl) (by kernel_rfl) (by kernel_rfl) (fun _ _ _ h => h) (by kernel_rfl) ?_ (by assumption) ?_
    rotate_left
    · intro wz hSw; (try dsimp only at hSw); go_simp; try with_reducible rfl
    simp only [Act.put, List.setIfInBounds_toArray, List.set_cons_zero, List.set_cons_succ]
    refine wpAnyH_done (by kernel_rfl) ?_ _
    obtain ⟨x0, x1, x2, x3⟩ := HBA.out _ hb
    go_wp2_with (first
      | (go_at_call 16; refine (W2.out _).mono ?_; rintro e w7 ⟨rfl, rfl⟩)
      | (go_at_call 17; refine (W1.out _).mono ?_; rintro e w7 ⟨rfl, rfl⟩)
      | (go_at_call 18; refine (F1.out _).mono ?_; rintro e w7 ⟨rfl, rfl⟩)
      | (go_at_call 19; refine (T1.out _).mono ?_; rintro e w7 ⟨rfl, rfl⟩)
      | (go_at_call 20; refine (I1.out _).mono ?_; rintro e w7 ⟨rfl, rfl⟩)
      | (go_at_call 8; refine (awake_any _).mono ?_; rintro e w8 ⟨rfl, hbx⟩; have hb9 := hb.trans (hbx.mono hb.size); clear hbx))
    go_ret
    exact ⟨rfl, HB0.out.trans (hb9.mono HB0.out.size)⟩
  · have hsz := HSZ.out rfl
    rw [← HN2.out] at hsz
    rw [hsz] at Z1
    clear hsz
    go_wp2
    have hb := below_drewn hb 1
    have HK := Lib.hid (HBA.out _ hb)
    go_region_held3 (fun w' => ObAt w' w.heap.size k A n c B m d C p q)
      (first | assumption | exact HK.out | exact HBA.out _ hb)
      (first
        | (go_at_call 12; refine (same_yes A1 A2 N1 N2 c1 c2 x x _ HR1.out.drew HR2.out.drew HXB.out rfl).mono ?_; rintro e wx ⟨rfl, rfl⟩)
        | (go_at_call 10; refine (to_any _ _ _ _ _ _ _ _ _ _ _).mono ?_; rintro e wx ⟨rfl, hbx⟩; have hb := hb.trans (hbx.mono hb.size); clear hbx)
        | (go_at_call 13; refine (R1.out _).mono ?_; rintro e wx ⟨rfl, hbx⟩; have hb := hb.trans (hbx.mono hb.size); clear hbx)
        | (go_at_call 14; refine (R2.out _).mono ?_; rintro e wx ⟨rfl, hbx⟩; have hb := hb.trans (hbx.mono hb.size); clear hbx)
        | (go_at_call 15; refine (Z1.out _).mono ?_; rintro e wx ⟨rfl, hbx⟩; have hb := hb.trans (hbx.mono hb.size); clear hbx))
    obtain ⟨x0, x1, x2, x3⟩ := HBA.out _ hb
    go_wp2_with (first
      | (go_at_call 16; refine (W2.out _).mono ?_; rintro e w7 ⟨rfl, rfl⟩)
      | (go_at_call 17; refine (W1.out _).mono ?_; rintro e w7 ⟨rfl, rfl⟩)
      | (go_at_call 18; refine (F1.out _).mono ?_; rintro e w7 ⟨rfl, rfl⟩)
      | (go_at_call 19; refine (T1.out _).mono ?_; rintro e w7 ⟨rfl, rfl⟩)
      | (go_at_call 20; refine (I1.out _).mono ?_; rintro e w7 ⟨rfl, rfl⟩)
      | (go_at_call 8; refine (awake_any _).mono ?_; rintro e w8 ⟨rfl, hbx⟩; have hb9 := hb.trans (hbx.mono hb.size); clear hbx))
    go_ret
    exact ⟨rfl, HB0.out.trans (hb9.mono HB0.out.size)⟩

end Go.Proofs.Ytbgdaiecmpjcbaa
