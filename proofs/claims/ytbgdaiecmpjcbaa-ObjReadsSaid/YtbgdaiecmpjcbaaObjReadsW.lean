/-
  LAYER 9: the walk of ObjReads.
-/
import Derived.Test.YtbgdaiecmpjcbaaObjLaw
import Derived.Test.YtbgdaiecmpjcbaaObjSame2
import Derived.Test.YtbgdaiecmpjcbaaObjDecR5
import Derived.Test.YtbgdaiecmpjcbaaObjSamesW
set_option linter.unusedVariables false
set_option linter.unusedSimpArgs false
set_option maxRecDepth 100000
namespace Go.Proofs.Ytbgdaiecmpjcbaa
open Go.RowKit

/-- The cells of a struct's block. -/
theorem obAt_blk {w : World} {g : Nat} {t : TypeId} {k : Int} {A : Option Addr} {n c : Nat} {B : Option Addr} {m d : Nat} {C : Option Addr} {p q : Nat} (hb : Blk w g t #[.int .i64 k, .slice A n c, .slice B m d, .slice C p q]) : ObAt w g k A n c B m d C p q :=
  ⟨by rw [hb.cell]; rfl, by rw [hb.cell]; rfl, by rw [hb.cell]; rfl, by rw [hb.cell]; rfl⟩

set_option maxHeartbeats 4000000 in
theorem reads_law (A : Option Addr) (n c : Nat) (zs : List Int) (at_ : Int) (w : World) (hi : InInts w .u8 A n c zs) (ht : (Lit.int .i64 at_).wf = true) :
    Calls Try.prog 4 #[.slice A n c, .int .i64 at_] w fun e w' => e = .returned (.bool true) ∧ Below w.heap.size w w' := by
  have hbd := bounds_i64 ht
  by_cases hq : 2000 < n ∨ 4000 < at_
  · clear hi ht
    by_cases hq1 : 2000 < n
    · have t1 : (2000 : Int) < (n : Int) := by omega
      clear hq
      go_enter Try.func4, Try.ntmps4
      go_wp2_with (go_at_call 8; refine (awake_any _).mono ?_; rintro e w5 ⟨rfl, hb5⟩)
      go_ret
      exact ⟨rfl, hb5⟩
    · have t1 : ¬ (2000 : Int) < (n : Int) := by omega
      have t2 : (4000 : Int) < at_ := by omega
      clear hq
      go_enter Try.func4, Try.ntmps4
      go_wp2_with (go_at_call 8; refine (awake_any _).mono ?_; rintro e w5 ⟨rfl, hb5⟩)
      go_ret
      exact ⟨rfl, hb5⟩
  have t1 : ¬ (2000 : Int) < (n : Int) := by omega
  have t2 : ¬ (4000 : Int) < at_ := by omega
  have hz : AreB zs := fun z hz => wf_u8_bd (hi.wf z hz)
  have RD := Lib.hid (fun wx (hx : Below w.heap.size w wx) => hi.reads.below hx)
  have hl := hi.le
  have hcap := hi.cap
  have hlen := hi.reads.len
  clear hq ht
  by_cases hy : ∃ j k s, at_ = (j : Nat) ∧ DecAt zs j k s ∧ decB zs j k s = true
  · obtain ⟨j, k, s, rfl, h, hd⟩ := hy
    have D1 := Lib.hid (odec_yes A n c j k s zs w hi.reads (Nat.le_refl _) hz hl hcap (by omega) h hd)
    have D2 := Lib.hid (fun wx (hx : Below w.heap.size w wx) => rodec_yes A n c j k s zs wx (RD.out wx hx) hx.size hz hl hcap (by omega) h hd)
    obtain ⟨f1, f2⟩ := enc_of_dec hz h hd
    have hob := objB_bytes hz j s
    have hfl := objB_length h.fit
    have hrl : (dR (objB zs j s) k).length ≤ 100000 := by rw [dR_length, hfl]; split <;> omega
    have hil : (dI (objB zs j s) k).length ≤ 100000 := by rw [dI_length, hfl]; split <;> omega
    have hwl : (dW (objB zs j s) k).length ≤ 100000 := by rw [dW_length]; have := kwN_le k; omega
    have hdr := dR_bytes (k := k) hob
    rw [hlen] at f1
    have hsp : ((zs.drop j).take (s + padn s 8)).length = s + padn s 8 := by rw [List.length_take, List.length_drop]; omega
    have hj := h.room
    rw [hlen] at hj
    generalize dW (objB zs j s) k = ws at *
    generalize dR (objB zs j s) k = rs at *
    generalize dI (objB zs j s) k = is at *
    obtain ⟨P, hP⟩ : ∃ P, s + padn s 8 = P := ⟨_, rfl⟩
    obtain ⟨Q, hQ⟩ : ∃ Q, j + P = Q := ⟨_, rfl⟩
    rw [hP] at D1 D2 f2 hsp
    rw [hQ] at D1 D2
    have hQn : Q ≤ n := by omega
    have i1 : (j : Int) ≤ (Q : Int) := by omega
    have i2 : (Q : Int) ≤ (c : Int) := by omega
    have hPQ : Q - j = P := by omega
    have hcj : ¬ c = j := by omega
    obtain ⟨A0, hA0⟩ : ∃ A0, A.map (·.add j) = A0 := ⟨_, rfl⟩
    have RS := Lib.hid (fun wx (hx : Below w.heap.size w wx) => (RD.out wx hx).sub (lo := j) (hi := Q) (cap := c) (by omega) hQn hl)
    rw [if_neg hcj, hA0] at RS
    have HEN : Hid (encR k ws rs is = (zs.drop j).take (Q - j)) := by show _ = _; rw [f2, hPQ]
    have HZB : Hid (AreB ((zs.drop j).take (Q - j))) := (hz.drop j).take _
    have HDR := Lib.hid hdr
    have HL3 := Lib.hid (And.intro hwl (And.intro hrl hil))
    clear f1 f2 hob hfl hsp h hd hP hQ hPQ hdr hwl hrl hil hi hj hlen hz
    go_enter Try.func4, Try.ntmps4
    go_wp2_with (first
      | (go_at_call 21; refine D1.out.mono ?_; rintro e w1 ⟨A1, n1, c1, A2, n2, c2, A3, n3, c3, rfl, hb1, ho1⟩)
      | (go_at_call 22; refine (D2.out _ (hb1.alloc hb1.size _)).mono ?_; rintro e w2 ⟨A4, n4, c4, A5, n5, c5, A6, n6, c6, rfl, hb2, R2⟩))
    have hBA : Hid (∀ wx, Below (w2.alloc (.cells #[.int .i64 k, .slice A4 n4 c4, .slice A5 n5 c5, .slice A6 n6 c6] 25)).heap.size (w2.alloc (.cells #[.int .i64 k, .slice A4 n4 c4, .slice A5 n5 c5, .slice A6 n6 c6] 25)) wx →
        (ObAt wx w1.heap.size k A1 n1 c1 A2 n2 c2 A3 n3 c3 ∧ ObAt wx w2.heap.size k A4 n4 c4 A5 n5 c5 A6 n6 c6) ∧ ObR wx w2.heap.size A1 n1 c1 ws A2 n2 c2 rs A3 n3 c3 is ∧ ObR wx w2.heap.size A4 n4 c4 ws A5 n5 c5 rs A6 n6 c6 is ∧ Below w.heap.size w wx ∧ w2.heap.size ≤ wx.heap.size) := fun wx hx => by
      have q1 : Below w1.heap.size w1 (w1.alloc (.cells #[.int .i64 k, .slice A1 n1 c1, .slice A2 n2 c2, .slice A3 n3 c3] 30)) := (Below.refl _ _).alloc (Nat.le_refl _) _
      have q2 := q1.trans (hb2.mono q1.size)
      have q3 : Below w2.heap.size w2 (w2.alloc (.cells #[.int .i64 k, .slice A4 n4 c4, .slice A5 n5 c5, .slice A6 n6 c6] 25)) := (Below.refl _ _).alloc (Nat.le_refl _) _
      have q4 := q3.trans (hx.mono q3.size)
      have q5 := q2.trans (q4.mono q2.size)
      have g1 := (Blk.new w1 30 #[.int .i64 k, .slice A1 n1 c1, .slice A2 n2 c2, .slice A3 n3 c3]).below hb2 (by simp)
      have g2 := g1.below q4 g1.lt
      exact ⟨⟨obAt_blk g2, obAt_of hx⟩, (ho1.reads.below q5 (Nat.le_refl _)).more q2.size, R2.below q4 (Nat.le_refl _), hb1.trans (q5.mono hb1.size), q4.size⟩
    have lw := ho1.wo.1
    have lr := ho1.ro.1
    have li := ho1.io.1
    have lw2 := R2.wr.len
    have li2 := R2.ir.len
    rw [cellsOf_length] at lw lr li
    have HLN : Hid (n1 ≤ 140737488355328 ∧ n4 ≤ 140737488355328 ∧ n3 ≤ 140737488355328 ∧ n6 ≤ 140737488355328) := by have h := HL3.out; show _ ∧ _; omega
    clear lw lr li lw2 li2 ho1 R2
    have hb : Below (w2.alloc (.cells #[.int .i64 k, .slice A4 n4 c4, .slice A5 n5 c5, .slice A6 n6 c6] 25)).heap.size (w2.alloc (.cells #[.int .i64 k, .slice A4 n4 c4, .slice A5 n5 c5, .slice A6 n6 c6] 25)) (w2.alloc (.cells #[.int .i64 k, .slice A4 n4 c4, .slice A5 n5 c5, .slice A6 n6 c6] 25)).drew := below_drewn (Below.refl _ _) 1
    have HK := Lib.hid (hBA.out _ hb).1
    go_region_held3 (fun w' => ObAt w' w1.heap.size k A1 n1 c1 A2 n2 c2 A3 n3 c3 ∧ ObAt w' w2.heap.size k A4 n4 c4 A5 n5 c5 A6 n6 c6)
      (first | assumption | exact HK.out | exact (hBA.out _ hb).1)
      (first
        | (go_at_call 24; refine (of_any _ _ _ _ _ _ _ _ _ _ _).mono ?_; rintro e wx ⟨rfl, hbx⟩; have hb := hb.trans (hbx.mono hb.size); clear hbx)
        | (go_at_call 23; (have F1 := hBA.out _ hb); refine (rosame_any k k A1 A4 n1 n4 c1 c4 ws ws A2 A5 n2 n5 c2 c5 rs rs A3 A6 n3 n6 c3 c6 is is _ F1.2.1 F1.2.2.1 F1.2.2.2.2 HDR.out HDR.out HLN.out).mono ?_; rintro e wx ⟨rfl, hbx⟩; rw [sameO_self]; have hb := hb.trans (hbx.mono hb.size); clear hbx F1))
    go_wp2
    have hb := below_drewn hb 1
    have HK := Lib.hid (hBA.out _ hb).1.1
    go_region_held3 (fun w' => ObAt w' w1.heap.size k A1 n1 c1 A2 n2 c2 A3 n3 c3)
      (first | assumption | exact HK.out | exact (hBA.out _ hb).1.1)
      (first
        | (go_at_call 9; (have F1 := hBA.out _ hb); refine (oenc_any k A1 n1 c1 ws A2 n2 c2 rs A3 n3 c3 is _ F1.2.1 F1.2.2.2.2).mono ?_; rintro e wx ⟨A9, N, c9, rfl, hN, ho9, hbx, hn9, hc9⟩; rw [HEN.out] at hN ho9; have hb := hb.trans (hbx.mono hb.size); have HR9 := Lib.hid (Reads.of_own ho9); clear hbx F1 ho9 hN)
        | (go_at_call 12; (have F1 := hBA.out _ hb); refine (same_yes A9 A0 N (Q - j) c9 _ ((zs.drop j).take (Q - j)) ((zs.drop j).take (Q - j)) _ HR9.out (RS.out _ F1.2.2.2.1) HZB.out rfl).mono ?_; rintro e wx ⟨rfl, rfl⟩; clear F1)
        | (go_at_call 8; refine (awake_any _).mono ?_; rintro e wx ⟨rfl, hbx⟩; have hb := hb.trans (hbx.mono hb.size); clear hbx))
    go_wp2
    go_ret
    exact ⟨rfl, (hBA.out _ hb).2.2.2.1⟩
  · have hno : ∀ j k s, at_ = (j : Nat) → DecAt zs j k s → decB zs j k s = false := fun j k s e h => by
      by_cases hd : decB zs j k s = true
      · exact absurd ⟨j, k, s, e, h, hd⟩ hy
      · simpa using hd
    have D1 := Lib.hid (odec_no A n c at_ zs w hi.reads (Nat.le_refl _) hz hl hcap (by omega) hbd.1 (by omega) hno)
    have D2 := Lib.hid (fun wx (hx : Below w.heap.size w wx) => rodec_no A n c at_ zs wx (RD.out wx hx) hx.size hz hl hcap (by omega) hbd.1 (by omega) hno)
    clear hno hy hi hlen hz
    go_enter Try.func4, Try.ntmps4
    go_wp2_with (first
      | (go_at_call 21; refine D1.out.mono ?_; rintro e w1 ⟨rfl, hb1⟩)
      | (go_at_call 22; refine (D2.out _ (hb1.alloc hb1.size _)).mono ?_; rintro e w2 ⟨rfl, hb2⟩))
    have hBA : Hid (∀ wx, Below (w2.alloc (.cells #[.int .i64 0, .slice none 0 0, .slice none 0 0, .slice none 0 0] 25)).heap.size (w2.alloc (.cells #[.int .i64 0, .slice none 0 0, .slice none 0 0, .slice none 0 0] 25)) wx →
        (ObAt wx w1.heap.size 0 none 0 0 none 0 0 none 0 0 ∧ ObAt wx w2.heap.size 0 none 0 0 none 0 0 none 0 0) ∧ Below w.heap.size w wx) := fun wx hx => by
      have q1 : Below w1.heap.size w1 (w1.alloc (.cells #[.int .i64 0, .slice none 0 0, .slice none 0 0, .slice none 0 0] 30)) := (Below.refl _ _).alloc (Nat.le_refl _) _
      have q2 := q1.trans (hb2.mono q1.size)
      have q3 : Below w2.heap.size w2 (w2.alloc (.cells #[.int .i64 0, .slice none 0 0, .slice none 0 0, .slice none 0 0] 25)) := (Below.refl _ _).alloc (Nat.le_refl _) _
      have q4 := q3.trans (hx.mono q3.size)
      have q5 := q2.trans (q4.mono q2.size)
      have g1 := (Blk.new w1 30 #[.int .i64 0, .slice none 0 0, .slice none 0 0, .slice none 0 0]).below hb2 (by simp)
      have g2 := g1.below q4 g1.lt
      exact ⟨⟨obAt_blk g2, obAt_of hx⟩, hb1.trans (q5.mono hb1.size)⟩
    have HNR : Hid (∀ wx : World, ObR wx 0 none 0 0 [] none 0 0 [] none 0 0 []) := fun wx => ⟨Reads.none_, Reads.none_, Reads.none_, ⟨by omega, by omega⟩, ⟨by omega, by omega⟩, ⟨by omega, by omega⟩⟩
    have hb : Below (w2.alloc (.cells #[.int .i64 0, .slice none 0 0, .slice none 0 0, .slice none 0 0] 25)).heap.size (w2.alloc (.cells #[.int .i64 0, .slice none 0 0, .slice none 0 0, .slice none 0 0] 25)) (w2.alloc (.cells #[.int .i64 0, .slice none 0 0, .slice none 0 0, .slice none 0 0] 25)).drew := below_drewn (Below.refl _ _) 1
    have HK := Lib.hid (hBA.out _ hb).1
    go_region_held3 (fun w' => ObAt w' w1.heap.size 0 none 0 0 none 0 0 none 0 0 ∧ ObAt w' w2.heap.size 0 none 0 0 none 0 0 none 0 0)
      (first | assumption | exact HK.out | exact (hBA.out _ hb).1)
      (first
        | (go_at_call 24; refine (of_any _ _ _ _ _ _ _ _ _ _ _).mono ?_; rintro e wx ⟨rfl, hbx⟩; have hb := hb.trans (hbx.mono hb.size); clear hbx)
        | (go_at_call 23; refine (rosame_any (L := 0) 0 0 none none 0 0 0 0 [] [] none none 0 0 0 0 [] [] none none 0 0 0 0 [] [] _ (HNR.out _) (HNR.out _) (Nat.zero_le _) AreB.nil AreB.nil (by omega)).mono ?_; rintro e wx ⟨rfl, hbx⟩; rw [sameO_self]; have hb := hb.trans (hbx.mono hb.size); clear hbx))
    go_wp2
    have hb := below_drewn hb 1
    refine wp_region_any (by kernel_rfl) ?_
    try (change wpAny _ _ _ _ _ _ _ (World.drew _))
    refine take_yes (i := 0) (v := ?_) rfl (by kernel_rfl) (by kernel_rfl) (by kernel_rfl) (fun _ _ _ h => h) (by kernel_rfl) ?_ ?_
    rotate_left
    · intro wz; go_simp; try with_reducible rfl
    simp only [Act.put, List.setIfInBounds_toArray, List.set_cons_zero, List.set_cons_succ]
    refine take_yes (i := 1) (v := ?_) rfl (by kernel_rfl) (by kernel_rfl) (by kernel_rfl) (fun _ _ _ h => h) (by kernel_rfl) ?_ ?_
    rotate_left
    · intro wz; go_simp; try with_reducible rfl
    simp only [Act.put, List.setIfInBounds_toArray, List.set_cons_zero, List.set_cons_succ]
    refine take_yes (i := 2) (v := ?_) rfl (by kernel_rfl) (by kernel_rfl) (by kernel_rfl) (fun _ _ _ h => h) (by kernel_rfl) ?_ ?_
    rotate_left
    · intro wz; go_simp; try with_reducible rfl
    simp only [Act.put, List.setIfInBounds_toArray, List.set_cons_zero, List.set_cons_succ]
    refine take_no (i := 3) rfl (by kernel_rfl) (by kernel_rfl) (by kernel_rfl) (fun _ _ _ h => h) (by kernel_rfl) ?_
    simp only [Act.put, List.setIfInBounds_toArray, List.set_cons_zero, List.set_cons_succ]
    refine take_no (i := 4) rfl (by kernel_rfl) (by kernel_rfl) (by kernel_rfl) (fun _ _ _ h => h) (by kernel_rfl) ?_
    simp only [Act.put, List.setIfInBounds_toArray, List.set_cons_zero, List.set_cons_succ]
    refine take_no (i := 5) rfl (by kernel_rfl) (by kernel_rfl) (by kernel_rfl) (fun _ _ _ h => h) (by kernel_rfl) ?_
    simp only [Act.put, List.setIfInBounds_toArray, List.set_cons_zero, List.set_cons_succ]
    refine take_no (i := 6) rfl (by kernel_rfl) (by kernel_rfl) (by kernel_rfl) (fun _ _ _ h => h) (by kernel_rfl) ?_
    simp only [Act.put, List.setIfInBounds_toArray, List.set_cons_zero, List.set_cons_succ]
    refine take_no (i := 7) rfl (by kernel_rfl) (by kernel_rfl) (by kernel_rfl) (fun _ _ _ h => h) (by kernel_rfl) ?_
    simp only [Act.put, List.setIfInBounds_toArray, List.set_cons_zero, List.set_cons_succ]
    refine take_no (i := 8) rfl (by kernel_rfl) (by kernel_rfl) (by kernel_rfl) (fun _ _ _ h => h) (by kernel_rfl) ?_
    simp only [Act.put, List.setIfInBounds_toArray, List.set_cons_zero, List.set_cons_succ]
    refine take_no (i := 9) rfl (by kernel_rfl) (by kernel_rfl) (by kernel_rfl) (fun _ _ _ h => h) (by kernel_rfl) ?_
    simp only [Act.put, List.setIfInBounds_toArray, List.set_cons_zero, List.set_cons_succ]
    refine take_yes (i := 10) (v := ?_) rfl (by kernel_rfl) (by kernel_rfl) (by kernel_rfl) (fun _ _ _ h => h) (by kernel_rfl) ?_ ?_
    rotate_left
    · intro wz; go_simp; try with_reducible rfl
    simp only [Act.put, List.setIfInBounds_toArray, List.set_cons_zero, List.set_cons_succ]
    refine take_yes (i := 11) (v := ?_) rfl (by kernel_rfl) (by kernel_rfl) (by kernel_rfl) (fun _ _ _ h => h) (by kernel_rfl) ?_ ?_
    rotate_left
    · intro wz; go_simp; try with_reducible rfl
    simp only [Act.put, List.setIfInBounds_toArray, List.set_cons_zero, List.set_cons_succ]
    refine wpAny_ready (rs := [12]) (by kernel_rfl) (by simp) (AllReady.cons rfl (fun K hK => ?_) AllReady.nil)
    go_simp
    go_at_call 8
    refine (awake_any _).mono ?_
    rintro e wx ⟨rfl, hbx⟩
    have hb := hb.trans (hbx.mono hb.size)
    refine hK _ _ ?_
    clear hK K
    try simp only [Act.put, List.setIfInBounds_toArray, List.set_cons_zero, List.set_cons_succ]
    refine take_yes (i := 13) (v := ?_) rfl (by kernel_rfl) (by kernel_rfl) (by kernel_rfl) (fun _ _ _ h => h) (by kernel_rfl) ?_ ?_
    rotate_left
    · intro wz; go_simp; try with_reducible rfl
    simp only [Act.put, List.setIfInBounds_toArray, List.set_cons_zero, List.set_cons_succ]
    refine take_yes (i := 14) (v := ?_) rfl (by kernel_rfl) (by kernel_rfl) (by kernel_rfl) (fun _ _ _ h => h) (by kernel_rfl) ?_ ?_
    rotate_left
    · intro wz; go_simp; try with_reducible rfl
    simp only [Act.put, List.setIfInBounds_toArray, List.set_cons_zero, List.set_cons_succ]
    refine wpAny_done (by kernel_rfl) ?_ _
    go_wp2
    go_ret
    exact ⟨rfl, (hBA.out _ hb).2⟩

end Go.Proofs.Ytbgdaiecmpjcbaa
