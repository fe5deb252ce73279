/-
  LAYER 11: THE DOCUMENT'S Decode, of the bytes from a place on: its contract, for every input.
-/
import Derived.Test.YtdajjkjpjhpnjaaSlotEncR
import Derived.Test.YtdajjkjpjhpnjaaSlotDec
import Derived.Test.YtdajjkjpjhpnjaaRegionH
set_option linter.unusedVariables false
set_option maxRecDepth 100000
set_option linter.unusedSimpArgs false
namespace Go.Proofs.Ytdajjkjpjhpnjaa
open Go.RowKit

theorem isS_not {zs : List Int} (h : rightS (wordS zs 0) (wordS zs 1) (wordS zs 5) = false) : isS zs = false := by
  rw [isS_six, h]; simp
theorem isS_is {zs : List Int} (hn : 64 ≤ zs.length) : isS zs = decide (encS (wordS zs 0) (wordS zs 1) (wordS zs 2) (wordS zs 3) (wordS zs 4) (wordS zs 5) = zs.take 64) := (isS_dec hn).symm

/-- The array of six words in the making: its first j are there. -/
def sixP (zs : List Int) (j : Nat) : List Value := (List.range 6).map fun i => if i < j then .int .u64 (wordS zs i) else .int .u64 0
theorem sixP_set (zs : List Int) {j : Nat} (hj : j < 6) : (sixP zs j).toArray.setIfInBounds j (.int .u64 (wordS zs j)) = (sixP zs (j + 1)).toArray := by
  match j, hj with
  | 0, _ | 1, _ | 2, _ | 3, _ | 4, _ | 5, _ => rfl
  | n + 6, h => omega
theorem sixP_size (zs : List Int) (j : Nat) : (sixP zs j).toArray.size = 6 := by simp [sixP]
theorem sixP_full (zs : List Int) : (sixP zs 6).toArray = sC (wordS zs 0) (wordS zs 1) (wordS zs 2) (wordS zs 3) (wordS zs 4) (wordS zs 5) := rfl

/-- What the document's Decode holds: what it tells, and the words. -/
structure DecV (w0 : World) (zs : List Int) (j : Nat) (wx : World) : Prop where
  bel : Below w0.heap.size w0 wx
  res : Blk wx w0.heap.size 24 sZC
  wds : Blk wx (w0.heap.size + 1) 62 (sixP zs j).toArray

theorem decV_start (w : World) (zs : List Int) : DecV w zs 0 ((w.alloc (.cells sZC 24)).alloc (.cells sZC 62)) := by
  have h1 := Blk.new w 24 sZC
  have h2 := Blk.new (w.alloc (.cells sZC 24)) 62 sZC
  rw [World.size_alloc] at h2
  exact ⟨(boxed _ _).alloc (by simp) _, h1.alloc _, h2⟩

theorem DecV.next {w0 wx : World} {zs : List Int} {j : Nat} (h : DecV w0 zs j wx) (hj : j < 6) : DecV w0 zs (j + 1) (wx.setCell ⟨w0.heap.size + 1, j, none⟩ (.int .u64 (wordS zs j))) :=
  ⟨h.bel.setCell (by show _ ≤ w0.heap.size + 1; omega) _, h.res.far (by show _ ≠ w0.heap.size + 1; omega) _, by
    have := h.wds.set_ j (.int .u64 (wordS zs j)); rwa [sixP_set zs hj] at this⟩

/-- The end, where there is none. -/
theorem decS_no {zs : List Int} (h : isS zs = false) : Value.tuple #[decS zs, .bool (isS zs)] = .tuple #[sZ, .bool false] := by
  unfold decS; rw [h]; rfl

set_option maxHeartbeats 4000000 in
theorem rsdec_any {B : Nat} (A : Option Addr) (n c p : Nat) (zs : List Int) (w : World) (hr : Reads w B 1 A n (cellsOf .u8 zs)) (hB : B ≤ w.heap.size) (hz : AreB zs) (hl : n ≤ c) (hcap : c ≤ 9223372036854775807) (hp : p ≤ 1000) :
    Calls Try.prog 16 #[.slice A n c, .int .i64 p] w fun en w' => en = .returned (.tuple #[decS (zs.drop p), .bool (isS (zs.drop p))]) ∧ Below w.heap.size w w' := by
  have hlen := hr.len
  have HLEN : Hid ((zs.drop p).length = n - p) := by show _ = _; rw [List.length_drop, hlen]
  have HR := Lib.hid (fun wx (hx : Below w.heap.size w wx) => (hr.keep (w' := wx) (fun p hp => hx.cell (by omega)) : Reads wx B 1 A n (cellsOf .u8 zs)))
  have HZ := Lib.hid hz
  have HZP : Hid (AreB (zs.drop p)) := hz.drop p
  clear hr hlen
  go_enter Try.func16, Try.ntmps16
  go_wp2
  go_loopw [7, 8, 9] (fun i _ _ wr => ∃ j : Nat, j ≤ 6 ∧ i = .int .i64 j ∧ (j = 0 ∨ p + 8 * j ≤ n) ∧ DecV w (zs.drop p) j wr) (fun i _ _ _ => 6 - (intOf i).toNat)
  case atStart => exact ⟨0, Nat.zero_le _, rfl, .inl rfl, decV_start w (zs.drop p)⟩
  case round =>
    obtain ⟨j, hj, rfl, hjn, hD⟩ := hrel
    by_cases hlt : j < 6
    · by_cases hin : p + 8 * j + 8 ≤ n
      · have hv : (p : Int) + 8 * (j : Int) = ((p + 8 * j : Nat) : Int) := by omega
        have HV := Lib.hid hv
        have HN := Lib.hid (hD.next hlt)
        have G := Lib.hid (fun v (hv : v = ((p + 8 * j : Nat) : Int)) => rget8 A n c (p + 8 * j) v zs wr (HR.out _ hD.bel) HZ.out hl hcap hv hin)
        have hfr := hD.wds.frozen j
        have hcell : ∃ u, wr.cell? ⟨w.heap.size + 1, j, none⟩ = some u := by rw [hD.wds.cell]; exact ⟨_, Array.getElem?_eq_getElem (by rw [sixP_size]; omega)⟩
        obtain ⟨u, hcell⟩ := hcell
        have HG : Hid (lev ((zs.drop (p + 8 * j)).take 8) = wordS (zs.drop p) j) := by show _ = _; unfold wordS; rw [List.drop_drop]
        rw [HG.out] at G
        generalize wordS (zs.drop p) j = x at *
        clear hD hv
        go_wp2_with (go_at_call 32; refine (G.out _ HV.out).mono ?_; rintro en w1 ⟨rfl, rfl⟩)
        go_roundw
        case rel => exact ⟨j + 1, by omega, by go_num, .inr (by omega), HN.out⟩
        case measure => simp [intOf]; omega
      · have hg : gok n ((p : Int) + 8 * (j : Int)) 8 = false := by rw [gok_isw]; simp [isw]; omega
        have HG := Lib.hid hg
        have HE := Lib.hid (decS_no (isS_short (Z := zs.drop p) (by rw [HLEN.out]; omega)))
        obtain ⟨x0, x1, x2, x3, x4, x5⟩ := slAt_blk hD.res
        have f0 := hD.res.frozen 0
        have f1 := hD.res.frozen 1
        have f2 := hD.res.frozen 2
        have f3 := hD.res.frozen 3
        have f4 := hD.res.frozen 4
        have f5 := hD.res.frozen 5
        have BK := Lib.hid hD.res
        have HB := Lib.hid hD.bel
        clear hg hD hin
        go_wp2_with (go_at_call 32; refine (rget_no A n c ((p : Int) + 8 * (j : Int)) 8 wr HG.out (by omega) (by omega) (by omega) (by omega) (by omega)).mono ?_; rintro en w1 ⟨rfl, rfl⟩)
        refine bodyPost_ret (results_cell2 rfl _ _ w.heap.size 24 _ (0, 0) _ rfl (sl_store BK.out) Try.underlying24 rfl (by kernel_rfl)) rfl ?_
        exact ⟨by rw [HE.out]; rfl, sl_below HB.out (Nat.le_refl _)⟩
    · obtain rfl : j = 6 := by omega
      have hnp : p + 48 ≤ n := by omega
      have b6 : Hid (∀ i, 0 ≤ [wordS (zs.drop p) 0, wordS (zs.drop p) 1, wordS (zs.drop p) 2, wordS (zs.drop p) 3, wordS (zs.drop p) 4, wordS (zs.drop p) 5].getD i 0 ∧ [wordS (zs.drop p) 0, wordS (zs.drop p) 1, wordS (zs.drop p) 2, wordS (zs.drop p) 3, wordS (zs.drop p) 4, wordS (zs.drop p) 5].getD i 0 < 18446744073709551616) := fun i => by
        match i with
        | 0 => exact wordS_bd HZP.out 0
        | 1 => exact wordS_bd HZP.out 1
        | 2 => exact wordS_bd HZP.out 2
        | 3 => exact wordS_bd HZP.out 3
        | 4 => exact wordS_bd HZP.out 4
        | 5 => exact wordS_bd HZP.out 5
        | n + 6 => exact (⟨by omega, by omega⟩ : (0 : Int) ≤ 0 ∧ (0 : Int) < 18446744073709551616)
      have HW := hD.wds
      rw [sixP_full] at HW
      have z0 : wr.cell? ⟨w.heap.size + 1, 0, none⟩ = some (.int .u64 (wordS (zs.drop p) 0)) := by rw [HW.cell]; rfl
      have z1 : wr.cell? ⟨w.heap.size + 1, 1, none⟩ = some (.int .u64 (wordS (zs.drop p) 1)) := by rw [HW.cell]; rfl
      have z2 : wr.cell? ⟨w.heap.size + 1, 2, none⟩ = some (.int .u64 (wordS (zs.drop p) 2)) := by rw [HW.cell]; rfl
      have z3 : wr.cell? ⟨w.heap.size + 1, 3, none⟩ = some (.int .u64 (wordS (zs.drop p) 3)) := by rw [HW.cell]; rfl
      have z4 : wr.cell? ⟨w.heap.size + 1, 4, none⟩ = some (.int .u64 (wordS (zs.drop p) 4)) := by rw [HW.cell]; rfl
      have z5 : wr.cell? ⟨w.heap.size + 1, 5, none⟩ = some (.int .u64 (wordS (zs.drop p) 5)) := by rw [HW.cell]; rfl
      have BK := Lib.hid hD.res
      have HB := Lib.hid hD.bel
      have W2 := Lib.hid (isS_short (Z := zs.drop p))
      have W3 := Lib.hid (isS_not (zs := zs.drop p))
      have W4 := Lib.hid (isS_is (zs := zs.drop p))
      have HE := Lib.hid (decS_no (zs := zs.drop p))
      have HY : Hid (isS (zs.drop p) = true → decS (zs.drop p) = sV (wordS (zs.drop p) 0) (wordS (zs.drop p) 1) (wordS (zs.drop p) 2) (wordS (zs.drop p) 3) (wordS (zs.drop p) 4) (wordS (zs.drop p) 5)) := fun h => by unfold decS; rw [if_pos h]
      generalize wordS (zs.drop p) 0 = u0 at *
      generalize wordS (zs.drop p) 1 = u1 at *
      generalize wordS (zs.drop p) 2 = u2 at *
      generalize wordS (zs.drop p) 3 = u3 at *
      generalize wordS (zs.drop p) 4 = u4 at *
      generalize wordS (zs.drop p) 5 = u5 at *
      clear HW hD hjn hj hlt
      have R1 := Lib.hid (fun wx => rsright_any u0 u1 u2 u3 u4 u5 wx (b6.out 0).1 (b6.out 1).1)
      have EN := Lib.hid (fun wx => rsenc_any u0 u1 u2 u3 u4 u5 wx b6.out)
      have HX := Lib.hid (encS_bytes u0 u1 u2 u3 u4 u5)
      obtain ⟨r, hr⟩ : ∃ r, rightS u0 u1 u5 = r := ⟨_, rfl⟩
      rw [hr] at R1 W3
      obtain ⟨b, hb⟩ : ∃ b, decide (encS u0 u1 u2 u3 u4 u5 = (zs.drop p).take 64) = b := ⟨_, rfl⟩
      rw [hb] at W4
      have BB := Lib.hid hb
      generalize encS u0 u1 u2 u3 u4 u5 = x at *
      have hdp : IntKind.i64.wrap ((n : Int) - (p : Int)) = (n : Int) - (p : Int) := by rw [IntKind.wrap_i64]; omega
      clear hr hb b6
      have HBA : Hid (∀ wx, Below (wr.alloc (.cells (sC u0 u1 u2 u3 u4 u5) 24)).heap.size (wr.alloc (.cells (sC u0 u1 u2 u3 u4 u5) 24)) wx → SlAt wx wr.heap.size u0 u1 u2 u3 u4 u5 ∧ Blk wx w.heap.size 24 sZC ∧ Below w.heap.size w wx) := fun wx hx => by
        have q1 : Below wr.heap.size wr (wr.alloc (.cells (sC u0 u1 u2 u3 u4 u5) 24)) := boxed _ _
        have q2 := q1.trans (hx.mono q1.size)
        exact ⟨slAt_of hx, BK.out.below q2 BK.out.lt, HB.out.trans (q2.mono HB.out.size)⟩
      by_cases hn : n - p < 64
      · have HF := Lib.hid (HE.out (W2.out (by rw [HLEN.out]; exact hn)))
        have t6 : decide ((n : Int) - (p : Int) < 64) = true := by simp; omega
        go_wp2_with fail
        have hb : Below (wr.alloc (.cells (sC u0 u1 u2 u3 u4 u5) 24)).heap.size (wr.alloc (.cells (sC u0 u1 u2 u3 u4 u5) 24)) (wr.alloc (.cells (sC u0 u1 u2 u3 u4 u5) 24)).drew := below_drewn (Below.refl _ _) 1
        have HK := Lib.hid (HBA.out _ hb).1
        clear z0 z1 z2 z3 z4 z5
        refine wp_region_held_drew (S := fun w' => SlAt w' wr.heap.size u0 u1 u2 u3 u4 u5) (by kernel_rfl) HK.out (fun hHeld => ?_)
        refine takeH_yes (i := 0) (v := ?_) rfl (by kernel_rfl) (by kernel_rfl) (by kernel_rfl) (fun _ _ _ h => h) (by kernel_rfl) ?_ (by assumption) ?_
        rotate_left
        · intro wz hSw; (try dsimp only at hSw); go_simp; try with_reducible rfl
        simp only [Act.put, List.setIfInBounds_toArray, List.set_cons_zero, List.set_cons_succ]
        refine takeH_yes (i := 1) (v := ?_) rfl (by kernel_rfl) (by kernel_rfl) (by kernel_rfl) (fun _ _ _ h => h) (by kernel_rfl) ?_ (by assumption) ?_
        rotate_left
        · intro wz hSw; (try dsimp only at hSw); go_simp; try with_reducible rfl
        simp only [Act.put, List.setIfInBounds_toArray, List.set_cons_zero, List.set_cons_succ]
        refine takeH_yes (i := 2) (v := ?_) rfl (by kernel_rfl) (by kernel_rfl) (by kernel_rfl) (fun _ _ _ h => h) (by kernel_rfl) ?_ (by assumption) ?_
        rotate_left
        · intro wz hSw; (try dsimp only at hSw); go_simp; try with_reducible rfl
        simp only [Act.put, List.setIfInBounds_toArray, List.set_cons_zero, List.set_cons_succ]
        refine takeH_yes (i := 3) (v := ?_) rfl (by kernel_rfl) (by kernel_rfl) (by kernel_rfl) (fun _ _ _ h => h) (by kernel_rfl) ?_ (by assumption) ?_
        rotate_left
        · intro wz hSw; (try dsimp only at hSw); go_simp; try with_reducible rfl
        simp only [Act.put, List.setIfInBounds_toArray, List.set_cons_zero, List.set_cons_succ]
        refine takeH_yes (i := 4) (v := ?_) rfl (by kernel_rfl) (by kernel_rfl) (by kernel_rfl) (fun _ _ _ h => h) (by kernel_rfl) ?_ (by assumption) ?_
        rotate_left
        · intro wz hSw; (try dsimp only at hSw); go_simp; try with_reducible rfl
        simp only [Act.put, List.setIfInBounds_toArray, List.set_cons_zero, List.set_cons_succ]
        refine takeH_yes (i := 5) (v := ?_) rfl (by kernel_rfl) (by kernel_rfl) (by kernel_rfl) (fun _ _ _ h => h) (by kernel_rfl) ?_ (by assumption) ?_
        rotate_left
        · intro wz hSw; (try dsimp only at hSw); go_simp; try with_reducible rfl
        simp only [Act.put, List.setIfInBounds_toArray, List.set_cons_zero, List.set_cons_succ]
        refine takeH_no (i := 6) rfl (by kernel_rfl) (by kernel_rfl) (by kernel_rfl) (fun _ _ _ h => h) (by kernel_rfl) (by assumption) ?_
        simp only [Act.put, List.setIfInBounds_toArray, List.set_cons_zero, List.set_cons_succ]
        refine takeH_no (i := 7) rfl (by kernel_rfl) (by kernel_rfl) (by kernel_rfl) (fun _ _ _ h => h) (by kernel_rfl) (by assumption) ?_
        simp only [Act.put, List.setIfInBounds_toArray, List.set_cons_zero, List.set_cons_succ]
        refine takeH_no (i := 8) rfl (by kernel_rfl) (by kernel_rfl) (by kernel_rfl) (fun _ _ _ h => h) (by kernel_rfl) (by assumption) ?_
        simp only [Act.put, List.setIfInBounds_toArray, List.set_cons_zero, List.set_cons_succ]
        refine takeH_yes (i := 9) (v := ?_) rfl (by kernel_rfl) (by kernel_rfl) (by kernel_rfl) (fun _ _ _ h => h) (by kernel_rfl) ?_ (by assumption) ?_
        rotate_left
        · intro wz hSw; (try dsimp only at hSw); go_simp; try with_reducible rfl
        simp only [Act.put, List.setIfInBounds_toArray, List.set_cons_zero, List.set_cons_succ]
        refine takeH_yes (i := 10) (v := ?_) rfl (by kernel_rfl) (by kernel_rfl) (by kernel_rfl) (fun _ _ _ h => h) (by kernel_rfl) ?_ (by assumption) ?_
        rotate_left
        · intro wz hSw; (try dsimp only at hSw); go_simp; try with_reducible rfl
        simp only [Act.put, List.setIfInBounds_toArray, List.set_cons_zero, List.set_cons_succ]
        refine takeH_no (i := 11) rfl (by kernel_rfl) (by kernel_rfl) (by kernel_rfl) (fun _ _ _ h => h) (by kernel_rfl) (by assumption) ?_
        simp only [Act.put, List.setIfInBounds_toArray, List.set_cons_zero, List.set_cons_succ]
        refine takeH_no (i := 12) rfl (by kernel_rfl) (by kernel_rfl) (by kernel_rfl) (fun _ _ _ h => h) (by kernel_rfl) (by assumption) ?_
        simp only [Act.put, List.setIfInBounds_toArray, List.set_cons_zero, List.set_cons_succ]
        refine takeH_no (i := 13) rfl (by kernel_rfl) (by kernel_rfl) (by kernel_rfl) (fun _ _ _ h => h) (by kernel_rfl) (by assumption) ?_
        simp only [Act.put, List.setIfInBounds_toArray, List.set_cons_zero, List.set_cons_succ]
        refine takeH_no (i := 14) rfl (by kernel_rfl) (by kernel_rfl) (by kernel_rfl) (fun _ _ _ h => h) (by kernel_rfl) (by assumption) ?_
        simp only [Act.put, List.setIfInBounds_toArray, List.set_cons_zero, List.set_cons_succ]
        refine takeH_no (i := 15) rfl (by kernel_rfl) (by kernel_rfl) (by kernel_rfl) (fun _ _ _ h => h) (by kernel_rfl) (by assumption) ?_
        simp only [Act.put, List.setIfInBounds_toArray, List.set_cons_zero, List.set_cons_succ]
        refine takeH_no (i := 16) rfl (by kernel_rfl) (by kernel_rfl) (by kernel_rfl) (fun _ _ _ h => h) (by kernel_rfl) (by assumption) ?_
        simp only [Act.put, List.setIfInBounds_toArray, List.set_cons_zero, List.set_cons_succ]
        refine takeH_no (i := 17) rfl (by kernel_rfl) (by kernel_rfl) (by kernel_rfl) (fun _ _ _ h => h) (by kernel_rfl) (by assumption) ?_
        simp only [Act.put, List.setIfInBounds_toArray, List.set_cons_zero, List.set_cons_succ]
        refine takeH_no (i := 18) rfl (by kernel_rfl) (by kernel_rfl) (by kernel_rfl) (fun _ _ _ h => h) (by kernel_rfl) (by assumption) ?_
        simp only [Act.put, List.setIfInBounds_toArray, List.set_cons_zero, List.set_cons_succ]
        refine takeH_no (i := 19) rfl (by kernel_rfl) (by kernel_rfl) (by kernel_rfl) (fun _ _ _ h => h) (by kernel_rfl) (by assumption) ?_
        simp only [Act.put, List.setIfInBounds_toArray, List.set_cons_zero, List.set_cons_succ]
        refine takeH_yes (i := 20) (v := ?_) rfl (by kernel_rfl) (by kernel_rfl) (by kernel_rfl) (fun _ _ _ h => h) (by kernel_rfl) ?_ (by assumption) ?_
        rotate_left
        · intro wz hSw; (try dsimp only at hSw); go_simp; try with_reducible rfl
        simp only [Act.put, List.setIfInBounds_toArray, List.set_cons_zero, List.set_cons_succ]
        refine wpAnyH_done (by kernel_rfl) ?_ _
        obtain ⟨-, BK5, HB5⟩ := HBA.out _ hb
        clear hHeld HK hb
        generalize (wr.alloc (.cells (sC u0 u1 u2 u3 u4 u5) 24)).drew = w5 at *
        obtain ⟨x0, x1, x2, x3, x4, x5⟩ := slAt_blk BK5
        have f0 := BK5.frozen 0
        have f1 := BK5.frozen 1
        have f2 := BK5.frozen 2
        have f3 := BK5.frozen 3
        have f4 := BK5.frozen 4
        have f5 := BK5.frozen 5
        go_wp2
        refine bodyPost_ret (results_cell2 rfl _ _ w.heap.size 24 _ (0, 0) _ rfl (sl_store BK5) Try.underlying24 rfl (by kernel_rfl)) rfl ?_
        exact ⟨by rw [HF.out]; rfl, sl_below HB5 (Nat.le_refl _)⟩
      have t6 : decide ((n : Int) - (p : Int) < 64) = false := by simp; omega
      replace W4 := Lib.hid (W4.out (by rw [HLEN.out]; omega))
      obtain ⟨q, hq⟩ : ∃ q : Nat, (p : Int) + 64 = (q : Int) := ⟨p + 64, by omega⟩
      have hqn : q ≤ n := by omega
      have i1 : (p : Int) ≤ (q : Int) := by omega
      have i2 : (q : Int) ≤ (c : Int) := by omega
      have hqp : Hid (q - p = 64) := by show _ = _; omega
      have hcp : ¬ c = p := by omega
      have hqw : IntKind.i64.wrap (q : Int) = (q : Int) := by rw [IntKind.wrap_i64]; omega
      have hpq : p ≤ q := by omega
      obtain ⟨A0, hA0⟩ : ∃ A0, A.map (·.add p) = A0 := ⟨_, rfl⟩
      have RS := Lib.hid (fun wx (hx : Below w.heap.size w wx) => (HR.out wx hx).sub (lo := p) (hi := q) (cap := c) (by omega) hqn hl)
      rw [if_neg hcp, hA0] at RS
      have HZ4 : Hid (AreB ((zs.drop p).take (q - p))) := HZP.out.take _
      rw [← hqp.out] at BB
      go_wp2_with fail
      have hb : Below (wr.alloc (.cells (sC u0 u1 u2 u3 u4 u5) 24)).heap.size (wr.alloc (.cells (sC u0 u1 u2 u3 u4 u5) 24)) (wr.alloc (.cells (sC u0 u1 u2 u3 u4 u5) 24)).drew := below_drewn (Below.refl _ _) 1
      have HK := Lib.hid (HBA.out _ hb).1
      clear z0 z1 z2 z3 z4 z5
      cases r
      · have HF := Lib.hid (HE.out (W3.out rfl))
        refine wp_region_held_drew (S := fun w' => SlAt w' wr.heap.size u0 u1 u2 u3 u4 u5) (by kernel_rfl) HK.out (fun hHeld => ?_)
        refine takeH_yes (i := 0) (v := ?_) rfl (by kernel_rfl) (by kernel_rfl) (by kernel_rfl) (fun _ _ _ h => h) (by kernel_rfl) ?_ (by assumption) ?_
        rotate_left
        · intro wz hSw; (try dsimp only at hSw); go_simp; try with_reducible rfl
        simp only [Act.put, List.setIfInBounds_toArray, List.set_cons_zero, List.set_cons_succ]
        refine takeH_yes (i := 1) (v := ?_) rfl (by kernel_rfl) (by kernel_rfl) (by kernel_rfl) (fun _ _ _ h => h) (by kernel_rfl) ?_ (by assumption) ?_
        rotate_left
        · intro wz hSw; (try dsimp only at hSw); go_simp; try with_reducible rfl
        simp only [Act.put, List.setIfInBounds_toArray, List.set_cons_zero, List.set_cons_succ]
        refine takeH_yes (i := 2) (v := ?_) rfl (by kernel_rfl) (by kernel_rfl) (by kernel_rfl) (fun _ _ _ h => h) (by kernel_rfl) ?_ (by assumption) ?_
        rotate_left
        · intro wz hSw; (try dsimp only at hSw); go_simp; try with_reducible rfl
        simp only [Act.put, List.setIfInBounds_toArray, List.set_cons_zero, List.set_cons_succ]
        refine takeH_yes (i := 3) (v := ?_) rfl (by kernel_rfl) (by kernel_rfl) (by kernel_rfl) (fun _ _ _ h => h) (by kernel_rfl) ?_ (by assumption) ?_
        rotate_left
        · intro wz hSw; (try dsimp only at hSw); go_simp; try with_reducible rfl
        simp only [Act.put, List.setIfInBounds_toArray, List.set_cons_zero, List.set_cons_succ]
        refine takeH_yes (i := 4) (v := ?_) rfl (by kernel_rfl) (by kernel_rfl) (by kernel_rfl) (fun _ _ _ h => h) (by kernel_rfl) ?_ (by assumption) ?_
        rotate_left
        · intro wz hSw; (try dsimp only at hSw); go_simp; try with_reducible rfl
        simp only [Act.put, List.setIfInBounds_toArray, List.set_cons_zero, List.set_cons_succ]
        refine takeH_yes (i := 5) (v := ?_) rfl (by kernel_rfl) (by kernel_rfl) (by kernel_rfl) (fun _ _ _ h => h) (by kernel_rfl) ?_ (by assumption) ?_
        rotate_left
        · intro wz hSw; (try dsimp only at hSw); go_simp; try with_reducible rfl
        simp only [Act.put, List.setIfInBounds_toArray, List.set_cons_zero, List.set_cons_succ]
        refine takeH_yes (i := 6) (v := ?_) rfl (by kernel_rfl) (by kernel_rfl) (by kernel_rfl) (fun _ _ _ h => h) (by kernel_rfl) ?_ (by assumption) ?_
        rotate_left
        · intro wz hSw; (try dsimp only at hSw); go_simp; try with_reducible rfl
        simp only [Act.put, List.setIfInBounds_toArray, List.set_cons_zero, List.set_cons_succ]
        refine oneH (i := 7) rfl (by kernel_rfl) (fun K hK => ?_)
        go_simp
        go_at_call 12
        refine (R1.out _).mono ?_
        rintro en wx ⟨rfl, hbx⟩
        have hb := hb.trans (hbx.mono hb.size)
        clear hbx
        refine hK.out _ _ (HBA.out _ hb).1 (fun hHeld => ?_)
        clear hK K
        try simp only [Act.put, List.setIfInBounds_toArray, List.set_cons_zero, List.set_cons_succ]
        refine takeH_yes (i := 8) (v := ?_) rfl (by kernel_rfl) (by kernel_rfl) (by kernel_rfl) (fun _ _ _ h => h) (by kernel_rfl) ?_ (by assumption) ?_
        rotate_left
        · intro wz hSw; (try dsimp only at hSw); go_simp; try with_reducible rfl
        simp only [Act.put, List.setIfInBounds_toArray, List.set_cons_zero, List.set_cons_succ]
        refine takeH_yes (i := 9) (v := ?_) rfl (by kernel_rfl) (by kernel_rfl) (by kernel_rfl) (fun _ _ _ h => h) (by kernel_rfl) ?_ (by assumption) ?_
        rotate_left
        · intro wz hSw; (try dsimp only at hSw); go_simp; try with_reducible rfl
        simp only [Act.put, List.setIfInBounds_toArray, List.set_cons_zero, List.set_cons_succ]
        refine takeH_yes (i := 10) (v := ?_) rfl (by kernel_rfl) (by kernel_rfl) (by kernel_rfl) (fun _ _ _ h => h) (by kernel_rfl) ?_ (by assumption) ?_
        rotate_left
        · intro wz hSw; (try dsimp only at hSw); go_simp; try with_reducible rfl
        simp only [Act.put, List.setIfInBounds_toArray, List.set_cons_zero, List.set_cons_succ]
        refine takeH_no (i := 11) rfl (by kernel_rfl) (by kernel_rfl) (by kernel_rfl) (fun _ _ _ h => h) (by kernel_rfl) (by assumption) ?_
        simp only [Act.put, List.setIfInBounds_toArray, List.set_cons_zero, List.set_cons_succ]
        refine takeH_no (i := 12) rfl (by kernel_rfl) (by kernel_rfl) (by kernel_rfl) (fun _ _ _ h => h) (by kernel_rfl) (by assumption) ?_
        simp only [Act.put, List.setIfInBounds_toArray, List.set_cons_zero, List.set_cons_succ]
        refine takeH_no (i := 13) rfl (by kernel_rfl) (by kernel_rfl) (by kernel_rfl) (fun _ _ _ h => h) (by kernel_rfl) (by assumption) ?_
        simp only [Act.put, List.setIfInBounds_toArray, List.set_cons_zero, List.set_cons_succ]
        refine takeH_no (i := 14) rfl (by kernel_rfl) (by kernel_rfl) (by kernel_rfl) (fun _ _ _ h => h) (by kernel_rfl) (by assumption) ?_
        simp only [Act.put, List.setIfInBounds_toArray, List.set_cons_zero, List.set_cons_succ]
        refine takeH_no (i := 15) rfl (by kernel_rfl) (by kernel_rfl) (by kernel_rfl) (fun _ _ _ h => h) (by kernel_rfl) (by assumption) ?_
        simp only [Act.put, List.setIfInBounds_toArray, List.set_cons_zero, List.set_cons_succ]
        refine takeH_no (i := 16) rfl (by kernel_rfl) (by kernel_rfl) (by kernel_rfl) (fun _ _ _ h => h) (by kernel_rfl) (by assumption) ?_
        simp only [Act.put, List.setIfInBounds_toArray, List.set_cons_zero, List.set_cons_succ]
        refine takeH_no (i := 17) rfl (by kernel_rfl) (by kernel_rfl) (by kernel_rfl) (fun _ _ _ h => h) (by kernel_rfl) (by assumption) ?_
        simp only [Act.put, List.setIfInBounds_toArray, List.set_cons_zero, List.set_cons_succ]
        refine takeH_no (i := 18) rfl (by kernel_rfl) (by kernel_rfl) (by kernel_rfl) (fun _ _ _ h => h) (by kernel_rfl) (by assumption) ?_
        simp only [Act.put, List.setIfInBounds_toArray, List.set_cons_zero, List.set_cons_succ]
        refine takeH_no (i := 19) rfl (by kernel_rfl) (by kernel_rfl) (by kernel_rfl) (fun _ _ _ h => h) (by kernel_rfl) (by assumption) ?_
        simp only [Act.put, List.setIfInBounds_toArray, List.set_cons_zero, List.set_cons_succ]
        refine takeH_yes (i := 20) (v := ?_) rfl (by kernel_rfl) (by kernel_rfl) (by kernel_rfl) (fun _ _ _ h => h) (by kernel_rfl) ?_ (by assumption) ?_
        rotate_left
        · intro wz hSw; (try dsimp only at hSw); go_simp; try with_reducible rfl
        simp only [Act.put, List.setIfInBounds_toArray, List.set_cons_zero, List.set_cons_succ]
        refine wpAnyH_done (by kernel_rfl) ?_ _
        obtain ⟨-, BK5, HB5⟩ := HBA.out _ hb
        obtain ⟨x0, x1, x2, x3, x4, x5⟩ := slAt_blk BK5
        have f0 := BK5.frozen 0
        have f1 := BK5.frozen 1
        have f2 := BK5.frozen 2
        have f3 := BK5.frozen 3
        have f4 := BK5.frozen 4
        have f5 := BK5.frozen 5
        go_wp2
        refine bodyPost_ret (results_cell2 rfl _ _ w.heap.size 24 _ (0, 0) _ rfl (sl_store BK5) Try.underlying24 rfl (by kernel_rfl)) rfl ?_
        exact ⟨by rw [HF.out]; rfl, sl_below HB5 (Nat.le_refl _)⟩
      · have HI := W4
        cases b
        all_goals
          go_region_held3 (fun w' => SlAt w' wr.heap.size u0 u1 u2 u3 u4 u5)
            (first | assumption | exact HK.out | exact (HBA.out _ hb).1)
            (first
              | (go_at_call 12; refine (R1.out _).mono ?_; rintro en wx ⟨rfl, hbx⟩; have hb := hb.trans (hbx.mono hb.size); clear hbx)
              | (go_at_call 10; refine (EN.out _).mono ?_; rintro en wx ⟨A1, _, c1, rfl, rfl, ho1, hbx, -, -⟩; have hb := hb.trans (hbx.mono hb.size); have hr1 := Reads.of_own ho1; clear hbx ho1)
              | (go_at_call 6; refine (same_any A1 A0 x.length (q - p) c1 _ x ((zs.drop p).take (q - p)) _ hr1 (RS.out _ (HBA.out _ hb).2.2) HX.out HZ4.out).mono ?_; rw [BB.out]; rintro en wx ⟨rfl, rfl⟩))
          obtain ⟨⟨y0, y1, y2, y3, y4, y5⟩, BK5, HB5⟩ := HBA.out _ hb
          obtain ⟨x0, x1, x2, x3, x4, x5⟩ := slAt_blk BK5
          have f0 := BK5.frozen 0
          have f1 := BK5.frozen 1
          have f2 := BK5.frozen 2
          have f3 := BK5.frozen 3
          have f4 := BK5.frozen 4
          have f5 := BK5.frozen 5
          go_wp2
          refine bodyPost_ret (results_cell2 rfl _ _ w.heap.size 24 _ (0, 0) _ rfl (sl_store BK5) Try.underlying24 rfl (by kernel_rfl)) rfl ?_
          first
            | exact ⟨by rw [HE.out HI.out]; rfl, sl_below HB5 (Nat.le_refl _)⟩
            | exact ⟨by rw [HY.out HI.out, HI.out]; rfl, sl_below HB5 (Nat.le_refl _)⟩

end Go.Proofs.Ytdajjkjpjhpnjaa
