/-
  LAYER 10: THE DOCUMENT'S Decode: its contract, for every input.
-/
import Derived.Test.YtjbkkimgiageaaaHeadEncR
import Derived.Test.YtjbkkimgiageaaaHeadDec
import Derived.Test.YtjbkkimgiageaaaRegionH
set_option linter.unusedVariables false
set_option linter.unusedSimpArgs false
namespace Go.Proofs.Ytjbkkimgiageaaa
open Go.RowKit

theorem isH_wide {zs : List Int} (h : 256 < wordAt zs 2 ∨ 256 < wordAt zs 3) : isH zs = false := by
  unfold isH rightH
  rcases h with h | h
  · rw [decide_eq_false (show ¬ wordAt zs 2 ≤ 256 by omega)]; simp
  · rw [decide_eq_false (show ¬ wordAt zs 3 ≤ 256 by omega)]; simp
theorem isH_not {zs : List Int} (h : rightH (wordAt zs 2) (wordAt zs 3) = false) : isH zs = false := by
  unfold isH; rw [h]; simp
theorem isH_is {zs : List Int} (hn : 64 ≤ zs.length) (h : rightH (wordAt zs 2) (wordAt zs 3) = true) : isH zs = decide (encHR (wordAt zs 0) (wordAt zs 1) (wordAt zs 2) (wordAt zs 3) (wordAt zs 4) = zs.take 64) := by
  unfold isH encHR; rw [h, decide_eq_true hn, if_pos rfl]; rfl

/-- The array of five words in the making: its first j are there. -/
def fiveP (zs : List Int) (j : Nat) : List Value := (List.range 5).map fun t => if t < j then .int .u64 (wordAt zs t) else .int .u64 0
theorem fiveP_set (zs : List Int) {j : Nat} (hj : j < 5) : (fiveP zs j).toArray.setIfInBounds j (.int .u64 (wordAt zs j)) = (fiveP zs (j + 1)).toArray := by
  match j, hj with
  | 0, _ | 1, _ | 2, _ | 3, _ | 4, _ => rfl
  | n + 5, h => omega
theorem fiveP_size (zs : List Int) (j : Nat) : (fiveP zs j).toArray.size = 5 := by simp [fiveP]
theorem fiveP_full (zs : List Int) : (fiveP zs 5).toArray = #[.int .u64 (wordAt zs 0), .int .u64 (wordAt zs 1), .int .u64 (wordAt zs 2), .int .u64 (wordAt zs 3), .int .u64 (wordAt zs 4)] := rfl

/-- What the document's Decode holds: what it tells, what it makes, and the words. -/
structure DecW (w0 : World) (zs : List Int) (j : Nat) (wx : World) : Prop where
  bel : Below w0.heap.size w0 wx
  res : Blk wx w0.heap.size 24 hdZC
  hd : Blk wx (w0.heap.size + 1) 24 hdZC
  wds : Blk wx (w0.heap.size + 2) 66 (fiveP zs j).toArray

theorem decW_start (w : World) (zs : List Int) : DecW w zs 0 (((w.alloc (.cells hdZC 24)).alloc (.cells hdZC 24)).alloc (.cells #[.int .u64 0, .int .u64 0, .int .u64 0, .int .u64 0, .int .u64 0] 66)) := by
  have h1 := Blk.new w 24 hdZC
  have h2 := Blk.new (w.alloc (.cells hdZC 24)) 24 hdZC
  have h3 := Blk.new ((w.alloc (.cells hdZC 24)).alloc (.cells hdZC 24)) 66 #[.int .u64 0, .int .u64 0, .int .u64 0, .int .u64 0, .int .u64 0]
  rw [World.size_alloc] at h2
  rw [World.size_alloc, World.size_alloc] at h3
  exact ⟨((boxed _ _).alloc (by simp) _).alloc (by simp; omega) _, (h1.alloc _).alloc _, h2.alloc _, h3⟩

theorem DecW.next {w0 wx : World} {zs : List Int} {j : Nat} (h : DecW w0 zs j wx) (hj : j < 5) : DecW w0 zs (j + 1) (wx.setCell ⟨w0.heap.size + 2, j, none⟩ (.int .u64 (wordAt zs j))) :=
  ⟨h.bel.setCell (by show _ ≤ w0.heap.size + 2; omega) _, h.res.far (by show _ ≠ w0.heap.size + 2; omega) _, h.hd.far (by show _ ≠ w0.heap.size + 2; omega) _, by
    have := h.wds.set_ j (.int .u64 (wordAt zs j)); rwa [fiveP_set zs hj] at this⟩

/-- The end, where there is none. -/
theorem decH_no {zs : List Int} (h : isH zs = false) : Value.tuple #[decH zs, .bool (isH zs)] = .tuple #[hdZ, .bool false] := by
  unfold decH; rw [h]; rfl

theorem hd_far {w : World} {g h : Nat} {t : TypeId} {cs : Array Value} {a' b' c' d' e' : Value} (hb : Blk w g t cs) (hn : g ≠ h) :
    Blk (((((w.setCell ⟨h, 0, none⟩ a').setCell ⟨h, 1, none⟩ b').setCell ⟨h, 2, none⟩ c').setCell ⟨h, 3, none⟩ d').setCell ⟨h, 4, none⟩ e') g t cs :=
  ((((hb.far (p := ⟨h, 0, none⟩) hn _).far (p := ⟨h, 1, none⟩) hn _).far (p := ⟨h, 2, none⟩) hn _).far (p := ⟨h, 3, none⟩) hn _).far (p := ⟨h, 4, none⟩) hn _

set_option maxRecDepth 100000 in
set_option maxHeartbeats 4000000 in
theorem rhdec_any {B : Nat} (A : Option Addr) (n c : Nat) (zs : List Int) (w : World) (hr : Reads w B 1 A n (cellsOf .u8 zs)) (hB : B ≤ w.heap.size) (hz : AreB zs) (hl : n ≤ c) (hcap : c ≤ 9223372036854775807) :
    Calls Try.prog 20 #[.slice A n c] w fun e w' => e = .returned (.tuple #[decH zs, .bool (isH zs)]) ∧ Below w.heap.size w w' := by
  have hlen := hr.len
  have HLEN := Lib.hid hlen
  have HR := Lib.hid (fun wx (hx : Below w.heap.size w wx) => (hr.keep (w' := wx) (fun p hp => hx.cell (by omega)) : Reads wx B 1 A n (cellsOf .u8 zs)))
  have HZ := Lib.hid hz
  clear hr hlen
  go_enter Try.func20, Try.ntmps20
  go_wp2
  go_loopw [6, 7, 8] (fun i _ _ wr => ∃ j : Nat, j ≤ 5 ∧ i = .int .i64 j ∧ (j = 0 ∨ 8 + 8 * j ≤ n) ∧ DecW w zs j wr) (fun i _ _ _ => 5 - (intOf i).toNat)
  case atStart => exact ⟨0, Nat.zero_le _, rfl, .inl rfl, decW_start w zs⟩
  case round =>
    obtain ⟨j, hj, rfl, hjn, hD⟩ := hrel
    by_cases hlt : j < 5
    · by_cases hin : 8 + 8 * j + 8 ≤ n
      · have hv : (8 : Int) + 8 * (j : Int) = ((8 + 8 * j : Nat) : Int) := by omega
        have HV := Lib.hid hv
        have HN := Lib.hid (hD.next hlt)
        have G := Lib.hid (fun v (hv : v = ((8 + 8 * j : Nat) : Int)) => rget8 A n c (8 + 8 * j) v zs wr (HR.out _ hD.bel) HZ.out hl hcap hv hin)
        have hfr := hD.wds.frozen j
        have hcell : ∃ u, wr.cell? ⟨w.heap.size + 2, j, none⟩ = some u := by rw [hD.wds.cell]; exact ⟨_, Array.getElem?_eq_getElem (by rw [fiveP_size]; omega)⟩
        obtain ⟨u, hcell⟩ := hcell
        have HG : Hid (lev ((zs.drop (8 + 8 * j)).take 8) = wordAt zs j) := rfl
        rw [HG.out] at G
        generalize wordAt zs j = x at *
        clear hD hv
        go_wp2_with (go_at_call 35; refine (G.out _ HV.out).mono ?_; rintro e w1 ⟨rfl, rfl⟩)
        go_roundw
        case rel => exact ⟨j + 1, by omega, by go_num, .inr (by omega), HN.out⟩
        case measure => simp [intOf]; omega
      · have hg : gok n (8 + 8 * (j : Int)) 8 = false := by rw [gok_isw]; simp [isw]; omega
        have HG := Lib.hid hg
        have HE := Lib.hid (decH_no (isH_short (zs := zs) (by rw [HLEN.out]; omega)))
        obtain ⟨x0, x1, x2, x3, x4⟩ := hdAt_blk hD.res
        have f0 := hD.res.frozen 0
        have f1 := hD.res.frozen 1
        have f2 := hD.res.frozen 2
        have f3 := hD.res.frozen 3
        have f4 := hD.res.frozen 4
        have BK := Lib.hid hD.res
        have HB := Lib.hid hD.bel
        clear hg hD hin
        go_wp2_with (go_at_call 35; refine (rget_no A n c (8 + 8 * (j : Int)) 8 wr HG.out (by omega) (by omega) (by omega) (by omega) (by omega)).mono ?_; rintro e w1 ⟨rfl, rfl⟩)
        refine bodyPost_ret (results_cell2 rfl _ _ w.heap.size 24 _ (0, 0) _ rfl (hd_store BK.out) Try.underlying24 rfl (by kernel_rfl)) rfl ?_
        exact ⟨by rw [HE.out]; rfl, hd_below HB.out (Nat.le_refl _)⟩
    · obtain rfl : j = 5 := by omega
      have b0 := wordAt_bd HZ.out 0
      have b1 := wordAt_bd HZ.out 1
      have b2 := wordAt_bd HZ.out 2
      have b3 := wordAt_bd HZ.out 3
      have b4 := wordAt_bd HZ.out 4
      have HW := hD.wds
      rw [fiveP_full] at HW
      have z0 : wr.cell? ⟨w.heap.size + 2, 0, none⟩ = some (.int .u64 (wordAt zs 0)) := by rw [HW.cell]; rfl
      have z1 : wr.cell? ⟨w.heap.size + 2, 1, none⟩ = some (.int .u64 (wordAt zs 1)) := by rw [HW.cell]; rfl
      have z2 : wr.cell? ⟨w.heap.size + 2, 2, none⟩ = some (.int .u64 (wordAt zs 2)) := by rw [HW.cell]; rfl
      have z3 : wr.cell? ⟨w.heap.size + 2, 3, none⟩ = some (.int .u64 (wordAt zs 3)) := by rw [HW.cell]; rfl
      have z4 : wr.cell? ⟨w.heap.size + 2, 4, none⟩ = some (.int .u64 (wordAt zs 4)) := by rw [HW.cell]; rfl
      obtain ⟨x0, x1, x2, x3, x4⟩ := hdAt_blk hD.res
      have f0 := hD.res.frozen 0
      have f1 := hD.res.frozen 1
      have f2 := hD.res.frozen 2
      have f3 := hD.res.frozen 3
      have f4 := hD.res.frozen 4
      have BK := Lib.hid hD.res
      have BH := Lib.hid hD.hd
      have HB := Lib.hid hD.bel
      have W1 := Lib.hid (isH_wide (zs := zs))
      have W2 := Lib.hid (isH_short (zs := zs))
      have W3 := Lib.hid (isH_not (zs := zs))
      have W4 := Lib.hid (isH_is (zs := zs))
      have HE := Lib.hid (decH_no (zs := zs))
      have HY : Hid (isH zs = true → decH zs = hdV (wordAt zs 0) (wordAt zs 1) (wordAt zs 2) (wordAt zs 3) (wordAt zs 4)) := fun h => by unfold decH; rw [if_pos h]
      generalize wordAt zs 0 = u0 at *
      generalize wordAt zs 1 = u1 at *
      generalize wordAt zs 2 = u2 at *
      generalize wordAt zs 3 = u3 at *
      generalize wordAt zs 4 = u4 at *
      clear HW hD hjn
      by_cases h2 : 256 < u2
      · have HF := Lib.hid (HE.out (W1.out (.inl h2)))
        clear z0 z1 z3 z4
        go_wp2
        refine bodyPost_ret (results_cell2 rfl _ _ w.heap.size 24 _ (0, 0) _ rfl (hd_store BK.out) Try.underlying24 rfl (by kernel_rfl)) rfl ?_
        exact ⟨by rw [HF.out]; rfl, hd_below HB.out (Nat.le_refl _)⟩
      by_cases h3 : 256 < u3
      · have HF := Lib.hid (HE.out (W1.out (.inr h3)))
        have t2 : decide (256 < u2) = false := by simp; omega
        clear z0 z1 z4
        go_wp2
        refine bodyPost_ret (results_cell2 rfl _ _ w.heap.size 24 _ (0, 0) _ rfl (hd_store BK.out) Try.underlying24 rfl (by kernel_rfl)) rfl ?_
        exact ⟨by rw [HF.out]; rfl, hd_below HB.out (Nat.le_refl _)⟩
      have t2 : decide (256 < u2) = false := by simp; omega
      have t3 : decide (256 < u3) = false := by simp; omega
      by_cases hn : n < 64
      · have HF := Lib.hid (HE.out (W2.out (by rw [HLEN.out]; omega)))
        clear z0 z1 z4
        go_wp2
        refine bodyPost_ret (results_cell2 rfl _ _ w.heap.size 24 _ (0, 0) _ rfl (hd_store BK.out) Try.underlying24 rfl (by kernel_rfl)) rfl ?_
        exact ⟨by rw [HF.out]; rfl, hd_below HB.out (Nat.le_refl _)⟩
      have hn2 : 64 ≤ n := by omega
      have hc64 : (64 : Int) ≤ c := by omega
      have hn64 : ¬ (n : Int) < 64 := by omega
      have t6 : decide ((n : Int) < 64) = false := by simp; omega
      have hd : IntKind.i64.wrap u2 = u2 := by rw [IntKind.wrap_i64]; omega
      have hf : IntKind.i64.wrap u3 = u3 := by rw [IntKind.wrap_i64]; omega
      obtain ⟨y0, y1, y2, y3, y4⟩ := hdAt_blk BH.out
      have g0 := BH.out.frozen 0
      have g1 := BH.out.frozen 1
      have g2 := BH.out.frozen 2
      have g3 := BH.out.frozen 3
      have g4 := BH.out.frozen 4
      have R1 := Lib.hid (rhright_any u0 u1 u2 u3 u4)
      have EN := Lib.hid (fun wx => rhenc_any u0 u1 u2 u3 u4 wx b0 b1 b4)
      have HX := Lib.hid (encHR_bytes u0 u1 u2 u3 u4)
      have HZ4 : Hid (AreB (zs.take 64)) := HZ.out.take 64
      replace W4 := Lib.hid (W4.out (by rw [HLEN.out]; exact hn2))
      obtain ⟨r, hr⟩ : ∃ r, rightH u2 u3 = r := ⟨_, rfl⟩
      rw [hr] at R1 W4 W3
      obtain ⟨b, hb⟩ : ∃ b, decide (encHR u0 u1 u2 u3 u4 = zs.take 64) = b := ⟨_, rfl⟩
      rw [hb] at W4
      have BB := Lib.hid hb
      generalize encHR u0 u1 u2 u3 u4 = x at *
      clear hr hb b0 b1 b2 b3 b4
      go_wp2_with fail
      obtain ⟨w5, h5⟩ : ∃ w5, w5 = (((((wr.setCell ⟨w.heap.size + 1, 0, none⟩ (.int .u64 u0)).setCell ⟨w.heap.size + 1, 1, none⟩ (.int .u64 u1)).setCell ⟨w.heap.size + 1, 2, none⟩ (.int .i64 u2)).setCell ⟨w.heap.size + 1, 3, none⟩ (.int .i64 u3)).setCell ⟨w.heap.size + 1, 4, none⟩ (.int .u64 u4)) := ⟨_, rfl⟩
      rw [← h5]
      have HBA : Hid (∀ wx, Below w5.heap.size w5 wx → HdAt wx (w.heap.size + 1) u0 u1 u2 u3 u4 ∧ Blk wx w.heap.size 24 hdZC ∧ Below w.heap.size w wx) := fun wx hx => by
        have q1 : Blk w5 (w.heap.size + 1) 24 #[.int .u64 u0, .int .u64 u1, .int .i64 u2, .int .i64 u3, .int .u64 u4] := by rw [h5]; exact hd_store BH.out
        have q2 : Blk w5 w.heap.size 24 hdZC := by rw [h5]; exact hd_far BK.out (by omega)
        have q3 : Below w.heap.size w w5 := by rw [h5]; exact hd_below HB.out (by omega)
        exact ⟨hdAt_blk (q1.below hx q1.lt), q2.below hx q2.lt, q3.trans (hx.mono q3.size)⟩
      clear h5 x0 x1 x2 x3 x4 y0 y1 y2 y3 y4 f0 f1 f2 f3 f4 g0 g1 g2 g3 g4 z0 z1 z2 z3 z4
      have hb : Below w5.heap.size w5 w5.drew := below_drewn (Below.refl _ _) 1
      have HK := Lib.hid (HBA.out _ hb).1
      cases r
      · have HF := Lib.hid (HE.out (W3.out rfl))
        refine wp_region_held_drew (S := fun w' => HdAt w' (w.heap.size + 1) u0 u1 u2 u3 u4) (by kernel_rfl) HK.out (fun hHeld => ?_)
        refine takeH_yes (i := 0) (v := ?_) rfl (by kernel_rfl) (by kernel_rfl) (by kernel_rfl) (fun _ _ _ h => h) (by kernel_rfl) ?_ (by assumption) ?_
        rotate_left
        · intro wz hSw; (try dsimp only at hSw); go_simp; try with_reducible rfl
        simp only [Act.put, List.setIfInBounds_toArray, List.set_cons_zero, List.set_cons_succ]
        refine oneH (i := 1) rfl (by kernel_rfl) (fun K hK => ?_)
        go_simp
        go_at_call 12
        refine (R1.out _).mono ?_
        rintro e wx ⟨rfl, hbx⟩
        have hb := hb.trans (hbx.mono hb.size)
        clear hbx
        refine hK.out _ _ (HBA.out _ hb).1 (fun hHeld => ?_)
        clear hK K
        try simp only [Act.put, List.setIfInBounds_toArray, List.set_cons_zero, List.set_cons_succ]
        refine takeH_yes (i := 2) (v := ?_) rfl (by kernel_rfl) (by kernel_rfl) (by kernel_rfl) (fun _ _ _ h => h) (by kernel_rfl) ?_ (by assumption) ?_
        rotate_left
        · intro wz hSw; (try dsimp only at hSw); go_simp; try with_reducible rfl
        simp only [Act.put, List.setIfInBounds_toArray, List.set_cons_zero, List.set_cons_succ]
        refine takeH_yes (i := 3) (v := ?_) rfl (by kernel_rfl) (by kernel_rfl) (by kernel_rfl) (fun _ _ _ h => h) (by kernel_rfl) ?_ (by assumption) ?_
        rotate_left
        · intro wz hSw; (try dsimp only at hSw); go_simp; try with_reducible rfl
        simp only [Act.put, List.setIfInBounds_toArray, List.set_cons_zero, List.set_cons_succ]
        refine takeH_no (i := 4) rfl (by kernel_rfl) (by kernel_rfl) (by kernel_rfl) (fun _ _ _ h => h) (by kernel_rfl) (by assumption) ?_
        simp only [Act.put, List.setIfInBounds_toArray, List.set_cons_zero, List.set_cons_succ]
        refine takeH_no (i := 5) rfl (by kernel_rfl) (by kernel_rfl) (by kernel_rfl) (fun _ _ _ h => h) (by kernel_rfl) (by assumption) ?_
        simp only [Act.put, List.setIfInBounds_toArray, List.set_cons_zero, List.set_cons_succ]
        refine takeH_no (i := 6) rfl (by kernel_rfl) (by kernel_rfl) (by kernel_rfl) (fun _ _ _ h => h) (by kernel_rfl) (by assumption) ?_
        simp only [Act.put, List.setIfInBounds_toArray, List.set_cons_zero, List.set_cons_succ]
        refine takeH_no (i := 7) rfl (by kernel_rfl) (by kernel_rfl) (by kernel_rfl) (fun _ _ _ h => h) (by kernel_rfl) (by assumption) ?_
        simp only [Act.put, List.setIfInBounds_toArray, List.set_cons_zero, List.set_cons_succ]
        refine takeH_no (i := 8) rfl (by kernel_rfl) (by kernel_rfl) (by kernel_rfl) (fun _ _ _ h => h) (by kernel_rfl) (by assumption) ?_
        simp only [Act.put, List.setIfInBounds_toArray, List.set_cons_zero, List.set_cons_succ]
        refine takeH_no (i := 9) rfl (by kernel_rfl) (by kernel_rfl) (by kernel_rfl) (fun _ _ _ h => h) (by kernel_rfl) (by assumption) ?_
        simp only [Act.put, List.setIfInBounds_toArray, List.set_cons_zero, List.set_cons_succ]
        refine takeH_yes (i := 10) (v := ?_) rfl (by kernel_rfl) (by kernel_rfl) (by kernel_rfl) (fun _ _ _ h => h) (by kernel_rfl) ?_ (by assumption) ?_
        rotate_left
        · intro wz hSw; (try dsimp only at hSw); go_simp; try with_reducible rfl
        simp only [Act.put, List.setIfInBounds_toArray, List.set_cons_zero, List.set_cons_succ]
        refine wpAnyH_done (by kernel_rfl) ?_ _
        obtain ⟨-, BK5, HB5⟩ := HBA.out _ hb
        obtain ⟨x0, x1, x2, x3, x4⟩ := hdAt_blk BK5
        have f0 := BK5.frozen 0
        have f1 := BK5.frozen 1
        have f2 := BK5.frozen 2
        have f3 := BK5.frozen 3
        have f4 := BK5.frozen 4
        go_wp2
        refine bodyPost_ret (results_cell2 rfl _ _ w.heap.size 24 _ (0, 0) _ rfl (hd_store BK5) Try.underlying24 rfl (by kernel_rfl)) rfl ?_
        exact ⟨by rw [HF.out]; rfl, hd_below HB5 (Nat.le_refl _)⟩
      · have HI := Lib.hid (W4.out rfl)
        cases b
        all_goals
          go_region_held3 (fun w' => HdAt w' (w.heap.size + 1) u0 u1 u2 u3 u4)
            (first | assumption | exact HK.out | exact (HBA.out _ hb).1)
            (first
              | (go_at_call 12; refine (R1.out _).mono ?_; rintro e wx ⟨rfl, hbx⟩; have hb := hb.trans (hbx.mono hb.size); clear hbx)
              | (go_at_call 10; refine (EN.out _).mono ?_; rintro e wx ⟨A1, _, c1, rfl, rfl, ho1, hbx, -, -⟩; have hb := hb.trans (hbx.mono hb.size); have hr1 := Reads.of_own ho1; clear hbx ho1)
              | (go_at_call 8; refine (same_any A1 A x.length 64 c1 _ x (zs.take 64) _ hr1 ((HR.out _ (HBA.out _ hb).2.2).pre hn2) HX.out HZ4.out).mono ?_; rw [BB.out]; rintro e wx ⟨rfl, rfl⟩))
          obtain ⟨⟨y0, y1, y2, y3, y4⟩, BK5, HB5⟩ := HBA.out _ hb
          obtain ⟨x0, x1, x2, x3, x4⟩ := hdAt_blk BK5
          have f0 := BK5.frozen 0
          have f1 := BK5.frozen 1
          have f2 := BK5.frozen 2
          have f3 := BK5.frozen 3
          have f4 := BK5.frozen 4
          go_wp2
          refine bodyPost_ret (results_cell2 rfl _ _ w.heap.size 24 _ (0, 0) _ rfl (hd_store BK5) Try.underlying24 rfl (by kernel_rfl)) rfl ?_
          first
            | exact ⟨by rw [HE.out HI.out]; rfl, hd_below HB5 (Nat.le_refl _)⟩
            | exact ⟨by rw [HY.out HI.out, HI.out]; rfl, hd_below HB5 (Nat.le_refl _)⟩

end Go.Proofs.Ytjbkkimgiageaaa
