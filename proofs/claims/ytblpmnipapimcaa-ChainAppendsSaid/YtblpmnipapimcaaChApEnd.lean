/-
  LAYER 14: what is behind ChainAppends' loop: its last two loops.
-/
import Derived.Test.YtblpmnipapimcaaChApSt
set_option linter.unusedVariables false
set_option maxRecDepth 100000
set_option linter.unusedSimpArgs false
namespace Go.Proofs.Ytblpmnipapimcaa
open Go.RowKit Go.Shelf

noncomputable def apRest : Code := cR apLoop
abbrev apG (p ga gl : Nat) (X : Nat → Value) : Array Value := #[X 0, X 1, X 2, X 3, X 4, X 5, X 6, .pointer (some ⟨p, 0, none⟩), .slice (some ⟨ga, 0, none⟩) 2 2, .slice (some ⟨gl, 0, none⟩) 2 2, X 10, X 11, X 12, X 13, X 14, X 15, X 16, X 17, X 18, X 19, X 20, X 21, X 22, X 23, X 24, X 25, X 26, X 27, X 28, X 29, X 30, X 31, X 32, X 33, X 34, X 35, X 36, X 37, X 38, X 39, X 40, X 41, X 42, X 43, X 44, X 45, X 46, X 47, X 48, X 49, X 50, X 51, X 52, X 53, X 54, X 55, X 56, X 57, X 58, X 59, X 60, X 61, X 62, X 63, X 64, X 65, X 66, X 67, X 68, X 69, X 70, X 71, X 72, X 73, X 74, X 75, X 76, X 77, X 78, X 79, X 80, X 81, X 82, X 83, X 84, X 85, X 86, X 87, X 88, X 89, X 90, X 91, X 92, X 93, X 94, X 95, X 96, X 97, X 98, X 99, X 100, X 101, X 102, X 103, X 104, X 105, X 106, X 107, X 108, X 109, X 110, X 111, X 112, X 113, X 114, X 115, X 116, X 117, X 118, X 119, X 120, X 121, X 122, X 123, X 124, X 125, X 126, X 127, X 128, X 129, X 130, X 131, X 132, X 133, X 134, X 135, X 136, X 137, X 138, X 139, X 140, X 141, X 142, X 143, X 144, X 145, X 146, X 147, X 148, X 149, X 150, X 151, X 152, X 153, X 154, X 155, X 156, X 157, X 158, X 159, X 160, X 161, X 162, X 163, X 164, X 165, X 166, X 167, X 168, X 169, X 170, X 171, X 172, X 173, X 174, X 175, X 176, X 177, X 178, X 179, X 180, X 181, X 182, X 183, X 184, X 185]
theorem sizes_get (N : Nat) {j : Nat} (hj : j < N) : ((List.range N).map (fun n => (sizeC n : Int))).getD j 0 = (sizeC j : Int) := by
  rw [List.getD_eq_getElem?_getD, List.getElem?_map, List.getElem?_range hj]; rfl

set_option maxHeartbeats 32000000 in
theorem ap_rest {w wz : World} {p lim ga gl tl cnt : Nat} {gs : Nat → Nat} (h : ApSt w wz p lim ga gl gs tl cnt) (hcnt : cnt ≤ 900) (X : Nat → Value) (Q : Exit → Act → World → Prop)
    (HQ : Hid (∀ w2 arr, Below wz.heap.size wz w2 → arr.getD 6 undef = .bool true → Q .ret { tmps := arr, defers := [] } w2)) :
    apRest.wp Try.prog Q { tmps := apG p ga gl X, defers := [] } wz := by
  obtain ⟨S, Ls, As, vs, hC, hR⟩ := h
  have AW := Lib.hid (fun w1 => awake_any w1)
  have HH := Lib.hid (And.intro hC hR)
  clear hC hR
  dsimp only [apRest, apLoop, apBody, cL, cR, cB, cLp, Try.f3, Option.getD]
  go_wp2
  go_loopw [15] (fun s15 wr => ∃ t : Nat, s15 = .int .i64 t ∧ t ≤ 2 ∧ Hid (Below wz.heap.size wz wr)) (fun s15 _ => 2 - (intOf s15).toNat)
  case atStart => exact ⟨0, rfl, by omega, Lib.hid (Below.refl _ _)⟩
  case round =>
    obtain ⟨t, rfl, ht2, hB⟩ := hrel
    by_cases ht : t < 2
    · obtain ⟨hC0, hR0⟩ := HH.out
      have hC := hC0.below hB.out
      have hR := hR0.below hB.out
      obtain ⟨its, hL, hn, hsz⟩ := hC.list ht
      have hfew := hC.few t ht
      have hrl := hR.rl t ht
      obtain ⟨v, hv⟩ : ∃ v, vs t = v := ⟨_, rfl⟩
      obtain ⟨L, hLe⟩ : ∃ L, Ls t = L := ⟨_, rfl⟩
      obtain ⟨N, hN⟩ : ∃ N, As t = N := ⟨_, rfl⟩
      obtain ⟨gt, hgt⟩ : ∃ gt, gs t = gt := ⟨_, rfl⟩
      obtain ⟨rt, hrt⟩ : ∃ rt, roots2 t = rt := ⟨_, rfl⟩
      have hkr := hR.root ht
      have hkp := hR.ptr ht
      rw [hv, hLe, hN, hgt] at hrl
      rw [hgt] at hkp
      rw [hrt] at hkr hL
      rw [hLe] at hL
      rw [hN] at hn hsz
      rw [hLe, hN] at hfew
      have hkv := hrl.blk.cell 0
      have hkA := hrl.blk.cell 1
      obtain ⟨Av, cv, rfl, hcv1, hcv2⟩ := own_form hrl.row
      obtain ⟨nL, hnL⟩ : ∃ nL, L.length = nL := ⟨_, rfl⟩
      have SZ := Lib.hid (sizes_any wr hL)
      rw [hn, hsz] at SZ
      have AL := Lib.hid (fun w5 (hb5 : Below wr.heap.size wr w5) => all_any w5 (hL.below hb5))
      have LN := Lib.hid (fun w5 (hb5 : Below wr.heap.size wr w5) => clen_any w5 (hL.below hb5))
      have hrd := Reads.of_own hrl.row
      have HRD := Lib.hid (fun w5 (hb5 : Below wr.heap.size wr w5) => hrd.below hb5)
      rw [hnL] at hkv AL LN hfew HRD hcv1
      have K0 : wr.cell? ⟨ga, t, none⟩ = some (.int .i64 rt) ∧ wr.cell? ⟨gl, t, none⟩ = some (.pointer (some ⟨gt, 0, none⟩)) ∧ wr.cell? ⟨gt, 0, none⟩ = some (.slice Av nL cv) ∧ wr.cell? ⟨gt, 1, none⟩ = some (.int .i64 N) := ⟨hkr, hkp, hkv, hkA⟩
      have HC : Hid (∀ w5, Below wr.heap.size wr w5 → w5.cell? ⟨ga, t, none⟩ = some (.int .i64 rt) ∧ w5.cell? ⟨gl, t, none⟩ = some (.pointer (some ⟨gt, 0, none⟩)) ∧ w5.cell? ⟨gt, 0, none⟩ = some (.slice Av nL cv) ∧ w5.cell? ⟨gt, 1, none⟩ = some (.int .i64 N)) := Lib.hid (fun w5 hb5 =>
        ⟨(hb5.cell (p := ⟨ga, t, none⟩) hR.ka.lt).trans K0.1, (hb5.cell (p := ⟨gl, t, none⟩) hR.kl.lt).trans K0.2.1, (hb5.cell (p := ⟨gt, 0, none⟩) hrl.blk.lt).trans K0.2.2.1, (hb5.cell (p := ⟨gt, 1, none⟩) hrl.blk.lt).trans K0.2.2.2⟩)
      have HNL := Lib.hid hnL
      have i1 : (t : Int) < 2 := by omega
      clear hC0 hR0 hC hR hL hn hsz hrl hrd hv hLe hN hgt hrt hkp hkv hkA K0 hnL
      go_wp2_with (go_at_call 11; refine SZ.out.mono ?_; rintro e w2 ⟨v2, rfl, hown2, hb2⟩; obtain ⟨A2, c2, rfl, -, -⟩ := own_form hown2; have HO2 := Lib.hid hown2; clear hown2)
      have HX : Hid (∀ w5, Below w2.heap.size w2 w5 → Below wr.heap.size wr w5) := Lib.hid (fun w5 h5 => hb2.trans (h5.mono hb2.size))
      have HRS : Hid (∀ w5, Below w2.heap.size w2 w5 → Reads w5 w2.heap.size 1 A2 N (cellsOf .i64 ((List.range N).map fun n => (sizeC n : Int)))) := Lib.hid (fun w5 h5 => (Reads.of_own HO2.out).below h5)
      have hb : Below w2.heap.size w2 w2.drew := below_drewn (Below.refl _ _) 1
      have k1 := HC.out _ (HX.out _ hb)
      clear hb2
      go_region_held3 (fun w' => w'.cell? ⟨ga, t, none⟩ = some (.int .i64 rt) ∧ w'.cell? ⟨gl, t, none⟩ = some (.pointer (some ⟨gt, 0, none⟩)) ∧ w'.cell? ⟨gt, 0, none⟩ = some (.slice Av nL cv) ∧ w'.cell? ⟨gt, 1, none⟩ = some (.int .i64 N))
        (first | assumption | exact HC.out _ (HX.out _ hb))
        (first
          | (go_at_call 13; refine (AL.out _ (HX.out _ hb)).mono ?_; rintro e w5 ⟨v5, rfl, hown5, hb5⟩; obtain ⟨A5, c5, rfl, -, -⟩ := own_form hown5; have HO5 := Lib.hid hown5; have hb := hb.trans (hb5.mono hb.size); clear hown5 hb5)
          | (go_at_call 12; refine (rweq_any A5 Av nL nL c5 cv L L _ (Reads.of_own HO5.out) (HRD.out _ (HX.out _ hb)) (by omega) (by omega)).mono ?_; rintro e w6 ⟨rfl, q6, rfl⟩; have hb := below_drewn hb q6)
          | (go_at_call 14; refine (LN.out _ (HX.out _ hb)).mono ?_; rintro e w7 ⟨rfl, hb7⟩; have hb := hb.trans (hb7.mono hb.size)))
      have HB7 := Lib.hid hb
      have HBZ := Lib.hid (hB.out.trans ((HX.out _ hb).mono hB.out.size))
      clear AL LN SZ HRD HC HO2 HO5 k1 hb
      go_wp2
      go_loopw [17] (fun s17 wr => ∃ j q : Nat, s17 = .int .i64 j ∧ j ≤ N ∧ wr = w7.drewN q) (fun s17 _ => N - (intOf s17).toNat)
      case atStart => exact ⟨0, 0, rfl, Nat.zero_le _, rfl⟩
      case round =>
        obtain ⟨j, q, rfl, hj, rfl⟩ := hrel
        by_cases hlt : j < N
        · obtain ⟨bS, oS, rfl, _, h1⟩ := (HRS.out _ HB7.out).plain (by omega)
          have q1 := h1 j hlt
          rw [sizes_get N hlt] at q1
          have j1 : (j : Int) < (N : Int) := by omega
          have e9 : sizeI (j : Int) = (sizeC j : Nat) := by unfold sizeI; rw [if_neg (by omega), Int.toNat_natCast]
          have S1 := Lib.hid (fun w5 => rcsize_any (j : Int) w5 (by omega) (by omega))
          have S2 := Lib.hid (fun w5 => csize_any (j : Int) w5 (by omega) (by omega))
          rw [e9] at S1 S2
          clear h1 e9
          go_wp2
          go_quiet ((first
            | (refine (S1.out _).mono ?_; rintro e w1 ⟨rfl, rfl⟩; exact ⟨rfl, _, rfl⟩)
            | (refine (S2.out _).mono ?_; rintro e w1 ⟨rfl, rfl⟩; exact ⟨rfl, _, rfl⟩)))
          go_wp2
          go_roundw
          case rel => exact ⟨j + 1, _, by go_num, by omega, by first | rfl | exact World.drewN_drewN _ _ _⟩
          case measure => simp [intOf]; omega
        · have j1 : ¬ (j : Int) < (N : Int) := by omega
          go_wp2
          go_roundw
          case rel => exact ⟨t + 1, by go_num, by omega, Lib.hid (below_drewn HBZ.out q)⟩
          case measure => simp [intOf]; omega
    · have i1 : ¬ (t : Int) < 2 := by omega
      go_wp2_with (go_at_call 6; refine (AW.out _).mono ?_; rintro e w8 ⟨rfl, hb8⟩)
      exact HQ.out _ _ (hB.out.trans (hb8.mono hB.out.size)) rfl

end Go.Proofs.Ytblpmnipapimcaa
