/-
  LAYER 9: THE DOCUMENT'S Decode, where it has bytes
-/
import Derived.Test.YtbgdaiecmpjcbaaObjDecR2
set_option linter.unusedVariables false
set_option linter.unusedSimpArgs false
set_option maxRecDepth 100000
namespace Go.Proofs.Ytbgdaiecmpjcbaa
open Go.RowKit

set_option maxHeartbeats 2000000 in
theorem rodec_raw {B : Nat} (A : Option Addr) (n c j k s : Nat) (zs : List Int) (w : World) (hr : Reads w B 1 A n (cellsOf .u8 zs)) (hB : B ≤ w.heap.size) (hz : AreB zs) (hl : n ≤ c) (hcap : c ≤ 9223372036854775807) (hn : n ≤ 140737488355328)
    (h : DecAt zs j k s) (hk1 : 1 ≤ k ∧ k ≤ 2) (hs : frontN k ≤ s) :
    Calls Try.prog 22 #[.slice A n c, .int .i64 j] w (RDec zs j k s w) := by
  obtain ⟨i0, hi, hz0, hz1, hz2⟩ := info_parts byteInfo
  obtain ⟨i8, hi8, hz80, hz81, hz82⟩ := info_parts wordInfo
  have hlen := hr.len
  have hb := h.al
  have hroom := h.room
  have hfit := h.fit
  have hk4 := h.kk
  rw [hlen] at hroom hfit
  have hb0 : Below w.heap.size w (w.alloc (.cells #[.int .i64 0, .slice none 0 0, .slice none 0 0, .slice none 0 0] 25)) := (Below.refl _ _).alloc (Nat.le_refl _) _
  have hb1 : Below w.heap.size w ((w.alloc (.cells #[.int .i64 0, .slice none 0 0, .slice none 0 0, .slice none 0 0] 25)).alloc (.cells #[.int .i64 k, .slice none 0 0, .slice none 0 0, .slice none 0 0] 25)) := hb0.alloc hb0.size _
  have RD := Lib.hid (fun wx (hx : Below w.heap.size w wx) => (hr.keep fun p hp => hx.cell (by omega) : Reads wx B 1 A n (cellsOf .u8 zs)))
  have G1 := Lib.hid (rget8 A n c j j zs _ (RD.out _ hb0) hz hl hcap rfl (by omega))
  have G2 := Lib.hid (rget8 A n c (j + 8) ((j : Int) + 8) zs _ (RD.out _ hb0) hz hl hcap (by omega) (by omega))
  rw [h.kd] at G1
  rw [h.sd] at G2
  have HW := Lib.hid (rwordsk_any (k : Int))
  have hfk : frontN k = 16 + 8 * kwN k := rfl
  have hM5 := kwN_le (k : Int)
  obtain ⟨x, hx⟩ : ∃ x, encR k (dW (objB zs j s) k) (dR (objB zs j s) k) (dI (objB zs j s) k) = x := ⟨_, rfl⟩
  have HC := Lib.hid (dec_cases hz hlen h hn hs x hx)
  have HOB := Lib.hid (objB_bytes hz j s)
  have HOL := Lib.hid (objB_length h.fit)
  have HX := Lib.hid hx
  have HZB := Lib.hid hz
  have hii : hasI k = false := by obtain ⟨h1, h2⟩ := hk1; rcases (show k = 1 ∨ k = 2 by omega) with rfl | rfl <;> rfl
  obtain ⟨M, hM⟩ : ∃ M, kwN k = M := ⟨_, rfl⟩
  obtain ⟨F, hF⟩ : ∃ F, frontN k = F := ⟨_, rfl⟩
  rw [hM] at hM5 HW
  rw [hF] at hs
  have hF2 : F = 16 + 8 * M := by rw [← hF, ← hM]; exact hfk
  have HF2 := Lib.hid hF2
  -- what is read at each word
  have GW := Lib.hid (fun wx (hx : Below w.heap.size w wx) (t : Nat) (v : Int) (ht : 16 + 8 * t + 8 ≤ s) (hv : v = (j + 16 + 8 * t : Nat)) => rget8 A n c (j + 16 + 8 * t) v zs wx (RD.out wx hx) hz hl hcap hv (by omega))
  have GE : Hid (∀ t, 16 + 8 * t + 8 ≤ s → lev ((zs.drop (j + 16 + 8 * t)).take 8) = lev (((objB zs j s).drop (16 + 8 * t)).take 8)) := fun t ht => by
    unfold objB
    rw [List.drop_take, List.take_take, List.drop_drop, Nat.min_eq_left (by omega), Nat.add_assoc]
  have HDW : Hid (dW (objB zs j s) k = wrds M ((objB zs j s).drop 16)) := by show _ = _; unfold dW; rw [hM]
  have HDR : Hid (dR (objB zs j s) k = (objB zs j s).drop F) := by show _ = _; unfold dR; rw [hii]; rw [if_neg (by decide), hF]
  have HDI : Hid (dI (objB zs j s) k = []) := by show _ = _; unfold dI; rw [hii]; rfl
  have hwn : IntKind.u64.wrap ((n : Int) - j) = (n : Int) - j := by rw [IntKind.wrap_u64]; omega
  have t1 : ((j : Int) % 8 == 0) = true := by simp; omega
  have t2 : (j : Int) % 8 = 0 := by omega
  have t3 : ¬ (k : Int) < 1 := by omega
  have t4 : ¬ (4 : Int) < k := by omega
  have t5 : ¬ (n : Int) - j < s := by omega
  have t6 : ¬ (s : Int) < 16 + 8 * (M : Int) := by omega
  have hcj : ¬ c = j := by omega
  obtain ⟨A3, hA3⟩ : ∃ A3, A.map (·.add j) = A3 := ⟨_, rfl⟩
  have RS := Lib.hid (fun wx (hx : Below w.heap.size w wx) (N : Nat) (hN : j + N ≤ n) => (RD.out wx hx).sub (lo := j) (hi := j + N) (cap := c) (by omega) (by omega) hl)
  rw [if_neg hcj, hA3] at RS
  have hne1 : (48 : TypeId) ≠ 25 := by decide
  have hne2 : (5 : TypeId) ≠ 25 := by decide
  have B0 : Blk ((w.alloc (.cells #[.int .i64 0, .slice none 0 0, .slice none 0 0, .slice none 0 0] 25)).alloc (.cells #[.int .i64 k, .slice none 0 0, .slice none 0 0, .slice none 0 0] 25)) (w.heap.size + 1) 25 #[.int .i64 k, .slice none 0 0, .slice none 0 0, .slice none 0 0] := by
    have h := Blk.new (w.alloc (.cells #[.int .i64 0, .slice none 0 0, .slice none 0 0, .slice none 0 0] 25)) 25 #[.int .i64 k, .slice none 0 0, .slice none 0 0, .slice none 0 0]
    simpa using h
  have B1 : Blk ((w.alloc (.cells #[.int .i64 0, .slice none 0 0, .slice none 0 0, .slice none 0 0] 25)).alloc (.cells #[.int .i64 k, .slice none 0 0, .slice none 0 0, .slice none 0 0] 25)) w.heap.size 25 #[.int .i64 0, .slice none 0 0, .slice none 0 0, .slice none 0 0] := (Blk.new w _ _).alloc _
  clear hr h hlen hb hz hF hF2 hM hfk hx hii hb0
  generalize hbs : objB zs j s = bs at *
  have HBS := Lib.hid hbs
  clear hbs
  generalize hdb : decB zs j k s = db at HC
  have HDB := Lib.hid hdb
  clear hdb
  go_enter Try.func22, Try.ntmps22
  have m1 : True := trivial
  go_wp2_with (first
    | (go_at_call 40; clear m1; refine G1.out.mono ?_; rintro e w1 ⟨rfl, rfl⟩)
    | (go_at_call 40; refine G2.out.mono ?_; rintro e w1 ⟨rfl, rfl⟩)
    | (go_at_call 16; refine (HW.out _).mono ?_; rintro e w1 ⟨rfl, rfl⟩))
  go_loopw [13, 14, 15] (fun i _ _ wr => ∃ (t : Nat) (v : Value), t ≤ M ∧ i = .int .i64 t ∧ Below w.heap.size w wr ∧ Blk wr (w.heap.size + 1) 25 #[.int .i64 k, v, .slice none 0 0, .slice none 0 0] ∧ Blk wr w.heap.size 25 #[.int .i64 0, .slice none 0 0, .slice none 0 0, .slice none 0 0] ∧ wr.ownsRow w.heap.size 48 1 v t (cellsOf .u64 (wrds t (bs.drop 16)))) (fun i _ _ _ => M - (intOf i).toNat)
  case atStart => exact ⟨0, _, Nat.zero_le _, rfl, hb1, B0, B1, World.ownsRow_nil _ _ _ _⟩
  case round =>
    clear B0 B1 hb1
    obtain ⟨t, v, ht, rfl, hbel, hX, hR, ho⟩ := hrel
    by_cases hlt : t < M
    · have x1 := hX.cell 1
      have xf := hX.frozen 1
      obtain ⟨A1, c1, rfl, _, _⟩ := own_form ho
      have s3 : t + 1 ≤ maxLen := by unfold maxLen; omega
      have s4 : w.heap.size ≤ (wr.alloc (.cells #[Value.int IntKind.u64 (lev ((bs.drop (16 + 8 * t)).take 8))] 48)).heap.size := by have := hbel.size; simp; omega
      have ha : Below wr.heap.size wr (wr.alloc (.cells #[Value.int IntKind.u64 (lev ((bs.drop (16 + 8 * t)).take 8))] 48)) := (Below.refl _ _).alloc (Nat.le_refl _) _
      have hoa := own_below ho ha
      go_wp2_with (first
        | (go_at_call 40; refine (GW.out wr hbel t _ (by have h := HF2.out; omega) (by omega)).mono ?_; rintro e w1 ⟨rfl, rfl⟩; rw [GE.out t (by have h := HF2.out; omega)])
        | (at_builtin; refine wpList_append_any _ rfl _ _ _ rfl w.heap.size 48 i8 (.int .u64 0) 1 8 Try.underlying22 hi8 hz80 hz81 hz82 rfl (Nat.lt_succ_self 0) (.slice A1 t c1) t (cellsOf .u64 (wrds t (bs.drop 16))) rfl hoa (wr.heap.size + 1) _ 1 1 (cellsOf .u64 [lev ((bs.drop (16 + 8 * t)).take 8)]) rfl (Reads.new1 _ _ _) (one_oneCell _ _) s3 (by omega) s4 ?_; intro v3 w3 ho3 hg3 hat3; obtain ⟨A5, c5, rfl, -, -⟩ := own_form ho3; obtain ⟨y1, y2, y3, y4, y5, y6⟩ := fld_app (i := 1) hbel hX hR (by omega) (by omega) ha ho hg3 ho3 hne1; have F1 := Lib.hid y1; have F2 := Lib.hid y2; have F3 := Lib.hid y3; have F4 := Lib.hid y4; have xx : w3.frozen? ⟨w.heap.size + 1, 1, none⟩ = false := (by have c13 := hX.chg ((Chg.of_below ha (Nat.le_refl _) (fun b => Value.ownBlock (.slice A1 t c1) = some b)).trans (Chg.of_grown hg3) (fun _ _ e => e)) y6; exact c13.frozen 1); have xc : w3.cell? ⟨w.heap.size + 1, 1, none⟩ = some (.slice A1 t c1) := (by have c13 := hX.chg ((Chg.of_below ha (Nat.le_refl _) (fun b => Value.ownBlock (.slice A1 t c1) = some b)).trans (Chg.of_grown hg3) (fun _ _ e => e)) y6; rw [c13.cell 1]; rfl); clear y1 y2 y3 y4 y5 y6 ho3 hg3 hat3 hX hR ho hoa ha))
      go_roundw
      case rel =>
        refine ⟨t + 1, _, by omega, by go_num, F1.out, by simpa using F2.out, F3.out, ?_⟩
        have h := F4.out
        rw [← cellsOf_append, ← List.drop_drop, ← wrds_snoc] at h
        exact h
      case measure => simp [intOf]; omega
    · have e : t = M := by omega
      subst e
      rw [← HDW.out] at ho
      obtain ⟨A1, c1, rfl, hc1, hc2⟩ := own_form ho
      have u1 : (k : Int) < 3 := by omega
      have u2 : ¬ (2 : Int) < k := by omega
      obtain ⟨Fr, hFr⟩ : ∃ Fr : Nat, (j : Int) + 16 + 8 * (t : Int) = (Fr : Int) := ⟨j + 16 + 8 * t, by omega⟩
      obtain ⟨En, hEn⟩ : ∃ En : Nat, (j : Int) + (s : Int) = (En : Int) := ⟨j + s, by omega⟩
      have hFF : Fr = j + F := by have h := HF2.out; omega
      have v1 : (Fr : Int) ≤ (En : Int) := by omega
      have v2 : (En : Int) ≤ (c : Int) := by omega
      have hrr := (RD.out wr hbel).sub (lo := Fr) (hi := En) (cap := c) (by omega) (by omega) hl
      have HRAW : Hid ((zs.drop Fr).take (En - Fr) = dR bs k) := by
        show _ = _
        rw [HDR.out, ← HBS.out, hFF]
        unfold objB
        rw [List.drop_take, List.drop_drop]
        congr 1
        omega
      rw [HRAW.out] at hrr
      have x2 := hX.cell 2
      have xf2 := hX.frozen 2
      have s2 : 0 + (En - Fr) ≤ maxLen := by unfold maxLen; omega
      have s3 : (0 + (En - Fr)) * 1 ≤ 140737488355328 := by omega
      have hb0d : Below wr.heap.size wr wr.drew := below_drewn (Below.refl _ _) 1
      have hrd := hrr.drew
      obtain ⟨A0, hA0⟩ : ∃ A0, (if c = Fr then A else A.map (·.add Fr)) = A0 := ⟨_, rfl⟩
      rw [hA0] at hrd
      have APP := Lib.hid (fun (v3 : Value) (w3 : World) (ho3 : w3.ownsRow w.heap.size 5 1 v3 (En - Fr) (cellsOf .u8 (dR bs k))) (hg3 : wr.drew.grownBy w3 (Value.ownBlock (.slice none 0 0))) => fld_app (i := 2) hbel hX hR (by omega) (by omega) hb0d (World.ownsRow_nil wr w.heap.size 5 1) hg3 ho3 hne2)
      have HX3 := Lib.hid (fun (w3 : World) (hg3 : wr.drew.grownBy w3 (Value.ownBlock (.slice none 0 0))) => hX.chg ((Chg.of_below hb0d (Nat.le_refl _) (fun b => Value.ownBlock (.slice none 0 0) = some b)).trans (Chg.of_grown hg3) (fun _ _ e => e)) (by simp [Value.ownBlock]))
      have HOW := Lib.hid ho
      have hs7 : w.heap.size ≤ wr.drew.heap.size := hbel.size
      have hEF0 : c = Fr → En = Fr := fun h => by omega
      have HFF := Lib.hid hFF
      clear hFF
      have HS2 := Lib.hid x2
      have HOX := Lib.hid (own_blk_ne ho hX hne1)
      clear hrr hbel hX hR ho hb0d
      by_cases hcf : c = Fr
      · rw [if_pos hcf] at hA0
        subst hA0
        have hEF : En = Fr := hEF0 hcf
        clear hEF0
        subst hEF
        subst hcf
        rw [Nat.sub_self] at hrd s2 s3 APP
        go_wp2
        refine wp_region_any (by kernel_rfl) ?_
        try (change wpAny _ _ _ _ _ _ _ (World.drew _))
        refine take_yes (i := 0) (v := ?_) rfl (by kernel_rfl) (by kernel_rfl) (by kernel_rfl) (fun _ _ _ h => h) (by kernel_rfl) ?_ ?_
        rotate_left
        · intro wz; go_simp; try with_reducible rfl
        simp only [Act.put, List.setIfInBounds_toArray, List.set_cons_zero, List.set_cons_succ]
        refine take_yes (i := 2) (v := ?_) rfl (by kernel_rfl) (by kernel_rfl) (by kernel_rfl) (fun _ _ _ h => h) (by kernel_rfl) ?_ ?_
        rotate_left
        · intro wz; go_simp; try with_reducible rfl
        simp only [Act.put, List.setIfInBounds_toArray, List.set_cons_zero, List.set_cons_succ]
        refine take_yes (i := 3) (v := ?_) rfl (by kernel_rfl) (by kernel_rfl) (by kernel_rfl) (fun _ _ _ h => h) (by kernel_rfl) ?_ ?_
        rotate_left
        · intro wz; go_simp; try with_reducible rfl
        simp only [Act.put, List.setIfInBounds_toArray, List.set_cons_zero, List.set_cons_succ]
        refine take_yes (i := 4) (v := ?_) rfl (by kernel_rfl) (by kernel_rfl) (by kernel_rfl) (fun _ _ _ h => h) (by kernel_rfl) ?_ ?_
        rotate_left
        · intro wz; go_simp; try with_reducible rfl
        simp only [Act.put, List.setIfInBounds_toArray, List.set_cons_zero, List.set_cons_succ]
        refine take_yes (i := 5) (v := ?_) rfl (by kernel_rfl) (by kernel_rfl) (by kernel_rfl) (fun _ _ _ h => h) (by kernel_rfl) ?_ ?_
        rotate_left
        · intro wz; go_simp; try with_reducible rfl
        simp only [Act.put, List.setIfInBounds_toArray, List.set_cons_zero, List.set_cons_succ]
        refine wpAny_ready (rs := [1]) (by kernel_rfl) (by simp) (AllReady.cons rfl (fun K hK => ?_) AllReady.nil)
        go_simp
        refine hK _ _ ?_
        clear hK K
        try simp only [Act.put, List.setIfInBounds_toArray, List.set_cons_zero, List.set_cons_succ]
        refine wpAny_ready (rs := [6]) (by kernel_rfl) (by simp) (AllReady.cons rfl (fun K hK => ?_) AllReady.nil)
        refine step_append_any _ rfl _ _ _ rfl w.heap.size 5 i0 (.int .u8 0) 1 1 Try.underlying23 hi hz0 hz1 hz2 rfl (Nat.lt_succ_self 0) (.slice none 0 0) 0 [] rfl (World.ownsRow_nil _ _ _ _) B A (0) _ (cellsOf .u8 (dR bs k)) rfl hrd (cellsOf_one _ _) s2 s3 hs7 ?_
        intro v3 w3 ho3 hg3 hat3
        refine hK _ _ ?_
        clear hK K
        try simp only [Act.put, List.setIfInBounds_toArray, List.set_cons_zero, List.set_cons_succ]
        rw [Nat.zero_add, List.nil_append] at ho3
        obtain ⟨A2, c2, rfl, -, -⟩ := own_form ho3
        have xa := (HX3.out w3 hg3).cell 2
        have xb := (HX3.out w3 hg3).frozen 2
        have AP := Lib.hid (APP.out _ _ ho3 hg3)
        clear hat3 ho3 hg3
        refine take_yes (i := 7) (v := ?_) rfl (by kernel_rfl) (by kernel_rfl) (by kernel_rfl) (fun _ _ _ h => h) (by kernel_rfl) ?_ ?_
        rotate_left
        · intro wz; go_simp; try with_reducible rfl
        simp only [Act.put, List.setIfInBounds_toArray, List.set_cons_zero, List.set_cons_succ]
        refine wpAny_ready (rs := [8]) (by kernel_rfl) (by simp) (AllReady.cons rfl (fun K hK => ?_) AllReady.nil)
        go_simp
        refine hK _ _ ?_
        clear hK K
        refine wpAny_done (by kernel_rfl) ?_ _
        obtain ⟨y1, y2, y3, y4, y5, -⟩ := AP.out
        have ho := own_chg HOW.out y5 (fun g' e1 e2 => by
          rcases e2 with e2 | e2
          · subst e2; exact HOX.out e1
          · cases e2)
        simp only [List.setIfInBounds_toArray, List.set_cons_succ, List.set_cons_zero] at y2
        have hX := y2
        have hR := y3
        have hbel := y1
        have ho2 := y4
        clear y1 y2 y3 y4 y5 AP APP HX3 xa xb x2 xf2 HS2 HOX HOW hrd
        generalize (w3.setCell ⟨w.heap.size + 1, 2, none⟩ _) = wE at *
        go_wp2
        go_loopw [16, 18, 19] (fun fr _ _ wr2 => fr = .int .i64 c ∧ wE = wr2) (fun _ _ _ _ => 0)
        case atStart => exact ⟨rfl, rfl⟩
        case round =>
          obtain ⟨rfl, hwE⟩ := hrel
          subst hwE
          have ho4 := World.ownsRow_nil wE w.heap.size 48 1
          rw [show ([] : List Value) = cellsOf .u64 (dI bs k) by rw [HDI.out]; rfl] at ho4
          have HEN := Lib.hid (HX.out ▸ roenc_any (k : Int) A1 t c1 (dW bs k) A2 0 c2 (dR bs k) none 0 0 (dI bs k) wE ⟨Reads.of_own ho, Reads.of_own ho2, Reads.of_own ho4, own_caps ho, own_caps ho2, own_caps ho4⟩ (Nat.le_refl _) (dW_bd HOB.out k) (dI_bd HOB.out k))
          have HxB : Hid (AreB x) := HX.out ▸ encR_bytes (dR_bytes HOB.out)
          have x0 := hX.cell 0
          have x1 := hX.cell 1
          have x2 := hX.cell 2
          have x3 := hX.cell 3
          have HBE := Lib.hid hbel
          have HXE := Lib.hid hX
          have HRE := Lib.hid hR
          have HO1 := Lib.hid ho
          have HO2 := Lib.hid ho2
          have HO4 := Lib.hid ho4
          obtain ⟨N, hN⟩ : ∃ N, N = x.length := ⟨_, rfl⟩
          have HN := Lib.hid hN
          rw [← hN] at HC
          clear hN hbel hX hR ho ho2 ho4
          go_upto_region 22 with (go_at_call 11; refine HEN.out.mono ?_; rintro e w9 ⟨A9, N9, c9, rfl, hN9, ho9, hb9, hnc9, hcc9⟩; rw [← HN.out] at hN9; replace hN9 := hN9.symm; subst hN9; have HB9 := Lib.hid (HBE.out.trans (hb9.mono HBE.out.size)); have HR9 := Lib.hid (Reads.of_own ho9); have HRR := HRE.out.below hb9 (by have := HBE.out.size; have := HRE.out.lt; omega); have HXX := HXE.out.below hb9 HXE.out.lt; have HBQ := Lib.hid hb9; clear ho9 hb9)
          have z0 := HXX.cell 0
          have z1 := HXX.cell 1
          have z2 := HXX.cell 2
          have z3 := HXX.cell 3
          have q0 := HRR.cell 0
          have q1 := HRR.cell 1
          have q2 := HRR.cell 2
          have q3 := HRR.cell 3
          have qf0 := HRR.frozen 0
          have qf1 := HRR.frozen 1
          have qf2 := HRR.frozen 2
          have qf3 := HRR.frozen 3
          have HRB := Lib.hid HRR
          clear HRR HXX
          rcases HC.out with ⟨hdt, f0, fN, f1, fx⟩ | ⟨hdt, f0 | ⟨f0, f1⟩ | ⟨f0, f1, fx⟩⟩
          · have g1 : ((N : Int) == 0) = false := by simp; omega
            have g2 : ¬ (N : Int) = 0 := by omega
            have g3 : ¬ (n : Int) - j < N := by omega
            have g4 : (j : Int) ≤ (j : Int) + N := by omega
            have g5 : (j : Int) + N ≤ c := by omega
            have HFN := Lib.hid fN
            have hsb := RS.out w9 HB9.out N f1
            rw [Nat.add_sub_cancel_left] at hsb
            have HSUB := Lib.hid hsb
            clear hsb
            have HFX := Lib.hid fx
            have HDT := Lib.hid hdt
            clear f0 fN f1 fx hdt
            go_wp2_with (go_at_call 12; refine (same_any A9 A3 N N c9 _ x ((zs.drop j).take N) _ HR9.out HSUB.out HxB.out ((HZB.out.drop j).take _)).mono ?_; rintro e w10 ⟨rfl, rfl⟩; rw [decide_eq_true HFX.out])
            obtain ⟨p1, p2⟩ := put4 (a0 := .int .i64 k) (a1 := .slice A1 t c1) (a2 := .slice A2 0 c2) (a3 := .slice none 0 0) HRB.out
            refine bodyPost_ret (results_cell3 rfl _ _ w.heap.size 25 _ (0, 0) _ rfl p1 Try.underlying25 rfl (by kernel_rfl)) rfl ?_
            have hs9 := HB9.out.size
            refine ⟨HB9.out.trans (p2.below hs9 (fun b _ e => by omega)), .inl ⟨HDB.out.trans HDT.out, A1, t, c1, A2, 0, c2, none, 0, 0, by rw [HFN.out]; rfl, ?_⟩⟩
            have r1 := own_below HO1.out HBQ.out
            have r2 := own_below HO2.out HBQ.out
            have r4 := own_below HO4.out HBQ.out
            have o1 := own_chg r1 p2 (fun g e1 e2 => by subst e2; exact own_blk_ne r1 HRB.out hne1 e1)
            have o2 := own_chg r2 p2 (fun g e1 e2 => by subst e2; exact own_blk_ne r2 HRB.out hne2 e1)
            have o4 := own_chg r4 p2 (fun g e1 e2 => by subst e2; exact own_blk_ne r4 HRB.out hne1 e1)
            rw [HBS.out]
            exact ⟨Reads.of_own o1, Reads.of_own o2, Reads.of_own o4, own_caps o1, own_caps o2, own_caps o4⟩
          · have g1 : ((N : Int) == 0) = true := by simp; omega
            have HDT := Lib.hid hdt
            subst f0
            clear hdt
            go_wp2
            obtain ⟨p1, p2⟩ := put4 (a0 := .int .i64 0) (a1 := .slice none 0 0) (a2 := .slice none 0 0) (a3 := .slice none 0 0) HRB.out
            refine bodyPost_ret (results_cell3 rfl _ _ w.heap.size 25 _ (0, 0) _ rfl p1 Try.underlying25 rfl (by kernel_rfl)) rfl ?_
            have hs9 := HB9.out.size
            exact ⟨HB9.out.trans (p2.below hs9 (fun b _ e => by omega)), .inr ⟨HDB.out.trans HDT.out, rfl⟩⟩
          · have g1 : ((N : Int) == 0) = false := by simp; omega
            have g2 : ¬ (N : Int) = 0 := by omega
            have g3 : (n : Int) - j < N := by omega
            have HDT := Lib.hid hdt
            clear hdt f0 f1
            go_wp2
            obtain ⟨p1, p2⟩ := put4 (a0 := .int .i64 0) (a1 := .slice none 0 0) (a2 := .slice none 0 0) (a3 := .slice none 0 0) HRB.out
            refine bodyPost_ret (results_cell3 rfl _ _ w.heap.size 25 _ (0, 0) _ rfl p1 Try.underlying25 rfl (by kernel_rfl)) rfl ?_
            have hs9 := HB9.out.size
            exact ⟨HB9.out.trans (p2.below hs9 (fun b _ e => by omega)), .inr ⟨HDB.out.trans HDT.out, rfl⟩⟩
          · have g1 : ((N : Int) == 0) = false := by simp; omega
            have g2 : ¬ (N : Int) = 0 := by omega
            have g3 : ¬ (n : Int) - j < N := by omega
            have g4 : (j : Int) ≤ (j : Int) + N := by omega
            have g5 : (j : Int) + N ≤ c := by omega
            have hsb := RS.out w9 HB9.out N f1
            rw [Nat.add_sub_cancel_left] at hsb
            have HSUB := Lib.hid hsb
            clear hsb
            have HFX := Lib.hid fx
            have HDT := Lib.hid hdt
            clear f0 f1 fx hdt
            go_wp2_with (go_at_call 12; refine (same_any A9 A3 N N c9 _ x ((zs.drop j).take N) _ HR9.out HSUB.out HxB.out ((HZB.out.drop j).take _)).mono ?_; rintro e w10 ⟨rfl, rfl⟩; rw [decide_eq_false HFX.out])
            obtain ⟨p1, p2⟩ := put4 (a0 := .int .i64 0) (a1 := .slice none 0 0) (a2 := .slice none 0 0) (a3 := .slice none 0 0) HRB.out
            refine bodyPost_ret (results_cell3 rfl _ _ w.heap.size 25 _ (0, 0) _ rfl p1 Try.underlying25 rfl (by kernel_rfl)) rfl ?_
            have hs9 := HB9.out.size
            exact ⟨HB9.out.trans (p2.below hs9 (fun b _ e => by omega)), .inr ⟨HDB.out.trans HDT.out, rfl⟩⟩
      · rw [if_neg hcf] at hA0
        clear hEF0
        go_wp2
        refine wp_region_any (by kernel_rfl) ?_
        try (change wpAny _ _ _ _ _ _ _ (World.drew _))
        refine take_yes (i := 0) (v := ?_) rfl (by kernel_rfl) (by kernel_rfl) (by kernel_rfl) (fun _ _ _ h => h) (by kernel_rfl) ?_ ?_
        rotate_left
        · intro wz; go_simp; try with_reducible rfl
        simp only [Act.put, List.setIfInBounds_toArray, List.set_cons_zero, List.set_cons_succ]
        refine take_yes (i := 2) (v := ?_) rfl (by kernel_rfl) (by kernel_rfl) (by kernel_rfl) (fun _ _ _ h => h) (by kernel_rfl) ?_ ?_
        rotate_left
        · intro wz; go_simp; try with_reducible rfl
        simp only [Act.put, List.setIfInBounds_toArray, List.set_cons_zero, List.set_cons_succ]
        refine take_yes (i := 3) (v := ?_) rfl (by kernel_rfl) (by kernel_rfl) (by kernel_rfl) (fun _ _ _ h => h) (by kernel_rfl) ?_ ?_
        rotate_left
        · intro wz; go_simp; try with_reducible rfl
        simp only [Act.put, List.setIfInBounds_toArray, List.set_cons_zero, List.set_cons_succ]
        refine take_yes (i := 4) (v := ?_) rfl (by kernel_rfl) (by kernel_rfl) (by kernel_rfl) (fun _ _ _ h => h) (by kernel_rfl) ?_ ?_
        rotate_left
        · intro wz; go_simp; try with_reducible rfl
        simp only [Act.put, List.setIfInBounds_toArray, List.set_cons_zero, List.set_cons_succ]
        refine take_yes (i := 5) (v := ?_) rfl (by kernel_rfl) (by kernel_rfl) (by kernel_rfl) (fun _ _ _ h => h) (by kernel_rfl) ?_ ?_
        rotate_left
        · intro wz; go_simp; try with_reducible rfl
        simp only [Act.put, List.setIfInBounds_toArray, List.set_cons_zero, List.set_cons_succ]
        refine wpAny_ready (rs := [1]) (by kernel_rfl) (by simp) (AllReady.cons rfl (fun K hK => ?_) AllReady.nil)
        go_simp
        refine hK _ _ ?_
        clear hK K
        try simp only [Act.put, List.setIfInBounds_toArray, List.set_cons_zero, List.set_cons_succ]
        refine wpAny_ready (rs := [6]) (by kernel_rfl) (by simp) (AllReady.cons rfl (fun K hK => ?_) AllReady.nil)
        refine step_append_any _ rfl _ _ _ rfl w.heap.size 5 i0 (.int .u8 0) 1 1 Try.underlying23 hi hz0 hz1 hz2 rfl (Nat.lt_succ_self 0) (.slice none 0 0) 0 [] rfl (World.ownsRow_nil _ _ _ _) B A0 (En - Fr) _ (cellsOf .u8 (dR bs k)) rfl hrd (cellsOf_one _ _) s2 s3 hs7 ?_
        intro v3 w3 ho3 hg3 hat3
        refine hK _ _ ?_
        clear hK K
        try simp only [Act.put, List.setIfInBounds_toArray, List.set_cons_zero, List.set_cons_succ]
        rw [Nat.zero_add, List.nil_append] at ho3
        obtain ⟨A2, c2, rfl, -, -⟩ := own_form ho3
        have xa := (HX3.out w3 hg3).cell 2
        have xb := (HX3.out w3 hg3).frozen 2
        have AP := Lib.hid (APP.out _ _ ho3 hg3)
        clear hat3 ho3 hg3
        refine take_yes (i := 7) (v := ?_) rfl (by kernel_rfl) (by kernel_rfl) (by kernel_rfl) (fun _ _ _ h => h) (by kernel_rfl) ?_ ?_
        rotate_left
        · intro wz; go_simp; try with_reducible rfl
        simp only [Act.put, List.setIfInBounds_toArray, List.set_cons_zero, List.set_cons_succ]
        refine wpAny_ready (rs := [8]) (by kernel_rfl) (by simp) (AllReady.cons rfl (fun K hK => ?_) AllReady.nil)
        go_simp
        refine hK _ _ ?_
        clear hK K
        refine wpAny_done (by kernel_rfl) ?_ _
        obtain ⟨y1, y2, y3, y4, y5, -⟩ := AP.out
        have ho := own_chg HOW.out y5 (fun g' e1 e2 => by
          rcases e2 with e2 | e2
          · subst e2; exact HOX.out e1
          · cases e2)
        simp only [List.setIfInBounds_toArray, List.set_cons_succ, List.set_cons_zero] at y2
        have hX := y2
        have hR := y3
        have hbel := y1
        have ho2 := y4
        clear y1 y2 y3 y4 y5 AP APP HX3 xa xb x2 xf2 HS2 HOX HOW hrd
        generalize (w3.setCell ⟨w.heap.size + 1, 2, none⟩ _) = wE at *
        go_wp2
        go_loopw [16, 18, 19] (fun fr _ _ wr2 => fr = .int .i64 Fr ∧ wE = wr2) (fun _ _ _ _ => 0)
        case atStart => exact ⟨rfl, rfl⟩
        case round =>
          obtain ⟨rfl, hwE⟩ := hrel
          subst hwE
          have ho4 := World.ownsRow_nil wE w.heap.size 48 1
          rw [show ([] : List Value) = cellsOf .u64 (dI bs k) by rw [HDI.out]; rfl] at ho4
          have HEN := Lib.hid (HX.out ▸ roenc_any (k : Int) A1 t c1 (dW bs k) A2 (En - Fr) c2 (dR bs k) none 0 0 (dI bs k) wE ⟨Reads.of_own ho, Reads.of_own ho2, Reads.of_own ho4, own_caps ho, own_caps ho2, own_caps ho4⟩ (Nat.le_refl _) (dW_bd HOB.out k) (dI_bd HOB.out k))
          have HxB : Hid (AreB x) := HX.out ▸ encR_bytes (dR_bytes HOB.out)
          have x0 := hX.cell 0
          have x1 := hX.cell 1
          have x2 := hX.cell 2
          have x3 := hX.cell 3
          have HBE := Lib.hid hbel
          have HXE := Lib.hid hX
          have HRE := Lib.hid hR
          have HO1 := Lib.hid ho
          have HO2 := Lib.hid ho2
          have HO4 := Lib.hid ho4
          obtain ⟨N, hN⟩ : ∃ N, N = x.length := ⟨_, rfl⟩
          have HN := Lib.hid hN
          rw [← hN] at HC
          clear hN hbel hX hR ho ho2 ho4
          go_upto_region 22 with (go_at_call 11; refine HEN.out.mono ?_; rintro e w9 ⟨A9, N9, c9, rfl, hN9, ho9, hb9, hnc9, hcc9⟩; rw [← HN.out] at hN9; replace hN9 := hN9.symm; subst hN9; have HB9 := Lib.hid (HBE.out.trans (hb9.mono HBE.out.size)); have HR9 := Lib.hid (Reads.of_own ho9); have HRR := HRE.out.below hb9 (by have := HBE.out.size; have := HRE.out.lt; omega); have HXX := HXE.out.below hb9 HXE.out.lt; have HBQ := Lib.hid hb9; clear ho9 hb9)
          have z0 := HXX.cell 0
          have z1 := HXX.cell 1
          have z2 := HXX.cell 2
          have z3 := HXX.cell 3
          have q0 := HRR.cell 0
          have q1 := HRR.cell 1
          have q2 := HRR.cell 2
          have q3 := HRR.cell 3
          have qf0 := HRR.frozen 0
          have qf1 := HRR.frozen 1
          have qf2 := HRR.frozen 2
          have qf3 := HRR.frozen 3
          have HRB := Lib.hid HRR
          clear HRR HXX
          rcases HC.out with ⟨hdt, f0, fN, f1, fx⟩ | ⟨hdt, f0 | ⟨f0, f1⟩ | ⟨f0, f1, fx⟩⟩
          · have g1 : ((N : Int) == 0) = false := by simp; omega
            have g2 : ¬ (N : Int) = 0 := by omega
            have g3 : ¬ (n : Int) - j < N := by omega
            have g4 : (j : Int) ≤ (j : Int) + N := by omega
            have g5 : (j : Int) + N ≤ c := by omega
            have HFN := Lib.hid fN
            have hsb := RS.out w9 HB9.out N f1
            rw [Nat.add_sub_cancel_left] at hsb
            have HSUB := Lib.hid hsb
            clear hsb
            have HFX := Lib.hid fx
            have HDT := Lib.hid hdt
            clear f0 fN f1 fx hdt
            go_wp2_with (go_at_call 12; refine (same_any A9 A3 N N c9 _ x ((zs.drop j).take N) _ HR9.out HSUB.out HxB.out ((HZB.out.drop j).take _)).mono ?_; rintro e w10 ⟨rfl, rfl⟩; rw [decide_eq_true HFX.out])
            obtain ⟨p1, p2⟩ := put4 (a0 := .int .i64 k) (a1 := .slice A1 t c1) (a2 := .slice A2 (En - Fr) c2) (a3 := .slice none 0 0) HRB.out
            refine bodyPost_ret (results_cell3 rfl _ _ w.heap.size 25 _ (0, 0) _ rfl p1 Try.underlying25 rfl (by kernel_rfl)) rfl ?_
            have hs9 := HB9.out.size
            refine ⟨HB9.out.trans (p2.below hs9 (fun b _ e => by omega)), .inl ⟨HDB.out.trans HDT.out, A1, t, c1, A2, (En - Fr), c2, none, 0, 0, by rw [HFN.out]; rfl, ?_⟩⟩
            have r1 := own_below HO1.out HBQ.out
            have r2 := own_below HO2.out HBQ.out
            have r4 := own_below HO4.out HBQ.out
            have o1 := own_chg r1 p2 (fun g e1 e2 => by subst e2; exact own_blk_ne r1 HRB.out hne1 e1)
            have o2 := own_chg r2 p2 (fun g e1 e2 => by subst e2; exact own_blk_ne r2 HRB.out hne2 e1)
            have o4 := own_chg r4 p2 (fun g e1 e2 => by subst e2; exact own_blk_ne r4 HRB.out hne1 e1)
            rw [HBS.out]
            exact ⟨Reads.of_own o1, Reads.of_own o2, Reads.of_own o4, own_caps o1, own_caps o2, own_caps o4⟩
          · have g1 : ((N : Int) == 0) = true := by simp; omega
            have HDT := Lib.hid hdt
            subst f0
            clear hdt
            go_wp2
            obtain ⟨p1, p2⟩ := put4 (a0 := .int .i64 0) (a1 := .slice none 0 0) (a2 := .slice none 0 0) (a3 := .slice none 0 0) HRB.out
            refine bodyPost_ret (results_cell3 rfl _ _ w.heap.size 25 _ (0, 0) _ rfl p1 Try.underlying25 rfl (by kernel_rfl)) rfl ?_
            have hs9 := HB9.out.size
            exact ⟨HB9.out.trans (p2.below hs9 (fun b _ e => by omega)), .inr ⟨HDB.out.trans HDT.out, rfl⟩⟩
          · have g1 : ((N : Int) == 0) = false := by simp; omega
            have g2 : ¬ (N : Int) = 0 := by omega
            have g3 : (n : Int) - j < N := by omega
            have HDT := Lib.hid hdt
            clear hdt f0 f1
            go_wp2
            obtain ⟨p1, p2⟩ := put4 (a0 := .int .i64 0) (a1 := .slice none 0 0) (a2 := .slice none 0 0) (a3 := .slice none 0 0) HRB.out
            refine bodyPost_ret (results_cell3 rfl _ _ w.heap.size 25 _ (0, 0) _ rfl p1 Try.underlying25 rfl (by kernel_rfl)) rfl ?_
            have hs9 := HB9.out.size
            exact ⟨HB9.out.trans (p2.below hs9 (fun b _ e => by omega)), .inr ⟨HDB.out.trans HDT.out, rfl⟩⟩
          · have g1 : ((N : Int) == 0) = false := by simp; omega
            have g2 : ¬ (N : Int) = 0 := by omega
            have g3 : ¬ (n : Int) - j < N := by omega
            have g4 : (j : Int) ≤ (j : Int) + N := by omega
            have g5 : (j : Int) + N ≤ c := by omega
            have hsb := RS.out w9 HB9.out N f1
            rw [Nat.add_sub_cancel_left] at hsb
            have HSUB := Lib.hid hsb
            clear hsb
            have HFX := Lib.hid fx
            have HDT := Lib.hid hdt
            clear f0 f1 fx hdt
            go_wp2_with (go_at_call 12; refine (same_any A9 A3 N N c9 _ x ((zs.drop j).take N) _ HR9.out HSUB.out HxB.out ((HZB.out.drop j).take _)).mono ?_; rintro e w10 ⟨rfl, rfl⟩; rw [decide_eq_false HFX.out])
            obtain ⟨p1, p2⟩ := put4 (a0 := .int .i64 0) (a1 := .slice none 0 0) (a2 := .slice none 0 0) (a3 := .slice none 0 0) HRB.out
            refine bodyPost_ret (results_cell3 rfl _ _ w.heap.size 25 _ (0, 0) _ rfl p1 Try.underlying25 rfl (by kernel_rfl)) rfl ?_
            have hs9 := HB9.out.size
            exact ⟨HB9.out.trans (p2.below hs9 (fun b _ e => by omega)), .inr ⟨HDB.out.trans HDT.out, rfl⟩⟩

end Go.Proofs.Ytbgdaiecmpjcbaa
