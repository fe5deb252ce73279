/-
  LAYER 15: the walk of DataInterns.
-/
import Derived.Test.YtknimfnjmhmamaaDaIntsM
set_option linter.unusedVariables false
set_option maxRecDepth 100000
set_option linter.unusedSimpArgs false
namespace Go.Proofs.Ytknimfnjmhmamaa
open Go.RowKit Go.Shelf

set_option maxHeartbeats 8000000 in
theorem interns_law (A : Option Addr) (n c : Nat) (zs : List ByteArray) (other field : ByteArray) (w : World) (hT : Txt w w.heap.size A n c zs) (hot : other.size ≤ maxLen) (hfl : field.size ≤ maxLen) :
    Calls Try.prog 3 #[.slice A n c, .string other, .string field] w fun e w' => e = .returned (.bool true) ∧ Below w.heap.size w w' := by
  have AW := Lib.hid lawake_any
  have FR := Lib.hid (fun wx (hb : w.heap.size ≤ wx.heap.size) => fresh_ds (base := w.heap.size) 1048576 wx hb (by omega))
  have hcap := hT.cap
  have hle := hT.le
  have HTX := Lib.hid hT
  have HO := Lib.hid (And.intro hot hfl)
  unfold maxLen at hot hfl
  clear hT
  go_enter Try.func3, Try.ntmps3
  go_wp2_with (first
    | (go_at_call 5; refine (AW.out _).mono ?_; rintro e w1 ⟨rfl, hb1⟩)
    | (go_at_call 6; refine (FR.out _ hb1.size).mono ?_; rintro e w2 ⟨p, rfl, hb2, H2⟩))
  have HR0 : Hid (ItAt w w2 _ p [] (.slice none 0 0) [] 0) := Lib.hid ⟨H2.mono (fun j hj => hj) (fun j hj => ⟨Nat.le_trans hb1.size hj.1, hj.2⟩), OwnX.nil_ _ _, (fun g hg => by cases hg), rfl, hb1.trans (hb2.mono hb1.size), Nat.le_refl _⟩
  clear H2 hb1 hb2
  go_loopw [8, 9] (fun v i wr => ∃ (j N c' : Nat) (A' : Option Addr) (S : Nat → Prop) (R : List DR) (X : List XR), v = .slice A' N c' ∧ N = X.length ∧ i = .int .i64 j ∧ j ≤ n ∧ j ≤ 40 ∧ Hid (ItAt w wr S p R (.slice A' N c') X j)) (fun _ i _ => n - (intOf i).toNat)
  case atStart => exact ⟨0, 0, 0, none, _, _, _, rfl, rfl, rfl, Nat.zero_le _, Nat.zero_le _, HR0⟩
  case round =>
    clear HR0
    obtain ⟨j, N, c', A', S, R, X, rfl, hN, rfl, hj, hj40, HA⟩ := hrel
    have HBL := Lib.hid HA.out.below
    have HNX := Lib.hid hN
    clear hN
    by_cases hmore : j < n ∧ j < 40
    · obtain ⟨hlt, h40⟩ := hmore
      · obtain ⟨b, off, rfl, hb, hcell⟩ := HTX.out.at_ (by omega)
        have c0 := hcell j hlt
        have hsz := HTX.out.size hlt
        obtain ⟨s, hs⟩ : ∃ s, nthT zs j = s := ⟨_, rfl⟩
        rw [hs] at c0 hsz
        have CS := Lib.hid (fun wx (hx : Below w.heap.size w wx) => ((hx.cell (p := ⟨b, off + j, none⟩) hb).trans c0 : wx.cell? ⟨b, off + j, none⟩ = some (.string s)))
        have cr := CS.out wr HBL.out
        have hlti : (j : Int) < (n : Int) := by omega
        have h40i : (j : Int) < 40 := by omega
        clear hcell c0 hs
        by_cases h1500 : 1500 < s.size
        · have h1500i : (1500 : Int) < (s.size : Int) := by omega
          clear h1500 hsz
          go_wp2_with (go_at_call 5; refine (AW.out _).mono ?_; rintro e w3 ⟨rfl, hb3⟩)
          go_ret
          exact ⟨rfl, HBL.out.trans (hb3.mono HBL.out.size)⟩
        · have h1500i : ¬ (1500 : Int) < (s.size : Int) := by omega
          have SP := Lib.hid (fun wx => rsplit_any s wx hsz)
          cases ho : spOk s with
          | false =>
            have IT := Lib.hid (intern_name p s wr hsz ho)
            rw [ho] at SP
            clear ho hsz h1500
            go_wp2_with (first
              | (go_at_call 7; refine IT.out.mono ?_; rintro e w1 ⟨rfl, hb1⟩; have hB1 := HBL.out.trans (hb1.mono HBL.out.size); have cr1 := CS.out w1 hB1)
              | (go_at_call 8; refine (SP.out _).mono ?_; rintro e w2 ⟨rfl, n1, rfl⟩))
            go_roundw
            case rel => exact ⟨j + 1, N, c', A', S, R, X, rfl, HNX.out, by go_num, by omega, by omega, Lib.hid ((HA.out.belowW (below_drewn hb1 n1)).more (by omega))⟩
            case measure => simp [intOf]; omega
          | true =>
            rw [ho] at SP
            by_cases h1024 : 1024 < s.size
            · have h1024i : (1024 : Int) < (s.size : Int) := by omega
              have IT := Lib.hid (intern_big p s wr hsz ho h1024)
              clear ho hsz h1500 h1024
              go_wp2_with (first
                | (go_at_call 7; refine IT.out.mono ?_; rintro e w1 ⟨rfl, hb1⟩; have hB1 := HBL.out.trans (hb1.mono HBL.out.size); have cr1 := CS.out w1 hB1; have cr2 : ∀ q, (w1.drewN q).cell? ⟨b, off + j, none⟩ = some (.string s) := fun q => cr1)
                | (go_at_call 8; refine (SP.out _).mono ?_; rintro e w2 ⟨rfl, n1, rfl⟩))
              go_roundw
              case rel => exact ⟨j + 1, N, c', A', S, R, X, rfl, HNX.out, by go_num, by omega, by omega, Lib.hid ((HA.out.belowW (below_drewn hb1 n1)).more (by omega))⟩
              case measure => simp [intOf]; omega
            · have h1024i : ¬ (1024 : Int) < (s.size : Int) := by omega
              have IT := Lib.hid (dintern_ds s HA.out.ds (by omega) ho (by omega) (by omega))
              have RI := Lib.hid (fun (wx : World) (a : Int) (hx : OwnX wx w.heap.size (.slice A' N c') X) (hw : w.heap.size ≤ wx.heap.size) => rintern_any s a wx hx hw (by have := HA.out.len; omega) (by omega))
              have hs2 : s.size ≤ 100000 := by omega
              clear ho hsz h1500 h1024
              go_wp2_with (first
                | (go_at_call 7; refine IT.out.mono ?_; rintro e w1 ⟨a, rfl, ha, hc1, hd1, hf1⟩; have hB1 := HBL.out.trans (hc1.below HBL.out.size (fun q _ hq => (HA.out.ds.foot q hq).1)); have cr1 := CS.out w1 hB1; have cr2 : ∀ q, (w1.drewN q).cell? ⟨b, off + j, none⟩ = some (.string s) := fun q => cr1)
                | (go_at_call 8; refine (SP.out _).mono ?_; rintro e w2 ⟨rfl, n1, rfl⟩)
                | (go_at_call 9; refine (RI.out _ _ ((HA.out.own.chg hc1 HA.out.vS).below (below_drewn (Below.refl _ _) n1)) (by have := hB1.size; simpa using this)).mono ?_; rintro e w4 ⟨v', rfl, ho4, hc4, hm4⟩; obtain ⟨A4, c4, hv4, -, -⟩ := own_form ho4.own; subst hv4; have HN4 := Lib.hid (HA.out.next hc1 hd1 (below_drewn (Below.refl _ _) n1) ho4 hc4 hm4); have cr4 := CS.out w4 HN4.out.below))
              obtain ⟨N4, hN4⟩ : ∃ N4, (insX X s (a : Int)).length = N4 := ⟨_, rfl⟩
              rw [hN4] at HN4 ⊢
              obtain ⟨i4, gr, offr, zs4, HK4⟩ := HN4.out.ask hN4.symm (by omega) hs2 hf1
              obtain rfl := HK4.addr
              have hi4 := HK4.lt
              have hi4i : (i4 : Int) < (N4 : Int) := by omega
              have HKH := Lib.hid HK4
              have HS := Lib.hid (show ∀ wx, Below w4.heap.size w4 wx → wx.cell? ⟨b, off + j, none⟩ = some (.string s) ∧ wx.cell? ⟨gr, offr + i4 * 3 + 1, none⟩ = some (.int .i64 (a : Nat)) from fun wx hx => ⟨CS.out wx (HN4.out.below.trans (hx.mono HN4.out.below.size)), HK4.cell wx hx⟩)
              have FL := Lib.hid (fun wx => rfield_any s wx (by unfold maxLen; omega))
              have HNN := Lib.hid hN4
              clear hf1 HK4 hc1 hd1 ho4 hc4 hm4 hN4 cr cr1 cr2 cr4
              have hb0 : Below w4.heap.size w4 w4.drew := below_drewn (Below.refl _ _) 1
              have HKs := Lib.hid (HS.out _ hb0)
              have hbx := hb0
              clear hb0
              have m1 : True := trivial
              go_region_held3 (fun w' => w'.cell? ⟨b, off + j, none⟩ = some (.string s) ∧ w'.cell? ⟨gr, offr + i4 * 3 + 1, none⟩ = some (.int .i64 (a : Nat)))
                (first | assumption | exact HKs.out | exact HS.out _ (by assumption))
                ((first
                  | (go_at_call 10; refine (HKH.out.find _ hbx).mono ?_; rintro e wx ⟨rfl, rfl⟩)
                  | (clear m1; go_at_call 13; refine (FL.out _).mono ?_; rintro e wx ⟨rfl, hdr⟩; have hbx := hdr.belowB hbx)
                  | (go_at_call 12; refine (HKH.out.vals _ hbx).mono ?_; rintro e wx ⟨A5, c5, rfl, ht5, hb5⟩; have hbx := hbx.trans (hb5.mono hbx.size))
                  | (go_at_call 13; refine (FL.out _).mono ?_; rintro e wx ⟨rfl, hdr⟩; have hbx := hdr.belowB hbx; have ht5 := ht5.ofDrew hdr)
                  | (go_at_call 14; refine (HKH.out.rvals _ hbx).mono ?_; rintro e wx ⟨A6, c6, rfl, ht6, hb6⟩; have hbx := hbx.trans (hb6.mono hbx.size); have ht5 := (ht5.below hb6).more hb6.size)
                  | (go_at_call 11; refine (texts_same A5 A6 _ c5 c6 _ _ _ _ ht5 ht6).mono ?_; rintro e wx ⟨rfl, hdr⟩; have hbx := hdr.belowB hbx)))
              go_wp2
              go_roundw
              case rel => exact ⟨j + 1, N4, c4, some ⟨gr, offr, none⟩, _, _, _, rfl, HNN.out.symm, by go_num, by omega, by omega, Lib.hid (HN4.out.belowW hbx)⟩
              case measure => simp [intOf]; omega
    · have hend : ¬ (j : Int) < (n : Int) ∨ ((j : Int) < (n : Int) ∧ ¬ (j : Int) < 40) := by omega
      have hN40 : N ≤ 900 := by have := HA.out.len; have := HNX.out; omega
      clear hmore
      have FR := trivial
      rcases hend with hend | ⟨hend1, hend⟩
      all_goals
        go_wp2
        go_loopw [15] (fun i wr => ∃ (k : Nat), i = .int .i64 k ∧ k ≤ N ∧ Hid (ItAt w wr S p R (.slice A' N c') X j)) (fun i _ => N - (intOf i).toNat)
        case atStart => exact ⟨0, rfl, Nat.zero_le _, HA⟩
        case round =>
          clear HA HBL
          obtain ⟨k, rfl, hk, HA⟩ := hrel
          by_cases hlt : k < N
          · obtain ⟨gr, off, s, a, rfl, hrow⟩ := HA.out.row HNX.out hlt
            have hki : (k : Int) < (N : Int) := by omega
            have hsm := hrow.small
            obtain ⟨q0, q1⟩ := hrow.cell wr (Below.refl _ _)
            have FD := Lib.hid (hrow.find wr (Below.refl _ _))
            have RW := Lib.hid hrow
            have tw := wrap_u64_of (x := (a : Nat)) (by omega) (by omega)
            go_wp2_with (first
              | (go_at_call 15; refine FD.out.mono ?_; rintro e w1 ⟨rfl, hb1⟩)
              | (go_at_call 16; refine (RW.out.told _ hb1).mono ?_; rintro e w2 ⟨A1, n1, c1, A2, n2, c2, A3, n3, c3, rfl, hb2, hrd⟩))
            have hb3 := (hb1.trans (hb2.mono hb1.size)).alloc (hb1.trans (hb2.mono hb1.size)).size (.cells #[.int .i64 1, .slice A1 n1 c1, .slice A2 n2 c2, .slice A3 n3 c3] 45)
            obtain ⟨x0, x1⟩ := RW.out.cell _ hb3
            have z2 := (Blk.new w2 45 #[.int .i64 1, .slice A1 n1 c1, .slice A2 n2 c2, .slice A3 n3 c3]).cell 2
            have hrd3 := hrd.below (boxed w2 (.cells #[.int .i64 1, .slice A1 n1 c1, .slice A2 n2 c2, .slice A3 n3 c3] 45))
            obtain ⟨w3, hw3⟩ : ∃ w3, w2.alloc (.cells #[.int .i64 1, .slice A1 n1 c1, .slice A2 n2 c2, .slice A3 n3 c3] 45) = w3 := ⟨_, rfl⟩
            rw [hw3] at hb3 x0 x1 z2 hrd3 ⊢
            have hct : ∀ q, (convert 43 9 (.slice A2 n2 c2)).run Try.prog (w3.drewN q) = .ok (.string s) (w3.drewN q) := fun q => by
              have h9 := run_text (P := Try.prog) 43 5 9 Try.underlying43 Try.underlying5 Try.underlying9 (hrd3.drewN q) c2
              rw [str_nums] at h9
              exact h9
            have hct0 := hct 0
            have hct1 := hct 1
            have HB3 := Lib.hid hb3
            clear hw3 hrd3 hrd hb1 hb2 hb3 q0 q1
            go_quiet (fail)
            go_wp2
            go_roundw
            case rel => exact ⟨k + 1, by go_num, by omega, Lib.hid (HA.out.belowW (below_drewn HB3.out nq))⟩
            case measure => simp [intOf]; omega
          · have hkN : k = N := by omega
            subst hkN
            have hki : ¬ (k : Int) < (k : Int) := by omega
            have HB := Lib.hid HA.out.below
            by_cases hbo : 1500 < other.size
            · have hboi : (1500 : Int) < (other.size : Int) := by omega
              go_wp2_with (go_at_call 5; refine (AW.out _).mono ?_; rintro e w3 ⟨rfl, hb3⟩)
              go_ret
              exact ⟨rfl, HB.out.trans (hb3.mono HB.out.size)⟩
            · have hboi : ¬ (1500 : Int) < (other.size : Int) := by omega
              by_cases hbf : 200 < field.size
              · have hbfi : (200 : Int) < (field.size : Int) := by omega
                go_wp2_with (go_at_call 5; refine (AW.out _).mono ?_; rintro e w3 ⟨rfl, hb3⟩)
                go_ret
                exact ⟨rfl, HB.out.trans (hb3.mono HB.out.size)⟩
              · have hbfi : ¬ (200 : Int) < (field.size : Int) := by omega
                have FD := Lib.hid (dfind_ds other HA.out.ds (by omega))
                have hyx := HA.out.like.isSome other
                obtain ⟨A2, c2, hv2, hRX⟩ := HA.out.own.rows
                injection hv2 with e1 e2 e3
                subst e1; subst e3
                have RF := Lib.hid (fun wx (hx : Below wr.heap.size wr wx) => rfind_any other wx (hRX.below hx))
                have LV := Lib.hid (fun wx (hx : Below wr.heap.size wr wx) => lvalues_ds field (HA.out.ds.below hx) (by omega) (by rw [HA.out.like.len]; have := HA.out.len; omega))
                have RV := Lib.hid (fun wx (hx : Below wr.heap.size wr wx) => rvalues_any field wx (hRX.below hx) hx.size)
                rw [HA.out.like.vals] at LV
                obtain ⟨x, hx⟩ : ∃ x, (findD R (nums other)).getD 0 = x := ⟨_, rfl⟩
                obtain ⟨y, hy⟩ : ∃ y, (findD R (nums other)).isSome = y := ⟨_, rfl⟩
                obtain ⟨z, hz⟩ : ∃ z, idxX X other = z := ⟨_, rfl⟩
                rw [hx, hy] at FD
                rw [hy, hz] at hyx
                rw [hz] at RF
                rw [← e2] at RF RV
                clear hx hy hz hRX e2 hbf hbo
                go_wp2_with (first
                  | (go_at_call 15; refine FD.out.mono ?_; rintro e w4 ⟨rfl, hb4⟩)
                  | (go_at_call 10; refine (RF.out _ hb4).mono ?_; rintro e w5 ⟨rfl, rfl⟩)
                  | (go_at_call 12; refine (LV.out _ hb4).mono ?_; rintro e w6 ⟨A5, c5, rfl, ht5, hb6⟩; have hb7 := hb4.trans (hb6.mono hb4.size))
                  | (go_at_call 14; refine (RV.out _ hb7).mono ?_; rintro e w8 ⟨A6, c6, rfl, ht6, hb8⟩; have hb9 := hb7.trans (hb8.mono hb7.size); have ht7 := (ht5.below hb8).more hb8.size)
                  | (go_at_call 11; refine (texts_same A5 A6 _ c5 c6 _ _ _ _ ht7 ht6).mono ?_; rintro e w10 ⟨rfl, hdr⟩; have hb10 := hdr.belowB hb9)
                  | (go_at_call 5; refine (AW.out _).mono ?_; rintro e w11 ⟨rfl, hb11⟩))
                go_ret
                exact ⟨rfl, HB.out.trans ((hb10.trans (hb11.mono hb10.size)).mono HB.out.size)⟩

end Go.Proofs.Ytknimfnjmhmamaa
