/-
  LAYER 15: the walk of DataRefers.
-/
import Derived.Test.YtknimfnjmhmamaaGreatDaRefsM
import Derived.Deep.CutBlock
import Derived.Deep.DeepCutAuto
set_option linter.unusedVariables false
set_option maxRecDepth 100000
set_option linter.unusedSimpArgs false
namespace Go.Proofs.YtknimfnjmhmamaaGreat
open Go.RowKit Go.Shelf

theorem rem_fact (x : Int) (N : Nat) (h0 : 0 ≤ x) (hN : 0 < N) : ∃ q : Nat, x.tmod (N : Int) = (q : Int) ∧ q < N := by
  have h1 := Int.emod_nonneg x (show (N : Int) ≠ 0 by omega)
  have h2 := Int.emod_lt_of_pos x (show 0 < (N : Int) by omega)
  refine ⟨(x % (N : Int)).toNat, ?_, by omega⟩
  rw [Int.tmod_eq_emod_of_nonneg h0]
  omega

set_option maxHeartbeats 8000000 in
theorem refs_law (A : Option Addr) (n c : Nat) (zs : List ByteArray) (B : Option Addr) (n2 c2 : Nat) (l : List AC) (i place : Int) (w : World) (hT : Txt w w.heap.size A n c zs) (hin : InAC w B n2 c2 l) (h2 : (Lit.int .i64 i).wf = true) (h3 : (Lit.int .u64 place).wf = true) :
    Calls Tryz.prog 3 #[.slice A n c, .slice B n2 c2, .int .i64 i, .int .u64 place] w fun e w' => e = .returned (.bool true) ∧ Below w.heap.size w w' := by
  have hib := bounds_i64 h2
  have AW := Lib.hid lawake_any
  have FR := Lib.hid (fun wx (hb : w.heap.size ≤ wx.heap.size) => fresh_ds (base := w.heap.size) 1048576 wx hb (by omega))
  obtain ⟨i0, hi0, hz0, hz1, hz2⟩ := info_parts tabWordInfo
  have hcap := hT.cap
  have hle := hT.le
  have hcap2 := hin.cap
  have hle2 := hin.le
  have HTX := Lib.hid hT
  have HIN := Lib.hid hin
  have HI := Lib.hid hib
  have hu8 : IntKind.u64.wrap (-8) = 18446744073709551608 := by rw [IntKind.wrap_u64]; omega
  have hu1 : IntKind.u64.wrap (-1) = 18446744073709551615 := by rw [IntKind.wrap_u64]; omega
  have HU := Lib.hid (And.intro hu8 hu1)
  clear hT hin h2 h3 hib hu8 hu1
  go_enter Tryz.func3, Tryz.ntmps3
  go_upto_block 0 with (first
    | (go_at_call 4; refine (AW.out _).mono ?_; rintro e w1 ⟨rfl, hb1⟩)
    | (go_at_call 5; refine (FR.out _ hb1.size).mono ?_; rintro e w2 ⟨p, rfl, hb2, H2⟩))
  have HR0 : Hid (RfIn w w2 p 0 none 0 0) := Lib.hid ⟨_, _, _, ⟨H2.mono (fun j hj => hj) (fun j hj => ⟨Nat.le_trans hb1.size hj.1, hj.2⟩), OwnX.nil_ _ _, (fun g hg => by cases hg), rfl, hb1.trans (hb2.mono hb1.size), Nat.le_refl _⟩, rfl, (fun x hx => by cases hx), (fun r hr => by cases hr)⟩
  clear H2 hb1 hb2
  go_cut [10] (fun v wr => ∃ (N c' : Nat) (A' : Option Addr), v = .slice A' N c' ∧ Hid (RfAt w wr p N A' c' 0 0))
  case first =>
    go_wp2
    go_loopw [10, 11] (fun v i wr => ∃ (j N c' : Nat) (A' : Option Addr), v = .slice A' N c' ∧ i = .int .i64 j ∧ j ≤ n ∧ j ≤ 10 ∧ Hid (RfIn w wr p N A' c' j)) (fun _ i _ => n - (intOf i).toNat)
    case atStart => exact ⟨0, 0, 0, none, rfl, rfl, Nat.zero_le _, Nat.zero_le _, HR0⟩
    case round =>
      clear HR0
      obtain ⟨j, N, c', A', rfl, rfl, hj, hj40, HA⟩ := hrel
      have HBL := Lib.hid HA.out.below
      by_cases hmore : j < n ∧ j < 10
      · obtain ⟨hlt, h40⟩ := hmore
        obtain ⟨b, off, rfl, hb, hcell⟩ := HTX.out.at_ (by omega)
        have c0 := hcell j hlt
        have hsz := HTX.out.size hlt
        obtain ⟨s, hs⟩ : ∃ s, nthT zs j = s := ⟨_, rfl⟩
        rw [hs] at c0 hsz
        have CS := Lib.hid (fun wx (hx : Below w.heap.size w wx) => ((hx.cell (p := ⟨b, off + j, none⟩) hb).trans c0 : wx.cell? ⟨b, off + j, none⟩ = some (.string s)))
        have cr := CS.out wr HBL.out
        have hlti : (j : Int) < (n : Int) := by omega
        have h40i : (j : Int) < 10 := by omega
        have SP := Lib.hid (fun wx => rsplit_any s wx hsz)
        clear hcell c0 hs
        cases ho : spOk s with
        | false =>
          rw [ho] at SP
          clear ho hsz
          go_wp2_with (first
            | (go_at_call 6; refine (SP.out _).mono ?_; rintro e w2 ⟨rfl, n1, rfl⟩)
            | (go_at_call 4; refine (AW.out _).mono ?_; rintro e w3 ⟨rfl, hb3⟩))
          go_ret
          exact ⟨rfl, (below_drewn HBL.out n1).trans (hb3.mono (below_drewn HBL.out n1).size)⟩
        | true =>
          rw [ho] at SP
          by_cases h200 : 200 < s.size
          · have h200i : (200 : Int) < (s.size : Int) := by omega
            have crd : ∀ q, (wr.drewN q).cell? ⟨b, off + j, none⟩ = some (.string s) := fun q => cr
            clear ho hsz h200
            go_wp2_with (first
              | (go_at_call 6; refine (SP.out _).mono ?_; rintro e w2 ⟨rfl, n1, rfl⟩)
              | (go_at_call 4; refine (AW.out _).mono ?_; rintro e w3 ⟨rfl, hb3⟩))
            go_ret
            exact ⟨rfl, (below_drewn HBL.out n1).trans (hb3.mono (below_drewn HBL.out n1).size)⟩
          · have h200i : ¬ (200 : Int) < (s.size : Int) := by omega
            have crd : ∀ q, (wr.drewN q).cell? ⟨b, off + j, none⟩ = some (.string s) := fun q => cr
            have IT := Lib.hid (fun q => RfIn.intern s (show RfIn w (wr.drewN q) p N A' c' j from by
              obtain ⟨S, R, X, h, h9⟩ := HA.out
              exact ⟨S, R, X, h.belowW (below_drewn (Below.refl _ _) q), h9⟩) (by omega) ho (by omega))
            clear ho hsz h200
            go_wp2_with (first
              | (go_at_call 6; refine (SP.out _).mono ?_; rintro e w2 ⟨rfl, n1, rfl⟩)
              | (go_at_call 7; refine (IT.out n1).mono ?_; rintro e w1 ⟨a, rfl, hB1, RI⟩; have cr1 := CS.out w1 hB1)
              | (go_at_call 8; refine (RI.out _ (Below.refl _ _)).mono ?_; rintro e w4 ⟨A4, N4, c4, rfl, hB4, HN4⟩))
            go_roundw
            case rel => exact ⟨j + 1, N4, c4, A4, rfl, by go_num, by omega, by omega, HN4⟩
            case measure => simp [intOf]; omega
      · have hend : ¬ (j : Int) < (n : Int) ∨ ((j : Int) < (n : Int) ∧ ¬ (j : Int) < 10) := by omega
        have HB0 : Hid (RfAt w wr p N A' c' 0 0) := Lib.hid (HA.out.begin (by omega))
        clear hmore HA HBL
        have FR := trivial
        rcases hend with hend | ⟨hend1, hend⟩
        all_goals
          go_wp2
          go_meet
          exact ⟨N, c', A', rfl, HB0⟩
  case rest =>
    obtain ⟨N, c', A', rfl, HB0⟩ := hcut
    clear HR0
    go_upto_block 2 with fail
    go_cut [] (fun wr => ∃ (k : Nat) (y : Int), k ≤ 100 ∧ Hid (RfAt w wr p N A' c' y k))
    case first =>
      go_wp2
      go_loopw [17, 18] (fun v i wr => ∃ (k : Nat) (y : Int), v = .int .u64 y ∧ i = .int .i64 k ∧ k ≤ n2 ∧ k ≤ 100 ∧ Hid (RfAt w wr p N A' c' y k)) (fun _ i _ => n2 - (intOf i).toNat)
      case atStart => exact ⟨0, 0, rfl, rfl, Nat.zero_le _, Nat.zero_le _, HB0⟩
      case round =>
        clear HB0
        obtain ⟨k, y, rfl, rfl, hk, hk100, HA⟩ := hrel
        have HBL := Lib.hid HA.out.below
        by_cases hmore : k < n2 ∧ k < 100 ∧ 0 < N
        · obtain ⟨hlt, h100, hN0⟩ := hmore
          obtain ⟨b, off, ac, rfl, hb, ⟨ht, hs⟩, ci, cs⟩ := HIN.out.at_ HBL.out hlt
          have hN10 := HA.out.len
          have hy := HA.out.y0
          obtain ⟨it, st⟩ := ac
          obtain ⟨q, hq, hqN⟩ := rem_fact it N ht.1 hN0
          obtain ⟨z, hz⟩ : ∃ z, y + 8 + 8 * st = z := ⟨_, rfl⟩
          simp only at ht hs ci cs
          have wi : IntKind.i64.wrap it = it := by rw [IntKind.wrap_i64]; omega
          have ws : IntKind.u64.wrap st = st := by rw [IntKind.wrap_u64]; omega
          have w8 : IntKind.u64.wrap (8 * st) = 8 * st := by rw [IntKind.wrap_u64]; omega
          have wy : IntKind.u64.wrap (y + 8) = y + 8 := by rw [IntKind.wrap_u64]; omega
          have wz : IntKind.u64.wrap (y + 8 + 8 * st) = z := by rw [hz, IntKind.wrap_u64]; omega
          have wq : IntKind.i64.wrap (q : Int) = (q : Int) := by rw [IntKind.wrap_i64]; omega
          have hN0i : (0 : Int) < (N : Int) := by omega
          have hNz : ((N : Int) == 0) = false := by simp; omega
          have hNe : ¬ (N : Int) = 0 := by omega
          have hNn : ¬ N = 0 := by omega
          have hqi : (q : Int) < (N : Int) := by omega
          have hlti : (k : Int) < (n2 : Int) := by omega
          have h100i : (k : Int) < 100 := by omega
          obtain ⟨gr, a, Ax, nx, cx, zx, rfl, hnx, ca, RF⟩ := HA.out.push hqN (by omega) z (by omega) (by push_cast; omega)
          have RFH := Lib.hid RF
          have s2 : nx + 1 ≤ maxLen := by unfold maxLen; omega
          have s3 : (nx + 1) * 8 ≤ 140737488355328 := by omega
          clear hz hy RF ht hs
          go_wp2_with (first
            | (go_at_call 9; refine RFH.out.mono ?_; rintro e w2 ⟨rfl, PU⟩; have c2 := PU.out.cell w2 (Below.refl _ _))
            | (at_builtin; go_loud (refine wpList_append_any _ rfl _ _ 39 rfl w.heap.size 24 i0 (.int .u64 0) 1 8 Tryz.underlying39 hi0 hz0 hz1 hz2 rfl (by decide) (.slice Ax nx cx) nx _ rfl (PU.out.row.alloc _) _ _ 1 1 [.int .u64 z] rfl (Reads.new1 _ _ _) (fun u hu => by rw [List.mem_singleton.1 hu]; rfl) s2 s3 (by have := PU.out.base; simp; omega) ?_; intro v1 w3 hown1 hg1 hat1; obtain ⟨g9, c9, rfl⟩ := ownsRow_succ hown1; obtain ⟨c3, f3⟩ := PU.out.late _ w3 hg1; have HD := Lib.hid (PU.out.done _ w3 _ hown1 hg1 hat1); clear hown1 hg1 hat1)))
          go_roundw
          case rel => exact ⟨k + 1, z, by first | rfl | trivial, by go_num, by omega, by omega, HD⟩
          case measure => simp [intOf]; omega
        · have hend2 : ¬ (k : Int) < (n2 : Int) ∨ ((k : Int) < (n2 : Int) ∧ ¬ (k : Int) < 100) ∨ ((k : Int) < (n2 : Int) ∧ (k : Int) < 100 ∧ ¬ (0 : Int) < (N : Int)) := by omega
          clear hmore
          rcases hend2 with hk1 | ⟨hk1, hk2⟩ | ⟨hk1, hk2, hk3⟩
          all_goals
            go_wp2
            go_meet
            exact ⟨k, y, hk100, HA⟩
    case rest =>
      obtain ⟨k, y, hk100, HA⟩ := hcut
      have HBL := trivial
      clear HB0
      go_wp2
      go_loopw [20] (fun v wr => ∃ (e : Nat), v = .int .i64 e ∧ e ≤ N ∧ Hid (RfAt w wr p N A' c' y k)) (fun v _ => N - (intOf v).toNat)
      case atStart => exact ⟨0, rfl, Nat.zero_le _, HA⟩
      case round =>
        clear HA HBL
        obtain ⟨e, rfl, he, HA⟩ := hrel
        have HB := Lib.hid HA.out.below
        have hNe10 := HA.out.len
        by_cases hlt : e < N
        · obtain ⟨gr, a, AL, nL, cL, L, rfl, hrow⟩ := HA.out.row hlt (by omega)
          have hei : (e : Int) < (N : Int) := by omega
          obtain ⟨hsm, rfl, hL⟩ := hrow.small
          obtain ⟨q0, q1⟩ := hrow.cell wr (Below.refl _ _)
          have RW := Lib.hid hrow
          have hsplit : (∃ q : Nat, i = (q : Int) ∧ q < L.length) ∨ (0 ≤ i ∧ ¬ i < (L.length : Int)) ∨ ¬ 0 ≤ i := by
            by_cases h0 : 0 ≤ i
            · by_cases h1 : i < (L.length : Int)
              · exact .inl ⟨i.toNat, by omega, by omega⟩
              · exact .inr (.inl ⟨h0, h1⟩)
            · exact .inr (.inr h0)
          clear hrow
          rcases hsplit with ⟨q, rfl, hq⟩ | ⟨hi1, hi2⟩ | hi1
          · obtain ⟨bL, oL, rfl, hbL, hcL⟩ := (RW.out.reads wr (Below.refl _ _)).plain (by omega)
            obtain ⟨hv, hs⟩ := nth_yes (L := L) (q := q) hq
            have cL0 := hcL q hq
            obtain ⟨x, hx⟩ : ∃ x, L.getD q 0 = x := ⟨_, rfl⟩
            rw [hx] at hv cL0
            have CL := Lib.hid (fun wx (hx : Below wr.heap.size wr wx) => ((hx.cell (p := ⟨bL, oL + q, none⟩) hbL).trans cL0 : wx.cell? ⟨bL, oL + q, none⟩ = some (.int .u64 x)))
            have NT := Lib.hid (fun wx (hx : Below wr.heap.size wr wx) => RW.out.nth (q : Int) wx HI.out.1 HI.out.2 hx)
            rw [hv, hs] at NT
            have hqi : (q : Int) < (L.length : Int) := by omega
            clear hcL cL0 hx hv hs
            go_wp2
            go_quiet (fail)
            have hb := below_drewn (Below.refl wr.heap.size wr) nq
            go_wp2_with (first
              | (go_at_call 10; refine (NT.out _ hb).mono ?_; rintro e w1 ⟨rfl, hb1⟩; have hb1 := hb.trans (hb1.mono hb.size); have cl1 := CL.out _ hb1)
              | (go_at_call 12; refine (RW.out.ents _ hb1).mono ?_; rintro e w2 ⟨A2, c2, rfl, hrd, hb2⟩; have hb2 := hb1.trans (hb2.mono hb1.size))
              | (go_at_call 11; refine (rweq_any A2 _ _ _ c2 cL L L _ hrd (RW.out.reads _ hb2) (by omega) (by omega)).mono ?_; rintro e w3 ⟨rfl, q3, rfl⟩; have hb3 := below_drewn hb2 q3)
              | (go_at_call 13; refine (RW.out.count _ hb3).mono ?_; rintro e w4 ⟨rfl, hb4⟩; have hb4 := hb3.trans (hb4.mono hb3.size))
              | (go_at_call 14; refine (RW.out.search place _ hb4).mono ?_; rintro e w5 ⟨rfl, hb5⟩; have hb5 := hb4.trans (hb5.mono hb4.size))
              | (go_at_call 15; refine (rsearchD_any _ _ cL L place _ (RW.out.reads _ hb5) (by omega)).mono ?_; rintro e w6 ⟨rfl, rfl⟩))
            go_roundw
            case rel => exact ⟨e + 1, by go_num, by omega, Lib.hid (HA.out.belowW hb5)⟩
            case measure => simp [intOf]; omega
          all_goals
            obtain ⟨hv, hs⟩ := nth_no (L := L) (i := i) (by omega)
            have NT := Lib.hid (fun wx (hx : Below wr.heap.size wr wx) => RW.out.nth i wx HI.out.1 HI.out.2 hx)
            rw [hv, hs] at NT
            clear hv hs
            go_wp2
            go_quiet (fail)
            have hb := below_drewn (Below.refl wr.heap.size wr) nq
            go_wp2_with (first
              | (go_at_call 10; refine (NT.out _ hb).mono ?_; rintro e w1 ⟨rfl, hb1⟩; have hb1 := hb.trans (hb1.mono hb.size))
              | (go_at_call 12; refine (RW.out.ents _ hb1).mono ?_; rintro e w2 ⟨A2, c2, rfl, hrd, hb2⟩; have hb2 := hb1.trans (hb2.mono hb1.size))
              | (go_at_call 11; refine (rweq_any A2 _ _ _ c2 cL L L _ hrd (RW.out.reads _ hb2) (by omega) (by omega)).mono ?_; rintro e w3 ⟨rfl, q3, rfl⟩; have hb3 := below_drewn hb2 q3)
              | (go_at_call 13; refine (RW.out.count _ hb3).mono ?_; rintro e w4 ⟨rfl, hb4⟩; have hb4 := hb3.trans (hb4.mono hb3.size))
              | (go_at_call 14; refine (RW.out.search place _ hb4).mono ?_; rintro e w5 ⟨rfl, hb5⟩; have hb5 := hb4.trans (hb5.mono hb4.size))
              | (go_at_call 15; refine (rsearchD_any _ _ cL L place _ (RW.out.reads _ hb5) (by omega)).mono ?_; rintro e w6 ⟨rfl, rfl⟩))
            go_roundw
            case rel => exact ⟨e + 1, by go_num, by omega, Lib.hid (HA.out.belowW hb5)⟩
            case measure => simp [intOf]; omega
        · have heN : e = N := by omega
          subst heN
          have hei : ¬ (e : Int) < (e : Int) := by omega
          have N8 := Lib.hid (HA.out.notD (-8) _ HU.out.1 (by omega) (by omega))
          have N1 := Lib.hid (HA.out.notD (-1) _ HU.out.2 (by omega) (by omega))
          have P8 := Lib.hid (HA.out.notD 8 8 (by rw [IntKind.wrap_u64]; omega) (by omega) (by omega))
          have P0 := Lib.hid (HA.out.notD 0 0 (by rw [IntKind.wrap_u64]; omega) (by omega) (by omega))
          clear hlt
          go_wp2_with (first
            | (go_at_call 9; refine (referD_no p (-8) 8 _ N8.out (by omega)).mono ?_; rintro e w1 ⟨rfl, hb1⟩)
            | (go_at_call 13; refine (countD_no p 8 _ (P8.out.below hb1)).mono ?_; rintro e w2 ⟨rfl, hb2⟩; have hb2 := hb1.trans (hb2.mono hb1.size))
            | (go_at_call 14; refine (searchD_no p 0 place _ (P0.out.below hb2)).mono ?_; rintro e w3 ⟨rfl, hb3⟩; have hb3 := hb2.trans (hb3.mono hb2.size))
            | (go_at_call 12; refine (lentries_no p (-1) _ (N1.out.below hb3)).mono ?_; rintro e w4 ⟨A4, c4, rfl, hb4⟩; have hb4 := hb3.trans (hb4.mono hb3.size))
            | (go_at_call 4; refine (AW.out _).mono ?_; rintro e w5 ⟨rfl, hb5⟩; have hb5 := hb4.trans (hb5.mono hb4.size)))
          go_ret
          exact ⟨rfl, HB.out.trans (hb5.mono HB.out.size)⟩

end Go.Proofs.YtknimfnjmhmamaaGreat
