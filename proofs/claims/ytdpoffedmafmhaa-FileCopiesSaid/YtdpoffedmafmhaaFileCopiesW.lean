/-
  LAYER 6: the walk of FileCopies.
-/
import Derived.Test.YtdpoffedmafmhaaFileLaw3
import Derived.Deep.RegionHeld3
set_option linter.unusedVariables false
set_option linter.unusedSimpArgs false
namespace Go.Proofs.Ytdpoffedmafmhaa
open Go.RowKit

set_option maxRecDepth 100000 in
set_option maxHeartbeats 4000000 in
theorem copies_law (A : Option Addr) (len cap : Nat) (l : List ActM) (A2 : Option Addr) (len2 cap2 : Nat) (l2 : List ActM) (w : World) (hin : InActs w A len cap l) (hin2 : InActs w A2 len2 cap2 l2) :
    Calls Try.prog 5 #[.slice A len cap, .slice A2 len2 cap2] w fun e w' => e = .returned (.bool true) ∧ Below w.heap.size w w' := by
  obtain ⟨i0, hi, hz0, hz1, hz2⟩ := info_parts byteInfo
  have hle := hin.le
  have hcap := hin.cap
  have hle2 := hin2.le
  have hcap2 := hin2.cap
  have HS := Lib.hid (AtL.start w)
  have HIN := Lib.hid hin
  have HIN2 := Lib.hid hin2
  clear hin hin2
  go_enter Try.func5, Try.ntmps5
  go_wp2_with (go_at_call 6; refine (fnew_any w).mono ?_; rintro e w1 ⟨rfl, hx⟩; obtain rfl := hx.out; clear hx)
  go_loopw [5, 6, 7] (fun f r i wr => ∃ (k p q : Nat) (T : Nat → Prop) (s : FS), k ≤ len ∧ k ≤ 12 ∧ i = .int .i64 k ∧ f = .pointer (some ⟨p, 0, none⟩) ∧ r = .pointer (some ⟨q, 0, none⟩) ∧ Hid (AtL w wr p q T s k)) (fun _ _ i _ => len - (intOf i).toNat)
  case atStart => exact ⟨0, _, _, _, _, Nat.zero_le _, Nat.zero_le _, rfl, rfl, by simp, HS⟩
  case round =>
    clear HS
    obtain ⟨k, p, q, T, s, hk, hk20, rfl, rfl, rfl, H⟩ := hrel
    by_cases hlt : k < len ∧ k < 12
    · obtain ⟨hlt, h20⟩ := hlt
      have t1 : (k : Int) < (len : Int) := by omega
      have t2 : (k : Int) < 12 := by omega
      obtain ⟨b, off, a, rfl, hok, y0, y1, y2, y3⟩ := HIN.out.at_ H.out.below hlt
      have LG := Lib.hid (light_any a wr hok.at_)
      cases hlb : lightB a with
      | false =>
        rw [hlb] at LG
        clear hlb
        go_wp2_with (first
          | (go_at_call 8; refine LG.out.mono ?_; rintro e w2 ⟨rfl, hb2⟩)
          | (go_at_call 7; refine (awake_any _).mono ?_; rintro e w5 ⟨rfl, hb5⟩))
        go_ret
        exact ⟨rfl, (H.out.later hb2).below.trans (hb5.mono (H.out.later hb2).below.size)⟩
      | true =>
        rw [hlb] at LG
        have DO := Lib.hid (fun (w1 : World) (hb : Below wr.heap.size wr w1) => does_any p q w.heap.size T s (10 * k) a w1 (H.out.two.below hb) H.out.good (by omega) (ActAt.of hok (H.out.later hb).below) hlb)
        have NX := Lib.hid (fun (w1 w2 : World) (e : Ending) (hb : Below wr.heap.size wr w1) (hd : Did w.heap.size T (s.act a) w1 e w2) => H.out.next hb (lightB_len hlb hok).1 (lightB_len hlb hok).2 hd)
        clear hlb hok
        go_wp2_with (first
          | (go_at_call 8; (with_reducible refine LG.out.mono ?_); rintro e w2 ⟨rfl, hb2⟩; obtain ⟨z0, z1, z2, z3⟩ := act_cells y0 y1 y2 y3 hb2)
          | (go_at_call 9; go_loud ((with_reducible refine (DO.out _ hb2).mono ?_); rintro e w3 hd; obtain ⟨p', q', T', rfl, hN⟩ := NX.out _ _ _ hb2 hd; have HN := Lib.hid hN; clear hd hN)))
        go_roundw
        case rel => exact ⟨k + 1, p', q', T', _, by omega, by omega, by go_num, rfl, rfl, HN⟩
        case measure => simp [intOf]; omega
    · obtain ⟨A9, c9, Ao, co, hhl⟩ := H.out.two.held
      obtain ⟨m, hm⟩ : ∃ m, m = s.now.length := ⟨_, rfl⟩
      obtain ⟨n, hn⟩ : ∃ n, n = s.ops.length := ⟨_, rfl⟩
      rw [← hm, ← hn] at hhl
      have hm6 : m ≤ 1048576 := by rw [hm]; exact H.out.good.ok.size
      have HL := Lib.hid hhl
      have HG := Lib.hid H.out.good
      have HM := Lib.hid hm
      have HN := Lib.hid hn
      have CP := Lib.hid (fun (w1 : World) (hb : Below wr.heap.size wr w1) => (H.out.two.below hb).copied H.out.good (by omega))
      have hb0 : Below wr.heap.size wr wr.drew := below_drewn (Below.refl _ _) 1
      have hbL : Below wr.heap.size wr (wr.alloc (.cells #[] 5)).drew := below_drewn ((Below.refl _ _).alloc (Nat.le_refl _) _) 1
      obtain ⟨d0, d2⟩ := (hhl wr (Below.refl _ _)).1
      obtain ⟨b0, b2⟩ := (hhl _ hbL).1
      have s2 : 0 + m ≤ maxLen := by unfold maxLen; omega
      have s3 : (0 + m) * 1 ≤ 140737488355328 := by omega
      have t12 : (¬ (k : Int) < 12 ∧ (k : Int) < (len : Int)) ∨ ¬ (k : Int) < (len : Int) := by omega
      clear hm hn hlt hhl
      rcases t12 with ⟨t2, t3⟩ | t3
      all_goals
        go_wp2
        go_region_held3 (fun w' => w'.cell? ⟨q, 0, none⟩ = some (.slice A9 m c9) ∧ w'.cell? ⟨q, 2, none⟩ = some (.slice Ao n co))
          (first | assumption | exact (HL.out _ (by assumption)).1 | exact (HL.out _ (hbA.alloc hbA.size _)).1)
          (first
          | (go_at_call 16; (with_reducible refine (CP.out _ hb0).mono ?_); rintro e wA ⟨pc, nv, sv, pv, rfl, hbx, hcf⟩; have hbA := hb0.trans (hbx.mono hb0.size); have HCF := Lib.hid hcf; have tk1 : True := trivial; clear hbx hcf)
          | (go_at_call 16; (with_reducible refine (CP.out _ hbL).mono ?_); rintro e wA ⟨pc, nv, sv, pv, rfl, hbx, hcf⟩; have hbA := hbL.trans (hbx.mono hbL.size); have HCF := Lib.hid hcf; have HLT := Lib.hid hbx; clear hbx hcf)
          | (clear tk1; (refine step_append_any _ rfl _ _ _ rfl wr.heap.size 5 i0 (.int .u8 0) 1 1 Try.underlying26 hi hz0 hz1 hz2 rfl (Nat.lt_succ_self 0) _ 0 [] rfl (World.ownsRow_lit wA #[] 0 hbA.size (Nat.zero_le _) rfl) wr.heap.size A9 m c9 (cellsOf .u8 s.now) rfl ((HL.out wA hbA).2.alloc hbA.size _) (cellsOf_one _ _) s2 s3 (Nat.le_trans hbA.size (by simp)) ?_; intro v2 w2 hown2 hg2 hat2; rw [Nat.zero_add, List.nil_append] at hown2; obtain ⟨A8, c8, rfl, -, -⟩ := own_form hown2; obtain ⟨HC0, hbz⟩ := CpL.made H.out hbA HCF.out (fun j hj => hj.1) ((Below.refl _ _).alloc (Nat.le_refl _) _) hg2 hbA.size (fun hj => absurd hj.2 (Nat.lt_irrefl _)) hown2; have HC := Lib.hid HC0; clear hown2 hg2 hat2 HC0))
          | ((refine step_append_any _ rfl _ _ _ rfl wr.heap.size 5 i0 (.int .u8 0) 1 1 Try.underlying26 hi hz0 hz1 hz2 rfl (Nat.lt_succ_self 0) _ 0 [] rfl (own_below (w := (wr.alloc (.cells #[] 5)).drew) (World.ownsRow_lit wr #[] 0 (Nat.le_refl _) (Nat.zero_le _) rfl) HLT.out) wr.heap.size A9 m c9 (cellsOf .u8 s.now) rfl (HL.out wA hbA).2 (cellsOf_one _ _) s2 s3 hbA.size ?_; intro v2 w2 hown2 hg2 hat2; rw [Nat.zero_add, List.nil_append] at hown2; obtain ⟨A8, c8, rfl, -, -⟩ := own_form hown2; obtain ⟨HC0, hbz⟩ := CpL.made H.out hbA HCF.out (fun j hj => Nat.le_trans hbL.size hj.1) (Below.refl _ _) hg2 (Nat.le_refl _) (fun hj => by have h2 : (wr.alloc (.cells #[] 5)).heap.size ≤ wr.heap.size := hj.1; rw [World.size_alloc] at h2; omega) hown2; have HC := Lib.hid HC0; clear hown2 hg2 hat2 HC0)))
      all_goals
        clear hb0 hbL hbz hbA
        clear d0 d2 b0 b2
        go_wp2
        go_loopw [5, 6, 14] (fun f r i wr => ∃ (k2 p q : Nat) (T : Nat → Prop) (s2 : FS), k2 ≤ len2 ∧ k2 ≤ 12 ∧ i = .int .i64 k2 ∧ f = .pointer (some ⟨p, 0, none⟩) ∧ r = .pointer (some ⟨q, 0, none⟩) ∧ Hid (CpL w wr p q T s2 (k + k2) pc s A8 m c8)) (fun _ _ i _ => len2 - (intOf i).toNat)
        case atStart => exact ⟨0, _, _, _, _, Nat.zero_le _, Nat.zero_le _, rfl, rfl, rfl, HC⟩
        case round =>
          clear HC
          obtain ⟨k2, p, q, T, s2, hk2, hk22, rfl, rfl, rfl, H⟩ := hrel
          by_cases hlt : k2 < len2 ∧ k2 < 12
          · obtain ⟨hlt, h20⟩ := hlt
            have t1 : (k2 : Int) < (len2 : Int) := by omega
            have t2 : (k2 : Int) < 12 := by omega
            obtain ⟨b, off, a, rfl, hok, y0, y1, y2, y3⟩ := HIN2.out.at_ H.out.at_.below hlt
            have LG := Lib.hid (light_any a wr hok.at_)
            cases hlb : lightB a with
            | false =>
              rw [hlb] at LG
              clear hlb
              go_wp2_with (first
                | (go_at_call 8; refine LG.out.mono ?_; rintro e w2 ⟨rfl, hb2⟩)
                | (go_at_call 7; refine (awake_any _).mono ?_; rintro e w5 ⟨rfl, hb5⟩))
              go_ret
              exact ⟨rfl, (H.out.at_.later hb2).below.trans (hb5.mono (H.out.at_.later hb2).below.size)⟩
            | true =>
              rw [hlb] at LG
              have DO := Lib.hid (fun (w1 : World) (hb : Below wr.heap.size wr w1) => does_any p q w.heap.size T s2 (10 * (k + k2)) a w1 (H.out.at_.two.below hb) H.out.at_.good (by omega) (ActAt.of hok (H.out.at_.later hb).below) hlb)
              have NX := Lib.hid (fun (w1 w2 : World) (e : Ending) (hb : Below wr.heap.size wr w1) (hd : Did w.heap.size T (s2.act a) w1 e w2) => H.out.next hb (lightB_len hlb hok).1 (lightB_len hlb hok).2 hd)
              clear hlb hok
              go_wp2_with (first
                | (go_at_call 8; (with_reducible refine LG.out.mono ?_); rintro e w2 ⟨rfl, hb2⟩; obtain ⟨z0, z1, z2, z3⟩ := act_cells y0 y1 y2 y3 hb2)
                | (go_at_call 9; go_loud ((with_reducible refine (DO.out _ hb2).mono ?_); rintro e w3 hd; obtain ⟨p', q', T', rfl, hN⟩ := NX.out _ _ _ hb2 hd; have HN := Lib.hid hN; clear hd hN)))
              go_roundw
              case rel => exact ⟨k2 + 1, p', q', T', _, by omega, by omega, by go_num, rfl, rfl, HN⟩
              case measure => simp [intOf]; omega
          · obtain ⟨Sc, nvc, svc, pvc, hcf, -⟩ := H.out.copy
            have RDC := Lib.hid (fun w1 (hb : Below wr.heap.size wr w1) => fread_all pc _ _ s _ _ _ w1 (hcf.below hb) (by rw [← HM.out]; exact hm6))
            have PEC0 := fun w1 (hb : Below wr.heap.size wr w1) => cf_pend (hcf.below hb)
            rw [← HN.out] at PEC0
            have PEC := Lib.hid PEC0
            have HRW := Lib.hid H.out.row.reads
            have BY := (HG.out).ok.now
            have SHW := Lib.hid (fun w1 (hb : Below wr.heap.size wr w1) => shows_any p q w.heap.size T s2 (10 * (k + k2)) 0 10 w1 (H.out.at_.two.below hb) H.out.at_.good (by omega) (by omega) (by omega) (by omega))
            have hbx0 : Below wr.heap.size wr (wr.alloc (.cells #[.int .u8 1] 5)) := (Below.refl _ _).alloc (Nat.le_refl _) _
            have u12 : (¬ (k2 : Int) < 12 ∧ (k2 : Int) < (len2 : Int)) ∨ ¬ (k2 : Int) < (len2 : Int) := by omega
            clear hlt hcf PEC0
            rcases u12 with ⟨u2, u3⟩ | u3
            all_goals
              go_wp2_with (first
                | (go_at_call 17; (with_reducible refine (flen_nil _).mono ?_); rintro e w9 ⟨rfl, rfl⟩)
                | (go_at_call 14; (with_reducible refine (fread_nil 0 5 _).mono ?_); rintro e w9 ⟨rfl, rfl⟩)
                | (go_at_call 18; (with_reducible refine (fwrite_nil 0 _ _).mono ?_); rintro e w9 ⟨rfl, rfl⟩)
                | (go_at_call 19; (with_reducible refine (ftrunc_nil 5 _).mono ?_); rintro e w9 ⟨rfl, rfl⟩)
                | (go_at_call 11; (with_reducible refine (fpend_nil _).mono ?_); rintro e w9 ⟨rfl, rfl⟩)
                | (go_at_call 16; (with_reducible refine (fcopy_nil _).mono ?_); rintro e w9 ⟨rfl, rfl⟩)
                | (go_at_call 13; (with_reducible refine (fcrash_nil _ _).mono ?_); rintro e w9 ⟨rfl, rfl⟩)
                | (go_at_call 15; (with_reducible refine (fsync_nil _).mono ?_); rintro e w9 ⟨rfl, rfl⟩)
                | (go_at_call 14; (with_reducible refine (RDC.out _ hbx0).mono ?_); rintro e wE hg; obtain ⟨Ae, ne, ce, rfl, -, re, -, -, hbx⟩ := hg.reads; have hbE := hbx0.trans (hbx.mono hbx0.size); clear hg hbx)
                | (go_at_call 12; (with_reducible refine (same_self Ae A8 ne m ce c8 _ wE re (HRW.out.below hbE) BY).mono ?_); rintro e w9 ⟨rfl, rfl⟩)
                | (go_at_call 11; (with_reducible refine (PEC.out _ hbE).mono ?_); rintro e w9 ⟨rfl, rfl⟩)
                | (go_at_call 10; (with_reducible refine (SHW.out _ hbE).mono ?_); rintro e wF ⟨rfl, hbx⟩; have hbF := hbE.trans (hbx.mono hbE.size); clear hbx)
                | (go_at_call 7; (with_reducible refine (awake_any _).mono ?_); rintro e wG ⟨rfl, hbx⟩; have hbG := hbF.trans (hbx.mono hbF.size); clear hbx))
              go_ret
              exact ⟨rfl, H.out.at_.below.trans (hbG.mono H.out.at_.below.size)⟩

end Go.Proofs.Ytdpoffedmafmhaa
