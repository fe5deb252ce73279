/-
  LAYER 7: the walk of DirSafe.
-/
import Derived.Test.YtakjiklpfddooaaDirLaw
import Derived.Deep.RegionHeld3
set_option linter.unusedVariables false
set_option linter.unusedSimpArgs false
namespace Go.Proofs.Ytakjiklpfddooaa
open Go.RowKit

theorem AtL.synced {w wr w' : World} {p q k : Nat} {T : Nat → Prop} {s : DB} (H : AtL w wr p q T s k) (ht : Turn w.heap.size T p q s.sync s wr w') : Below w.heap.size w w' :=
  H.below.trans (ht.1.below H.below.size (fun k _ hk => (H.two.foot k hk).1))

/-- The document's names, as a walk loads them. -/
theorem Two.now2 {w : World} {base p q : Nat} {T : Nat → Prop} {s s2 : DB} (h : Two w base T p q s s2) : ∃ A c, ∀ w', Below w.heap.size w w' → w'.cell? ⟨q, 0, none⟩ = some (.slice A s2.now.length c) ∧ Nms w' w.heap.size A s2.now.length c s2.now := by
  obtain ⟨S, S2, bn, bs, pv, nv, sv, ov, h1, h2, -, -, -⟩ := h.ex
  obtain ⟨An, cn, rfl, hNm⟩ := Nms.of_own h2.now
  exact ⟨An, cn, fun w' hb => ⟨(h2.cells hb).1, hNm.below hb⟩⟩
/-- How many things are pending, as a walk asks it. -/
theorem Two.pend {w : World} {base p q : Nat} {T : Nat → Prop} {s s2 : DB} (h : Two w base T p q s s2) :
    Calls Try.prog 18 #[.pointer (some ⟨p, 0, none⟩)] w fun e w' => e = .returned (.int .i64 s.ops.length) ∧ w = w' := by
  obtain ⟨S, S2, bn, bs, pv, nv, sv, ov, h1, h2, -, -, -⟩ := h.ex
  obtain ⟨Ap, cp, rfl, -, -⟩ := own_form h1.pend
  exact dpend_any p bn _ _ _ w (h1.cells (Below.refl _ _)).1 (h1.cells (Below.refl _ _)).2.2.1

set_option maxHeartbeats 4000000 in
set_option maxRecDepth 100000 in
theorem safe_law (A : Option Addr) (len cap : Nat) (l : List ActD) (K : Option Addr) (m d : Nat) (ks : List Bool) (w : World) (hin : InActsD w A len cap l) (hk : InBools w K m d ks) :
    Calls Try.prog 4 #[.slice A len cap, .slice K m d] w fun e w' => e = .returned (.bool true) ∧ Below w.heap.size w w' := by
  have hle := hin.le
  have hcap := hin.cap
  have hkle := hk.le
  have hkcap := hk.cap
  have HIN := Lib.hid hin
  have HKS := Lib.hid hk
  have NW := Lib.hid (dnew_ex w w.heap.size (Nat.le_refl _))
  clear hin hk
  by_cases g1 : 200 < m
  · have g2 : (200 : Int) < (m : Int) := by omega
    go_enter Try.func4, Try.ntmps4
    go_wp2_with (first
      | (go_at_call 6; go_loud (refine NW.out.mono ?_; rintro e w1 ⟨P0, b0, b1, rfl, hn⟩; have HS := Lib.hid (AtL.start hn.out); clear hn))
      | (go_at_call 7; go_loud (refine (awake_any _).mono ?_; rintro e w5 ⟨rfl, hb5⟩)))
    go_ret
    exact ⟨rfl, HS.out.below.trans (hb5.mono HS.out.below.size)⟩
  · have g2 : ¬ (200 : Int) < (m : Int) := by omega
    go_enter Try.func4, Try.ntmps4
    go_wp2_with (go_at_call 6; go_loud (refine NW.out.mono ?_; rintro e w1 ⟨P0, b0, b1, rfl, hn⟩; have HS := Lib.hid (AtL.start hn.out); clear hn))
    go_loopw [5, 6, 7] (fun f r i wr => ∃ (k p q : Nat) (T : Nat → Prop) (s : DB), k ≤ len ∧ k ≤ 30 ∧ i = .int .i64 k ∧ f = .pointer (some ⟨p, 0, none⟩) ∧ r = .pointer (some ⟨q, 0, none⟩) ∧ Hid (AtL w wr p q T s k)) (fun _ _ i _ => len - (intOf i).toNat)
    case atStart => exact ⟨0, _, _, _, _, Nat.zero_le _, Nat.zero_le _, rfl, rfl, rfl, HS⟩
    case round =>
      clear HS
      obtain ⟨k, p, q, T, s, hk, hk20, rfl, rfl, rfl, H⟩ := hrel
      by_cases hlt : k < len ∧ k < 30
      · obtain ⟨hlt, h20⟩ := hlt
        have t1 : (k : Int) < (len : Int) := by omega
        have t2 : (k : Int) < 30 := by omega
        obtain ⟨b, off, a, rfl, hok, y0, y1, y2, y3, y4⟩ := HIN.out.at_ H.out.below hlt
        have LG := Lib.hid (light_any a wr hok.a hok.b)
        cases hlb : lightB a with
        | false =>
          rw [hlb] at LG
          clear hlb
          go_wp2_with (first
            | (go_at_call 8; (with_reducible refine LG.out.mono ?_); rintro e w2 ⟨rfl, hb2⟩)
            | (go_at_call 7; refine (awake_any _).mono ?_; rintro e w5 ⟨rfl, hb5⟩))
          go_ret
          exact ⟨rfl, (H.out.later hb2).below.trans (hb5.mono (H.out.later hb2).below.size)⟩
        | true =>
          rw [hlb] at LG
          have DO := Lib.hid (fun (w1 : World) (hb : Below wr.heap.size wr w1) => does_any p q w.heap.size k T s a w1 (H.out.two.below hb) H.out.good (by omega) (ActAt.of hok hlb (H.out.later hb).below))
          have NX := Lib.hid (fun (w1 w2 : World) (e : Ending) (hb : Below wr.heap.size wr w1) (hd : Did w.heap.size T (actS s a) w1 e w2) => H.out.next hb hlb hok.id hd)
          clear hlb hok
          go_wp2_with (first
            | (go_at_call 8; (with_reducible refine LG.out.mono ?_); rintro e w2 ⟨rfl, hb2⟩; obtain ⟨z0, z1, z2, z3, z4⟩ := act_cells y0 y1 y2 y3 y4 hb2)
            | (go_at_call 9; go_loud ((with_reducible refine (DO.out _ hb2).mono ?_); rintro e w3 hd; obtain ⟨p', q', T', rfl, hN⟩ := NX.out _ _ _ hb2 hd; have HN := Lib.hid hN; clear hd hN)))
          go_roundw
          case rel => exact ⟨k + 1, p', q', T', _, by omega, by omega, by go_num, rfl, rfl, HN⟩
          case measure => simp [intOf]; omega
      · have t12 : (¬ (k : Int) < 30 ∧ (k : Int) < (len : Int)) ∨ ¬ (k : Int) < (len : Int) := by omega
        obtain ⟨n, hn⟩ : ∃ n, n = s.now.length := ⟨_, rfl⟩
        have hn9 : n ≤ 900000 := by have := H.out.good.now; omega
        have hk9 : k ≤ 900000 := by omega
        have HN := Lib.hid hn
        clear hn hlt
        rcases t12 with ⟨t2, t3⟩ | t3
        all_goals
          go_wp2_with (first
            | (go_at_call 13; go_loud (refine (two_dsync H.out.two H.out.good hk9).mono ?_; rintro e wC ⟨rfl, hx⟩; have HX := Lib.hid hx; have HXB := Lib.hid (H.out.synced hx); clear hx))
            | (go_at_call 14; go_loud (refine (two_dcrash (Bk := w.heap.size) K m d ks HX.out.2 (HKS.out.reads.below HXB.out) HXB.out.size hkle hkcap H.out.good.sync hk9).mono ?_; rintro e wD ⟨p2, bn2, bs2, pv2, rfl, hbx, hcd⟩; rw [crash_sync] at hcd; have HD := Lib.hid (And.intro hbx hcd); clear hbx hcd)))
          obtain ⟨Aq, cq, hnw⟩ := (HX.out.2.below HD.out.1).now2
          rw [← HN.out] at hnw
          have NW2 := Lib.hid hnw
          have HBD := Lib.hid (HXB.out.trans (HD.out.1.mono HXB.out.size))
          have D0 := (HD.out.2.cells (Below.refl _ _)).1
          have DN := Lib.hid (show Calls Try.prog 16 #[.pointer (some ⟨p2, 0, none⟩)] wD.drew fun e w' => ∃ A c, e = .returned (.slice A n c) ∧ Txt w' w'.heap.size A n c (namesN s.now) ∧ Below wD.drew.heap.size wD.drew w' by
            have h := dnames_any p2 bn2 s.now wD.drew D0 (HD.out.2.below (below_drewn (Below.refl _ _) 1)).now (by rw [← HN.out]; omega) H.out.good.okn
            rwa [← HN.out] at h)
          have RN := Lib.hid (fun w1 (hb : Below wD.heap.size wD w1) => rnames_any Aq n cq wD.heap.size s.now w1 (NW2.out w1 hb).2 hb.size (by omega) H.out.good.okn)
          have PE2 := Lib.hid (fun wz (hb : Below wD.heap.size wD wz) => (show Calls Try.prog 18 #[.pointer (some ⟨p, 0, none⟩)] wz (fun e w' => e = .returned (.int .i64 0) ∧ wz = w') from ((HX.out.2.below HD.out.1).below hb).pend))
          have hc0 : Below wD.heap.size wD wD.drew := below_drewn (Below.refl _ _) 1
          clear hnw D0
          go_region_held3 (fun w' => w'.cell? ⟨q, 0, none⟩ = some (.slice Aq n cq))
            (first | assumption | exact (NW2.out _ (by assumption)).1)
            (first
              | (go_at_call 16; go_loud (refine DN.out.mono ?_; rintro e wE ⟨A1, c1, rfl, hT1, hbx⟩; have hcE := hc0.trans (hbx.mono hc0.size); have HT1 := Lib.hid hT1; clear hbx hT1))
              | (go_at_call 17; go_loud (refine (RN.out _ hcE).mono ?_; rintro e wF ⟨A2, c2, rfl, hT2, hbx⟩; have hcF := hcE.trans (hbx.mono hcE.size); have HT2 := Lib.hid hT2; have HT3 := Lib.hid (HT1.out.below hbx); clear hbx hT2))
              | (go_at_call 15; go_loud (refine (texts_same A1 A2 n c1 c2 _ _ _ wF HT3.out HT2.out).mono ?_; rintro e w9 ⟨rfl, nq, rfl⟩; have hcG := below_drewn hcF nq))
              | (go_at_call 18; go_loud (refine (PE2.out _ hcG).mono ?_; rintro e w9 ⟨rfl, rfl⟩))
              | (go_at_call 7; go_loud (refine (awake_any _).mono ?_; rintro e wG ⟨rfl, hbx⟩; have hcH := hcG.trans (hbx.mono hcG.size); clear hbx)))
          go_wp2
          go_ret
          exact ⟨rfl, HBD.out.trans (hcH.mono HBD.out.size)⟩

end Go.Proofs.Ytakjiklpfddooaa
