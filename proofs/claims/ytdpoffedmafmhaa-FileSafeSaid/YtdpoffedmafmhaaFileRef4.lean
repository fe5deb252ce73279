/-
  LAYER 6: WHAT THE DOCUMENT'S OWN Write DOES: its walk.
-/
import Derived.Test.YtdpoffedmafmhaaFileRef3
set_option linter.unusedVariables false
set_option linter.unusedSimpArgs false
namespace Go.Proofs.Ytdpoffedmafmhaa
open Go.RowKit

theorem own_some {w : World} {b n c size : Nat} {e : TypeId} {A : Option Addr} {xs : List Value} (h : w.ownsRow b e size (.slice A n c) n xs) (h0 : 0 < n) : ∃ g, A = some ⟨g, 0, none⟩ := by
  obtain ⟨g, c', hv, _, _⟩ := h.form h0
  injection hv with h1
  exact ⟨g, h1⟩

theorem RF.as {w : World} {base p : Nat} {S : Nat → Prop} {s s' : FS} {nv sv ov : Value} {xs : List Value} (h : RF w base S p s nv sv ov xs) (e : s = s') : RF w base S p s' nv sv ov xs := e ▸ h

set_option maxHeartbeats 4000000 in
theorem rwrite_nat (p a : Nat) (Ab : Option Addr) (m cb : Nat) (bs : List Int) (B base : Nat) (S : Nat → Prop) (s : FS) (nv sv ov : Value) (xs : List Value) (w : World) (h : RF w base S p s nv sv ov xs) (hr : Reads w B 1 Ab m (cellsOf .u8 bs)) (hB : B ≤ base) (hmc : m ≤ cb) (hcb : cb ≤ 9223372036854775807)
    (hm0 : 0 < m) (ham : a + m ≤ 1048576) (hl : s.now.length ≤ 1048576) (ho : s.ops.length ≤ 900000) :
    Calls Try.prog 20 #[.pointer (some ⟨p, 0, none⟩), .int .i64 a, .slice Ab m cb] w fun e w' => e = .returned (.int .i64 0) ∧ RFT base S p (s.write a bs) w w' := by
  obtain ⟨i0, hi, hz0, hz1, hz2⟩ := info_parts ropInfo
  obtain ⟨A, c0, rfl, hc1, hc2⟩ := own_form h.now
  have hbm := hr.len
  obtain ⟨L1, hL1⟩ : ∃ L1, L1 = growL s.now (a + m) := ⟨_, rfl⟩
  obtain ⟨O, hO⟩ : ∃ O, O = s.ops ++ growO s.now (a + m) := ⟨_, rfl⟩
  obtain ⟨L, hL⟩ : ∃ L, L = wrL L1 a bs := ⟨_, rfl⟩
  obtain ⟨W, hW⟩ : ∃ W, W = wrO a bs L := ⟨_, rfl⟩
  obtain ⟨M, hM⟩ : ∃ M, M = max s.now.length (a + m) := ⟨_, rfl⟩
  obtain ⟨f, hf⟩ : ∃ f, f = a % 64 := ⟨_, rfl⟩
  obtain ⟨K, hK⟩ : ∃ K, K = pcN f m := ⟨_, rfl⟩
  obtain ⟨Sa, hSa⟩ : ∃ Sa, Sa = a / 64 := ⟨_, rfl⟩
  have hf6 : f < 64 := by omega
  have hL1l : L1.length = M := by rw [hL1, growL_length, hM]
  have hWl : W.length = K := by rw [hW, wrO_length, hK, hbm, hf]
  have hWk : ∀ k, k < K → W[k]? = some ⟨false, Sa + k, secL L ((Sa + k : Nat) : Int)⟩ := fun k hk => by
    rw [hW, hSa]; unfold wrO
    simp [hbm, ← hf, ← hK, hk]
  have hst : s.write a bs = ⟨L, s.safe, O ++ W⟩ := by
    unfold FS.write
    rw [if_neg (by intro e; rw [e] at hbm; simp at hbm; omega), hbm, ← hL1, ← hL, ← hO, ← hW]
  have hsec : ∀ k, k < K → secL (wrL L1 a (bs.take (min (64 * (k + 1) - f) m))) ((Sa + k : Nat) : Int) = secL L ((Sa + k : Nat) : Int) := fun k hk => by
    have := secL_later (z := L1) (xs := bs) (a := a) (i := k) (by rw [hL1l, hbm]; omega) (by rw [hbm, ← hf, ← hK]; exact hk)
    rw [← hf, ← hSa, ← hL] at this
    rw [← this]
    congr 2
    rcases Nat.le_total (64 * (k + 1) - f) m with hh | hh
    · rw [Nat.min_eq_left hh]
    · rw [Nat.min_eq_right hh, List.take_of_length_le (by omega), List.take_of_length_le (by omega)]
  rw [hst, hL]
  have HLT := Lib.hid (show ∀ j, j < K ↔ 64 * j - f < m from fun j => by rw [hK]; exact pcN_lt hf6)
  have HAF := Lib.hid (show a = 64 * Sa + f by omega)
  have hSa6 : Sa ≤ 16384 := by omega
  have hK2 : K ≤ 16400 := by have := pcN_le f m hf6; omega
  have hOl : O.length ≤ 900001 := by
    rw [hO, List.length_append]
    have : (growO s.now (a + m)).length ≤ 1 := by unfold growO; split <;> simp
    omega
  have HRB := Lib.hid (fun (w' : World) (hc : Chg S w w') => hr.chg hc (by have := h.bas; omega) (fun _ ad e hs => by
    have := (h.foot _ hs).1
    obtain ⟨ad', e', hb', _⟩ := hr.2 hm0
    rw [e] at e'; injection e' with e'; subst e'; omega))
  obtain ⟨d0, -, d2, -⟩ := h.cells3 (Below.refl _ _)
  obtain ⟨m0, hm0'⟩ : ∃ m0, m0 = s.now.length := ⟨_, rfl⟩
  rw [← hm0'] at d0 hM hl h
  have x1 : ¬ 1048576 < (a : Int) := by omega
  have x2 : ¬ 1048576 - (a : Int) < (m : Int) := by omega
  have x3 : 0 < (m : Int) := by omega
  have hM6 : M ≤ 1048576 := by omega
  have HML := Lib.hid hL1l
  have HWL := Lib.hid hWl
  have HWK := Lib.hid hWk
  have HSEC := Lib.hid hsec
  have HBM := Lib.hid hbm
  have HBA := Lib.hid (And.intro h.foot h.bas)
  have HMX := Lib.hid (show a + bs.length ≤ M by omega)
  have HMX2 : a + m ≤ M := by omega
  obtain ⟨Ao, co, rfl, ho1, ho2⟩ := own_form h.pend
  by_cases hg : m0 < a + m
  · have hME : M = a + m := by omega
    have e1 : L1 = sizeL s.now M := by rw [hL1, hME]; unfold growL; rw [if_pos (by rw [← hm0']; exact hg)]
    have e2 : O = s.ops ++ [⟨true, M, []⟩] := by rw [hO, hME]; unfold growO; rw [if_pos (by rw [← hm0']; exact hg)]
    have RS := rsize_any A m0 c0 ((M : Nat) : Int) s.now w.heap.size w (h.nowR hm0').1 (Nat.le_refl _) (by omega) (h.nowR hm0').2.1 (h.nowR hm0').2.2
    rw [Int.toNat_natCast, ← e1] at RS
    unfold Gives at RS
    rw [hL1l] at RS
    obtain ⟨n0, hn0⟩ : ∃ n0, n0 = s.ops.length := ⟨_, rfl⟩
    rw [← hn0] at ho h d2
    have H := Lib.hid h
    have HN0 := Lib.hid hn0
    have RSH := Lib.hid RS
    have E2 := Lib.hid e2
    have x4 : (m0 : Int) < (a : Int) + (m : Int) := by omega
    have hMi : (a : Int) + (m : Int) = (M : Int) := by omega
    have s2 : n0 + 1 ≤ maxLen := by unfold maxLen; omega
    have s3 : (n0 + 1) * 40 ≤ 140737488355328 := by omega
    clear h RS e1 e2 hn0 hm0' hst hL1 hL hO hW hM hf hK hSa hL1l hWl hWk hsec hr hbm hc1 ho1 hME
    go_enter Try.func20, Try.ntmps20
    go_wp2_with (first
      | (go_at_call 32; go_loud (refine RSH.out.mono ?_; rintro e w1 ⟨A1, c, rfl, hown1, hb1⟩; obtain ⟨g, rfl⟩ := own_some hown1 (by omega); obtain ⟨z0, z1, z2, f0, f1, f2⟩ := H.out.cells3 hb1; have H1 := Lib.hid (H.out.setNow (zs := L1) (by rw [HML.out]; exact hown1) hb1); have HC1 := Lib.hid (H.out.renowed hb1 (.slice (some ⟨g, 0, none⟩) M c)); clear hown1))
      | (at_builtin; go_loud (refine wpList_append_any _ rfl _ _ _ rfl base 66 i0 _ 3 40 Try.underlying27 hi hz0 hz1 hz2 rfl (Nat.zero_lt_succ 2) (.slice Ao n0 co) n0 xs rfl ((H1.out.pend_ HN0.out).alloc _) _ _ 1 1 [.bool true, .int .i64 M, .slice none 0 0] rfl (newAt _ _ _ 3 _ rfl (by simp)) (op_one _ _ _ _ _) s2 s3 (by have := H1.out.bas; simp at this ⊢; omega) ?_; intro v4 w4 hown4 hg4 hat4; obtain ⟨A4, c4, rfl, -, -⟩ := own_form hown4; obtain ⟨g2, gf2⟩ := H1.out.pcells hg4; have HP := Lib.hid (H1.out.pushed (o := ⟨true, M, []⟩) HN0.out hg4 hown4 (by simpa using hat4) Reads.none_ (Nat.le_refl _) (Nat.zero_le _) (fun ad e => by cases e)); clear hown4 hg4 hat4)))
    have H0 : Hid (WrR w (w4.setCell ⟨p, 2, none⟩ (.slice A4 (n0 + 1) c4)) base S p s g M c sv L1 a bs O W 0 0) := by
      refine Lib.hid ⟨⟨_, _, _, HP.out.2.as (by rw [List.take_zero, List.take_zero, wrL_none, List.append_nil, E2.out]), ?_⟩, chg_in HC1.out HP.out.1 (fun k hk => hk.imp id (fun x => x.1))⟩
      intro k hk
      have h1 := HC1.out.size
      rcases hk with hk | ⟨hk, _⟩
      · exact hk.imp id (fun x => x.1)
      · exact .inr (by simp at hk h1; omega)
    clear HP HC1 H1 hMi x4 s2 s3 d0 d2 z0 z1 z2 f0 f1 f2 g2 gf2 hb1
    go_loopw [7] (fun i wr => ∃ j q : Nat, j ≤ K ∧ Hid (q = min (64 * j - f) m) ∧ q ≤ m ∧ i = .int .i64 q ∧ Hid (WrR w wr base S p s g M c sv L1 a bs O W q j)) (fun i _ => m - (intOf i).toNat)
    case atStart => exact ⟨0, 0, Nat.zero_le _, Lib.hid (by omega), Nat.zero_le _, rfl, H0⟩
    case round =>
      clear H0
      obtain ⟨j, q, hj, hq, hqm, rfl, H⟩ := hrel
      by_cases hlt : q < m
      · have hq1 : q = 64 * j - f := by have := hq.out; omega
        have hjK : j < K := (HLT.out j).2 (by omega)
        obtain ⟨x, hx⟩ : ∃ x, x = Sa + j := ⟨_, rfl⟩
        obtain ⟨en, hen⟩ : ∃ en, en = min (64 * (j + 1) - f) m := ⟨_, rfl⟩
        have hqe : q < en := by omega
        have hem : en ≤ m := by omega
        have hx6 : x ≤ 40000 := by omega
        have hdiv : ∀ r, q ≤ r → r < en → (a + r) / 64 = x := fun r h1 h2 => by have := HAF.out; omega
        have hdiv2 : en < m → (a + en) / 64 = x + 1 := fun h2 => by have := HAF.out; omega
        have hdq : (a + q) / 64 = x := by have := HAF.out; omega
        have t1 : ((a : Int) + (q : Int)).tdiv 64 = (x : Int) := by rw [Int.tdiv_eq_ediv_of_nonneg (by omega)]; omega
        have t2 : ((a : Int) + (q : Int)) / 64 = (x : Int) := by omega
        have hqi : (q : Int) < (m : Int) := by omega
        have HEN := Lib.hid hen
        have HDV := Lib.hid hdiv
        have HDV2 := Lib.hid hdiv2
        have HWJ := Lib.hid (HWK.out j hjK)
        rw [← hx] at HWJ
        have HSC := Lib.hid (HSEC.out j hjK)
        rw [← hx, ← hen] at HSC
        have HQE := Lib.hid hq1
        have HX := Lib.hid hx
        obtain ⟨wo, rfl⟩ : ∃ wo : World, wo = wr := ⟨_, rfl⟩
        clear hen hdiv hdiv2 hx hdq hq hq1
        go_wp2
        clear t1 t2
        go_loopw [7] (fun i wr => ∃ r : Nat, q ≤ r ∧ r ≤ en ∧ i = .int .i64 r ∧ Hid (WrR w wr base S p s g M c sv L1 a bs O W r j)) (fun i _ => m - (intOf i).toNat)
        case atStart => exact ⟨q, Nat.le_refl _, Nat.le_of_lt hqe, rfl, H⟩
        case round =>
          clear H
          obtain ⟨r, hqr, hre, rfl, H⟩ := hrel
          by_cases hr : r < en
          · have hrd := HDV.out r hqr hr
            have t1 : ((a : Int) + (r : Int)).tdiv 64 = (x : Int) := by rw [Int.tdiv_eq_ediv_of_nonneg (by omega)]; omega
            have t2 : ((a : Int) + (r : Int)) / 64 = (x : Int) := by omega
            have t3 : (r : Int) < (m : Int) := by omega
            have t4 : IntKind.i64.wrap ((a : Int) + (r : Int)) = (a : Int) + (r : Int) := by rw [IntKind.wrap_i64]; omega
            have t5 : 0 ≤ (a : Int) + (r : Int) := by omega
            have t6 : (a : Int) + (r : Int) < (M : Int) := by omega
            have t7 : ((a : Int) + (r : Int)).toNat = a + r := by omega
            have t8 : a + r < M := by omega
            have t9 : r < m := by omega
            have hrb := HRB.out wr H.out.chg
            obtain ⟨b, off, rfl, hbB, hc⟩ := hrb.plain (by omega)
            obtain ⟨y, hy⟩ : ∃ y, y = nz bs r := ⟨_, rfl⟩
            have cb : wr.cell? ⟨b, off + r, none⟩ = some (.int .u8 y) := by rw [hy]; exact hc r (by omega)
            obtain ⟨cn, cM, ⟨u, cu⟩, fu⟩ := H.out.cells HML.out HMX.out (a + r) t8
            have HN := Lib.hid (H.out.byte (by rw [HML.out]; exact HMX.out) (by rw [HBM.out]; exact t9))
            rw [← hy] at HN
            clear hrb hc hy hrd
            go_wp2
            go_region
            all_goals
              go_wp2
              go_roundw
              case rel => exact ⟨r + 1, by omega, by omega, by go_num, Lib.hid HN.out.drew⟩
              case measure => simp [intOf]; omega
          · obtain rfl : r = en := by omega
            obtain ⟨⟨Sk, ov, xs2, hrf, hgr⟩, hchg⟩ := H.out
            obtain ⟨Ao, co, rfl, ho1, ho2⟩ := own_form hrf.pend
            obtain ⟨u0, -, u2, -⟩ := hrf.cells3 (Below.refl _ _)
            obtain ⟨n, hn⟩ : ∃ n, n = (O ++ W.take j).length := ⟨_, rfl⟩
            have hn6 : n ≤ 1000000 := by rw [hn, List.length_append, List.length_take]; omega
            have s2 : n + 1 ≤ maxLen := by unfold maxLen; omega
            have s3 : (n + 1) * 40 ≤ 140737488355328 := by omega
            have hnr := hrf.nowR (show M = _ by show M = (wrL L1 a (bs.take r)).length; rw [wrL_length (by rw [List.length_take, HML.out]; have := HMX.out; have := HBM.out; omega)]; exact HML.out.symm)
            have AT := Lib.hid (rat_any (some ⟨g, 0, none⟩) M c x (wrL L1 a (bs.take r)) wr.heap.size wr.drew hnr.1.drew (Nat.le_refl _) hnr.2.1 hnr.2.2 (by omega))
            have HRF := Lib.hid hrf
            rw [show (⟨wrL L1 a (bs.take r), s.safe, O ++ W.take j⟩ : FS).ops.length = n from hn.symm] at u2 HRF
            have HN := Lib.hid hn
            have HGR := Lib.hid hgr
            have HCH := Lib.hid hchg
            rw [HSC.out] at AT
            clear hrf hgr hchg hnr hn ho1 H
            by_cases hrm : r < m
            · have hd2 := HDV2.out hrm
              have t3 : (r : Int) < (m : Int) := by omega
              have t1 : (((a : Int) + (r : Int)).tdiv 64 == (x : Int)) = false := by rw [Int.tdiv_eq_ediv_of_nonneg (by omega)]; simp; omega
              have t2 : (((a : Int) + (r : Int)) / 64 == (x : Int)) = false := by simp; omega
              clear hd2
              go_wp2
              go_region_law ((first
                | (go_simp; go_at_call 33; refine AT.out.mono ?_; rintro e w2 ⟨gd, hgd, rfl, hbd, hw2⟩; rw [secL_length]; have hwb := below_drew0 (w := wr) hw2; obtain ⟨z0, -, z2, zf0, -, zf2⟩ := HRF.out.cells3 hwb; have H2 := Lib.hid (HRF.out.below hwb); have za : ∀ o, (w2.alloc o).cell? ⟨p, 2, none⟩ = some (.slice Ao n co) := fun o => (H2.out.cells3 ((Below.refl _ _).alloc (Nat.le_refl _) o)).2.2.1)
                | (go_loud (refine step_append_any _ rfl _ _ _ rfl base 66 i0 _ 3 40 Try.underlying27 hi hz0 hz1 hz2 rfl (Nat.zero_lt_succ 2) (.slice Ao n co) n xs2 rfl ((H2.out.pend_ HN.out).alloc _) _ _ 1 1 [.bool false, .int .i64 x, .slice (some ⟨gd, 0, none⟩) 64 64] rfl (newAt _ _ _ 3 _ rfl (by simp)) (op_one _ _ _ _ _) s2 s3 (by have := H2.out.bas; simp at this ⊢; omega) ?_; intro v4 w4 hown4 hg4 hat4; obtain ⟨A4, c4, rfl, -, -⟩ := own_form hown4; obtain ⟨y2, yf2⟩ := H2.out.pcells hg4; have HP := Lib.hid (WrR.sector (o := ⟨false, x, secL L x⟩) HRF.out HGR.out HCH.out HWJ.out hwb hgd hbd (secL_length _ _) (by decide) HN.out hg4 hown4 (by simpa using hat4)); clear hown4 hg4 hat4))))
              all_goals
                go_wp2
                go_roundw
                case rel => exact ⟨j + 1, r, by omega, Lib.hid HEN.out, by omega, rfl, Lib.hid HP.out⟩
                case measure => simp [intOf]; omega
            · have t3 : ¬ (r : Int) < (m : Int) := by omega
              go_wp2
              go_region_law ((first
                | (go_simp; go_at_call 33; refine AT.out.mono ?_; rintro e w2 ⟨gd, hgd, rfl, hbd, hw2⟩; rw [secL_length]; have hwb := below_drew0 (w := wr) hw2; obtain ⟨z0, -, z2, zf0, -, zf2⟩ := HRF.out.cells3 hwb; have H2 := Lib.hid (HRF.out.below hwb); have za : ∀ o, (w2.alloc o).cell? ⟨p, 2, none⟩ = some (.slice Ao n co) := fun o => (H2.out.cells3 ((Below.refl _ _).alloc (Nat.le_refl _) o)).2.2.1)
                | (go_loud (refine step_append_any _ rfl _ _ _ rfl base 66 i0 _ 3 40 Try.underlying27 hi hz0 hz1 hz2 rfl (Nat.zero_lt_succ 2) (.slice Ao n co) n xs2 rfl ((H2.out.pend_ HN.out).alloc _) _ _ 1 1 [.bool false, .int .i64 x, .slice (some ⟨gd, 0, none⟩) 64 64] rfl (newAt _ _ _ 3 _ rfl (by simp)) (op_one _ _ _ _ _) s2 s3 (by have := H2.out.bas; simp at this ⊢; omega) ?_; intro v4 w4 hown4 hg4 hat4; obtain ⟨A4, c4, rfl, -, -⟩ := own_form hown4; obtain ⟨y2, yf2⟩ := H2.out.pcells hg4; have HP := Lib.hid (WrR.sector (o := ⟨false, x, secL L x⟩) HRF.out HGR.out HCH.out HWJ.out hwb hgd hbd (secL_length _ _) (by decide) HN.out hg4 hown4 (by simpa using hat4)); clear hown4 hg4 hat4))))
              all_goals
                go_wp2
                go_roundw
                case rel => exact ⟨j + 1, r, by omega, Lib.hid HEN.out, by omega, rfl, Lib.hid HP.out⟩
                case measure => simp [intOf]; omega
      · obtain rfl : q = m := by omega
        have hjK : j = K := by
          rcases Nat.lt_or_ge j K with h | h
          · have := (HLT.out j).1 h; have := hq.out; omega
          · omega
        subst hjK
        have HR := Lib.hid (H.out.done_ (by rw [HBM.out]; exact Nat.le_refl _) (by rw [HWL.out]; exact Nat.le_refl _) HBA.out.1 HBA.out.2)
        clear H hq
        go_wp2
        go_ret
        exact ⟨rfl, HR.out⟩
  · have hME : M = m0 := by omega
    have e1 : L1 = s.now := by rw [hL1]; unfold growL; rw [if_neg (by rw [← hm0']; exact hg)]
    have e2 : O = s.ops := by rw [hO]; unfold growO; rw [if_neg (by rw [← hm0']; exact hg), List.append_nil]
    subst hME
    obtain ⟨g, rfl⟩ := own_some (show w.ownsRow base 5 1 (.slice A M c0) M (cellsOf .u8 s.now) by have := h.now; rw [← hm0'] at this; exact this) (by omega)
    obtain ⟨c, hcc⟩ : ∃ c, c = c0 := ⟨_, rfl⟩
    subst hcc
    have H0 : Hid (WrR w w base S p s g M c sv L1 a bs O W 0 0) := by
      exact Lib.hid ⟨⟨S, _, xs, h.as (by rw [List.take_zero, List.take_zero, wrL_none, List.append_nil, e1, e2]), fun k hk => .inl hk⟩, Chg.refl _ _⟩
    have x4 : ¬ (M : Int) < (a : Int) + (m : Int) := by omega
    clear h e1 e2 hm0' hst hL1 hL hO hW hM hf hK hSa hL1l hWl hWk hsec hr hbm hc1 ho1
    go_enter Try.func20, Try.ntmps20
    go_wp2
    clear d0 d2 x4
    go_loopw [7] (fun i wr => ∃ j q : Nat, j ≤ K ∧ Hid (q = min (64 * j - f) m) ∧ q ≤ m ∧ i = .int .i64 q ∧ Hid (WrR w wr base S p s g M c sv L1 a bs O W q j)) (fun i _ => m - (intOf i).toNat)
    case atStart => exact ⟨0, 0, Nat.zero_le _, Lib.hid (by omega), Nat.zero_le _, rfl, H0⟩
    case round =>
      clear H0
      obtain ⟨j, q, hj, hq, hqm, rfl, H⟩ := hrel
      by_cases hlt : q < m
      · have hq1 : q = 64 * j - f := by have := hq.out; omega
        have hjK : j < K := (HLT.out j).2 (by omega)
        obtain ⟨x, hx⟩ : ∃ x, x = Sa + j := ⟨_, rfl⟩
        obtain ⟨en, hen⟩ : ∃ en, en = min (64 * (j + 1) - f) m := ⟨_, rfl⟩
        have hqe : q < en := by omega
        have hem : en ≤ m := by omega
        have hx6 : x ≤ 40000 := by omega
        have hdiv : ∀ r, q ≤ r → r < en → (a + r) / 64 = x := fun r h1 h2 => by have := HAF.out; omega
        have hdiv2 : en < m → (a + en) / 64 = x + 1 := fun h2 => by have := HAF.out; omega
        have hdq : (a + q) / 64 = x := by have := HAF.out; omega
        have t1 : ((a : Int) + (q : Int)).tdiv 64 = (x : Int) := by rw [Int.tdiv_eq_ediv_of_nonneg (by omega)]; omega
        have t2 : ((a : Int) + (q : Int)) / 64 = (x : Int) := by omega
        have hqi : (q : Int) < (m : Int) := by omega
        have HEN := Lib.hid hen
        have HDV := Lib.hid hdiv
        have HDV2 := Lib.hid hdiv2
        have HWJ := Lib.hid (HWK.out j hjK)
        rw [← hx] at HWJ
        have HSC := Lib.hid (HSEC.out j hjK)
        rw [← hx, ← hen] at HSC
        have HQE := Lib.hid hq1
        have HX := Lib.hid hx
        obtain ⟨wo, rfl⟩ : ∃ wo : World, wo = wr := ⟨_, rfl⟩
        clear hen hdiv hdiv2 hx hdq hq hq1
        go_wp2
        clear t1 t2
        go_loopw [7] (fun i wr => ∃ r : Nat, q ≤ r ∧ r ≤ en ∧ i = .int .i64 r ∧ Hid (WrR w wr base S p s g M c sv L1 a bs O W r j)) (fun i _ => m - (intOf i).toNat)
        case atStart => exact ⟨q, Nat.le_refl _, Nat.le_of_lt hqe, rfl, H⟩
        case round =>
          clear H
          obtain ⟨r, hqr, hre, rfl, H⟩ := hrel
          by_cases hr : r < en
          · have hrd := HDV.out r hqr hr
            have t1 : ((a : Int) + (r : Int)).tdiv 64 = (x : Int) := by rw [Int.tdiv_eq_ediv_of_nonneg (by omega)]; omega
            have t2 : ((a : Int) + (r : Int)) / 64 = (x : Int) := by omega
            have t3 : (r : Int) < (m : Int) := by omega
            have t4 : IntKind.i64.wrap ((a : Int) + (r : Int)) = (a : Int) + (r : Int) := by rw [IntKind.wrap_i64]; omega
            have t5 : 0 ≤ (a : Int) + (r : Int) := by omega
            have t6 : (a : Int) + (r : Int) < (M : Int) := by omega
            have t7 : ((a : Int) + (r : Int)).toNat = a + r := by omega
            have t8 : a + r < M := by omega
            have t9 : r < m := by omega
            have hrb := HRB.out wr H.out.chg
            obtain ⟨b, off, rfl, hbB, hc⟩ := hrb.plain (by omega)
            obtain ⟨y, hy⟩ : ∃ y, y = nz bs r := ⟨_, rfl⟩
            have cb : wr.cell? ⟨b, off + r, none⟩ = some (.int .u8 y) := by rw [hy]; exact hc r (by omega)
            obtain ⟨cn, cM, ⟨u, cu⟩, fu⟩ := H.out.cells HML.out HMX.out (a + r) t8
            have HN := Lib.hid (H.out.byte (by rw [HML.out]; exact HMX.out) (by rw [HBM.out]; exact t9))
            rw [← hy] at HN
            clear hrb hc hy hrd
            go_wp2
            go_region
            all_goals
              go_wp2
              go_roundw
              case rel => exact ⟨r + 1, by omega, by omega, by go_num, Lib.hid HN.out.drew⟩
              case measure => simp [intOf]; omega
          · obtain rfl : r = en := by omega
            obtain ⟨⟨Sk, ov, xs2, hrf, hgr⟩, hchg⟩ := H.out
            obtain ⟨Ao, co, rfl, ho1, ho2⟩ := own_form hrf.pend
            obtain ⟨u0, -, u2, -⟩ := hrf.cells3 (Below.refl _ _)
            obtain ⟨n, hn⟩ : ∃ n, n = (O ++ W.take j).length := ⟨_, rfl⟩
            have hn6 : n ≤ 1000000 := by rw [hn, List.length_append, List.length_take]; omega
            have s2 : n + 1 ≤ maxLen := by unfold maxLen; omega
            have s3 : (n + 1) * 40 ≤ 140737488355328 := by omega
            have hnr := hrf.nowR (show M = _ by show M = (wrL L1 a (bs.take r)).length; rw [wrL_length (by rw [List.length_take, HML.out]; have := HMX.out; have := HBM.out; omega)]; exact HML.out.symm)
            have AT := Lib.hid (rat_any (some ⟨g, 0, none⟩) M c x (wrL L1 a (bs.take r)) wr.heap.size wr.drew hnr.1.drew (Nat.le_refl _) hnr.2.1 hnr.2.2 (by omega))
            have HRF := Lib.hid hrf
            rw [show (⟨wrL L1 a (bs.take r), s.safe, O ++ W.take j⟩ : FS).ops.length = n from hn.symm] at u2 HRF
            have HN := Lib.hid hn
            have HGR := Lib.hid hgr
            have HCH := Lib.hid hchg
            rw [HSC.out] at AT
            clear hrf hgr hchg hnr hn ho1 H
            by_cases hrm : r < m
            · have hd2 := HDV2.out hrm
              have t3 : (r : Int) < (m : Int) := by omega
              have t1 : (((a : Int) + (r : Int)).tdiv 64 == (x : Int)) = false := by rw [Int.tdiv_eq_ediv_of_nonneg (by omega)]; simp; omega
              have t2 : (((a : Int) + (r : Int)) / 64 == (x : Int)) = false := by simp; omega
              clear hd2
              go_wp2
              go_region_law ((first
                | (go_simp; go_at_call 33; refine AT.out.mono ?_; rintro e w2 ⟨gd, hgd, rfl, hbd, hw2⟩; rw [secL_length]; have hwb := below_drew0 (w := wr) hw2; obtain ⟨z0, -, z2, zf0, -, zf2⟩ := HRF.out.cells3 hwb; have H2 := Lib.hid (HRF.out.below hwb); have za : ∀ o, (w2.alloc o).cell? ⟨p, 2, none⟩ = some (.slice Ao n co) := fun o => (H2.out.cells3 ((Below.refl _ _).alloc (Nat.le_refl _) o)).2.2.1)
                | (go_loud (refine step_append_any _ rfl _ _ _ rfl base 66 i0 _ 3 40 Try.underlying27 hi hz0 hz1 hz2 rfl (Nat.zero_lt_succ 2) (.slice Ao n co) n xs2 rfl ((H2.out.pend_ HN.out).alloc _) _ _ 1 1 [.bool false, .int .i64 x, .slice (some ⟨gd, 0, none⟩) 64 64] rfl (newAt _ _ _ 3 _ rfl (by simp)) (op_one _ _ _ _ _) s2 s3 (by have := H2.out.bas; simp at this ⊢; omega) ?_; intro v4 w4 hown4 hg4 hat4; obtain ⟨A4, c4, rfl, -, -⟩ := own_form hown4; obtain ⟨y2, yf2⟩ := H2.out.pcells hg4; have HP := Lib.hid (WrR.sector (o := ⟨false, x, secL L x⟩) HRF.out HGR.out HCH.out HWJ.out hwb hgd hbd (secL_length _ _) (by decide) HN.out hg4 hown4 (by simpa using hat4)); clear hown4 hg4 hat4))))
              all_goals
                go_wp2
                go_roundw
                case rel => exact ⟨j + 1, r, by omega, Lib.hid HEN.out, by omega, rfl, Lib.hid HP.out⟩
                case measure => simp [intOf]; omega
            · have t3 : ¬ (r : Int) < (m : Int) := by omega
              go_wp2
              go_region_law ((first
                | (go_simp; go_at_call 33; refine AT.out.mono ?_; rintro e w2 ⟨gd, hgd, rfl, hbd, hw2⟩; rw [secL_length]; have hwb := below_drew0 (w := wr) hw2; obtain ⟨z0, -, z2, zf0, -, zf2⟩ := HRF.out.cells3 hwb; have H2 := Lib.hid (HRF.out.below hwb); have za : ∀ o, (w2.alloc o).cell? ⟨p, 2, none⟩ = some (.slice Ao n co) := fun o => (H2.out.cells3 ((Below.refl _ _).alloc (Nat.le_refl _) o)).2.2.1)
                | (go_loud (refine step_append_any _ rfl _ _ _ rfl base 66 i0 _ 3 40 Try.underlying27 hi hz0 hz1 hz2 rfl (Nat.zero_lt_succ 2) (.slice Ao n co) n xs2 rfl ((H2.out.pend_ HN.out).alloc _) _ _ 1 1 [.bool false, .int .i64 x, .slice (some ⟨gd, 0, none⟩) 64 64] rfl (newAt _ _ _ 3 _ rfl (by simp)) (op_one _ _ _ _ _) s2 s3 (by have := H2.out.bas; simp at this ⊢; omega) ?_; intro v4 w4 hown4 hg4 hat4; obtain ⟨A4, c4, rfl, -, -⟩ := own_form hown4; obtain ⟨y2, yf2⟩ := H2.out.pcells hg4; have HP := Lib.hid (WrR.sector (o := ⟨false, x, secL L x⟩) HRF.out HGR.out HCH.out HWJ.out hwb hgd hbd (secL_length _ _) (by decide) HN.out hg4 hown4 (by simpa using hat4)); clear hown4 hg4 hat4))))
              all_goals
                go_wp2
                go_roundw
                case rel => exact ⟨j + 1, r, by omega, Lib.hid HEN.out, by omega, rfl, Lib.hid HP.out⟩
                case measure => simp [intOf]; omega
      · obtain rfl : q = m := by omega
        have hjK : j = K := by
          rcases Nat.lt_or_ge j K with h | h
          · have := (HLT.out j).1 h; have := hq.out; omega
          · omega
        subst hjK
        have HR := Lib.hid (H.out.done_ (by rw [HBM.out]; exact Nat.le_refl _) (by rw [HWL.out]; exact Nat.le_refl _) HBA.out.1 HBA.out.2)
        clear H hq
        go_wp2
        go_ret
        exact ⟨rfl, HR.out⟩

end Go.Proofs.Ytdpoffedmafmhaa
