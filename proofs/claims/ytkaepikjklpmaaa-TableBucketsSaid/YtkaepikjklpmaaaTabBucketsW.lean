/-
  LAYER 13: TableBuckets, walked.
-/
import Derived.Test.YtkaepikjklpmaaaTabBk
set_option linter.unusedVariables false
set_option maxRecDepth 100000
set_option linter.unusedSimpArgs false
namespace Go.Proofs.Ytkaepikjklpmaaa
open Go.RowKit

/-- All rows are of data. -/
def AllD (l : List TRow) : Prop := ∀ r ∈ l, r.k = 1

set_option maxHeartbeats 24000000 in
theorem buckets_law (key da : Int) (A : Option Addr) (len cap : Nat) (l : List TX) (w : World) (h1 : (Lit.int .u64 key).wf = true) (h2 : (Lit.int .u8 da).wf = true) (hin : InTX w A len cap l) :
    Calls Try.prog 4 #[.int .u64 key, .int .u8 da, .slice A len cap] w fun e w' => e = .returned (.bool true) ∧ Below w.heap.size w w' := by
  have hkU : IsU key := wf_u64_bd h1
  have bd := wf_u8_bd h2
  have AW := Lib.hid awake_any
  have FR := Lib.hid (fun w1 (hb : w.heap.size ≤ w1.heap.size) => tfresh_any (base := w.heap.size) key da 0 1048576 w1 hkU (by omega) (by omega) hb (by omega))
  have hr1 : Int.tmod da 6 = da % 6 := Int.tmod_eq_emod_of_nonneg bd.1
  obtain ⟨x, hx⟩ : ∃ x, da % 6 = x := ⟨_, rfl⟩
  rw [hx] at hr1 FR
  have hx2 : 0 ≤ x ∧ x < 6 := by omega
  obtain ⟨D, hD⟩ : ∃ D : Nat, 1 + x = (D : Int) := ⟨(1 + x).toNat, by omega⟩
  have hD2 : 1 ≤ D ∧ D ≤ 6 := by omega
  have e1 : IntKind.u8.wrap x = x := by rw [IntKind.wrap_u8]; omega
  have e2 : IntKind.u8.wrap (1 + x) = (D : Int) := by rw [IntKind.wrap_u8]; omega
  have e3 : IntKind.u64.wrap (D : Int) = (D : Int) := by rw [IntKind.wrap_u64]; omega
  rw [hD] at FR
  have HI := Lib.hid hin
  have HKU := Lib.hid hkU
  have hlc := hin.le
  have hcc := hin.cap
  have HDX := Lib.hid hD
  clear hin hx bd hD
  go_enter Try.func4, Try.ntmps4
  go_wp2_with (first
    | (go_at_call 6; refine (AW.out _).mono ?_; rintro e w1 ⟨rfl, hb1⟩)
    | (go_at_call 7; refine (FR.out _ hb1.size).mono ?_; rintro e w2 ⟨p, rfl, hb2, T2⟩; have HM0 := Lib.hid (Mid.nil_ (w0 := w) T2 (hb1.trans (hb2.mono hb1.size))); clear T2))
  clear FR hb1 hb2
  go_loopw [8, 9] (fun v z wr => ∃ (y : Nat) (S : Nat → Prop) (rs : List TRow) (tl cnt : Nat), y ≤ len ∧ y ≤ 40 ∧ z = .int .i64 y ∧ cnt ≤ y ∧ Hid (Mid w wr S p key D (1 + 0 % 6) 1048576 rs tl cnt v rs ∧ AllD rs)) (fun _ z _ => len - (intOf z).toNat)
  case atStart => exact ⟨0, _, [], _, 0, Nat.zero_le _, Nat.zero_le _, rfl, Nat.le_refl _, Lib.hid ⟨HM0.out, fun r h => (by cases h)⟩⟩
  case round =>
    clear HM0
    obtain ⟨y, S, rs, tl, cnt, hy, hy40, rfl, hcnt, H⟩ := hrel
    by_cases hlt : y < len ∧ y < 40
    · obtain ⟨hlt, h40⟩ := hlt
      have u1 : (y : Int) < (len : Int) := by omega
      have u2 : (y : Int) < 40 := by omega
      obtain ⟨b, off, ⟨af, sx⟩, rfl, hbB, -, hsm, c0, c1⟩ := HI.out.at_ H.out.1.bel hlt
      dsimp only at hsm c0 c1
      have LG := Lib.hid (light_any af sx wr)
      have HC : Hid (∀ wx, Below w.heap.size w wx → wx.cell? ⟨b, off + y * 2, none⟩ = some (.bool af) ∧ wx.cell? ⟨b, off + y * 2 + 1, none⟩ = some (.string sx)) := Lib.hid (fun wx hx => by
        have e : ∀ o, wx.cell? ⟨b, o, none⟩ = wr.cell? ⟨b, o, none⟩ := fun o => (hx.cell (p := ⟨b, o, none⟩) hbB).trans (H.out.1.bel.cell (p := ⟨b, o, none⟩) hbB).symm
        exact ⟨(e _).trans c0, (e _).trans c1⟩)
      have HB : Hid (∀ wx, Below wr.heap.size wr wx → Below w.heap.size w wx) := Lib.hid (fun wx hx => H.out.1.bel.trans (hx.mono H.out.1.bel.size))
      cases hlb : lightB af sx.size with
      | false =>
        rw [hlb] at LG
        clear hlb
        go_wp2_with (first
          | (go_at_call 8; refine LG.out.mono ?_; rintro e w6 ⟨rfl, hb6⟩)
          | (go_at_call 6; refine (AW.out _).mono ?_; rintro e w7 ⟨rfl, hb7⟩; have hb8 := hb6.trans (hb7.mono hb6.size)))
        go_ret
        exact ⟨rfl, HB.out _ hb8⟩
      | true =>
        cases af with
        | true =>
          rw [hlb] at LG
          clear hlb
          go_wp2_with (first
            | (go_at_call 8; refine LG.out.mono ?_; rintro e w6 ⟨rfl, hb6⟩; obtain ⟨q0, q1⟩ := HC.out _ (HB.out _ hb6))
            | (go_at_call 6; refine (AW.out _).mono ?_; rintro e w7 ⟨rfl, hb7⟩; have hb8 := hb6.trans (hb7.mono hb6.size)))
          go_ret
          exact ⟨rfl, HB.out _ hb8⟩
        | false =>
          rw [hlb] at LG
          obtain ⟨hr, h300⟩ := light_right hlb
          have TL := Lib.hid (fun wx (hx : Below wr.heap.size wr wx) => (H.out.1.below hx).ts.tail)
          have hcv := conv_text sx
          have R := H.out.1.round (by omega) 1 (.inl rfl) (nums sx) (nums_bytes sx) (by rw [nums_length]; exact hr) (by rw [nums_length]; omega)
          clear hlb hr
          rcases R with ⟨at_, fr, l', hat, OK⟩ | ⟨RAf, TAf⟩
          · have RA := Lib.hid OK.ra
            rw [str_nums] at RA
            have TA := Lib.hid OK.ta
            have SUB := Lib.hid OK.sub
            clear OK
            go_wp2_with (go_at_call 8; refine LG.out.mono ?_; rintro e w6 ⟨rfl, hb6⟩; obtain ⟨q0, q1⟩ := HC.out _ (HB.out _ hb6))
            have hb : Below wr.heap.size wr w6.drew := below_drewn hb6 1
            clear c0 c1 q0 q1
            go_region_held3 (fun w' => w'.cell? ⟨b, off + y * 2 + 1, none⟩ = some (.string sx))
              (first | assumption | exact (HC.out _ (HB.out _ hb)).2 | exact (HC.out _ hbE).2)
              (first
                | (go_at_call 11; refine (TL.out _ hb).mono ?_; rintro e wx ⟨rfl, rfl⟩)
                | (go_at_call 9; refine (RA.out _ hb).mono ?_; rintro e w5 ⟨v', rfl, hm5, hbE⟩; have HM5 := Lib.hid hm5; clear hm5))
            obtain ⟨q0, q1⟩ := HC.out _ hbE
            go_wp2_with (go_at_call 12; refine (TA.out _ _ _ _ _ (HM5.out.below (textW_below _ _)) (RD.new _ hsm).reads (RD.new _ hsm).le (RD.new _ hsm).cap).mono ?_; rintro e w7 ⟨rfl, ⟨S', tl', cnt', hc', hm7⟩, hbF⟩; have HM7 := Lib.hid hm7; clear hm7)
            go_roundw
            case rel => exact ⟨y + 1, S', l', tl', cnt', by omega, by omega, by go_num, by omega, Lib.hid ⟨HM7.out, fun r hr => (SUB.out r hr).elim (H.out.2 r) id⟩⟩
            case measure => simp [intOf]; omega
          · have RA := Lib.hid RAf
            rw [str_nums] at RA
            have TA := Lib.hid TAf
            clear RAf TAf
            go_wp2_with (go_at_call 8; refine LG.out.mono ?_; rintro e w6 ⟨rfl, hb6⟩; obtain ⟨q0, q1⟩ := HC.out _ (HB.out _ hb6))
            have hb : Below wr.heap.size wr w6.drew := below_drewn hb6 1
            clear c0 c1 q0 q1
            go_region_held3 (fun w' => w'.cell? ⟨b, off + y * 2 + 1, none⟩ = some (.string sx))
              (first | assumption | exact (HC.out _ (HB.out _ hb)).2)
              (first
                | (go_at_call 11; refine (TL.out _ hb).mono ?_; rintro e wx ⟨rfl, rfl⟩)
                | (go_at_call 9; refine (RA.out _ hb).mono ?_; rintro e w5 ⟨rfl, rfl⟩))
            obtain ⟨q0, q1⟩ := HC.out _ (HB.out _ hb)
            go_wp2_with (go_at_call 12; refine (TA.out _ _ _ _ (textW_bel _ hb) (RD.new _ hsm).reads (RD.new _ hsm).le (RD.new _ hsm).cap).mono ?_; rintro e w7 ⟨rfl, hb7⟩; have hb8 := (textW_bel sx hb).trans (hb7.mono (textW_bel sx hb).size))
            go_roundw
            case rel => exact ⟨y + 1, S, rs, tl, cnt, by omega, by omega, by go_num, by omega, Lib.hid ⟨H.out.1.below hb8, H.out.2⟩⟩
            case measure => simp [intOf]; omega
    · have hxx : (¬ (y : Int) < (len : Int)) ∨ ((y : Int) < (len : Int) ∧ ¬ (y : Int) < 40) := by omega
      clear hlt
      obtain ⟨A', c', rfl, -, -, -⟩ := H.out.1.rows.rows
      have hn : rs.length ≤ 100 := by have := H.out.1.sz; omega
      obtain ⟨n, hnn⟩ : ∃ n, rs.length = n := ⟨_, rfl⟩
      rw [hnn] at hn H ⊢
      have HNN := Lib.hid hnn
      have HAD := Lib.hid H.out.2
      have HM := Lib.hid H.out.1
      have hDp : (0 : Int) < (D : Int) := by omega
      have hDne : ¬ (D : Int) = 0 := by omega
      clear hnn H HI
      rcases hxx with u1 | ⟨u1, u2⟩
      all_goals
        go_wp2
        go_loopw [11, 12] (fun mv bv wq => ∃ bk mt : Nat, bk ≤ D ∧ bv = .int .u64 bk ∧ mv = .int .i64 mt ∧ Hid (mt = cntB (gB key D) bk rs) ∧ mt ≤ 100 ∧ Hid (Mid w wq S p key D (1 + 0 % 6) 1048576 rs tl cnt (.slice A' n c') rs)) (fun _ bv _ => D - (intOf bv).toNat)
        case atStart => exact ⟨0, 0, Nat.zero_le _, rfl, rfl, Lib.hid (cntB_zero _ _).symm, by omega, HM⟩
        case round =>
          clear HM
          obtain ⟨bk, mt, hbk, rfl, rfl, hmt, hmt1, H⟩ := hrel
          by_cases hlt : bk < D
          · have u3 : (bk : Int) < (D : Int) := by omega
            have hbU : IsU (bk : Int) := ⟨by omega, by omega⟩
            have LS := listed1 H.out.ts (bk : Int) hbU (by have := HNN.out; omega)
            rw [bktN_small hlt, chain_gB hD2.1 HAD.out bk] at LS
            obtain ⟨P, hP⟩ : ∃ P : TRow → Bool, (fun r => decide (gB key D r = bk)) = P := ⟨_, rfl⟩
            obtain ⟨F, hF⟩ : ∃ F, rs.filter (fun r => decide (gB key D r = bk)) = F := ⟨_, rfl⟩
            rw [hF] at LS
            have hcn : Hid (cntB (gB key D) (bk + 1) rs = mt + F.length) := Lib.hid (by rw [cntB_next, hF, hmt.out])
            have hFl : F.length ≤ 100 := by rw [← hF]; exact Nat.le_trans (List.length_filter_le _ _) (by have := HNN.out; omega)
            have HFP := Lib.hid (And.intro hP hF)
            have LS' := Lib.hid LS
            obtain ⟨m3, hm3⟩ : ∃ m3, F.length = m3 := ⟨_, rfl⟩
            obtain ⟨B3, hB3⟩ : ∃ B3, wr.heap.size = B3 := ⟨_, rfl⟩
            have HM3 := Lib.hid hm3
            rw [hm3] at hcn hFl
            clear LS hF hP hm3
            go_wp2_with (go_at_call 17; refine LS'.out.mono ?_; rintro e w5 ⟨v3, rfl, ho, hb5⟩; obtain ⟨A3, c3, rfl, -, -, -⟩ := ho.rows; rw [HM3.out] at ho; rw [HM3.out]; have HM5 := Lib.hid (H.out.below hb5); have HO5 := Lib.hid ho; clear ho)
            have hb5' : Below w.heap.size w w5 := HM5.out.bel
            go_loopw [11, 13, 15] (fun mv iv kv wq => ∃ i k mt3 : Nat, i ≤ n ∧ k ≤ m3 ∧ mv = .int .i64 mt3 ∧ iv = .int .i64 i ∧ kv = .int .i64 k ∧ Hid (mt3 = mt + k) ∧ mt3 ≤ 200 ∧ Hid ((rs.take i).filter P = F.take k) ∧ Hid (Mid w wq S p key D (1 + 0 % 6) 1048576 rs tl cnt (.slice A' n c') rs) ∧ Hid (OwnR wq B3 (.slice A3 m3 c3) F)) (fun _ _ kv _ => m3 - (intOf kv).toNat)
            case atStart => exact ⟨0, 0, mt, Nat.zero_le _, Nat.zero_le _, rfl, rfl, rfl, Lib.hid rfl, by omega, Lib.hid (by simp), HM5, by rw [← hB3]; exact HO5⟩
            case round =>
              clear HM5 HO5 H
              obtain ⟨i, k, mt3, hi, hk, rfl, rfl, rfl, hmt3, hmt4, hfi, H, HO⟩ := hrel
              by_cases hlt3 : k < m3
              · have u5 : (k : Int) < (m3 : Int) := by omega
                go_wp2
                go_loopw [13] (fun iv wq => ∃ i : Nat, i ≤ n ∧ iv = .int .i64 i ∧ Hid ((rs.take i).filter P = F.take k) ∧ Hid (Mid w wq S p key D (1 + 0 % 6) 1048576 rs tl cnt (.slice A' n c') rs) ∧ Hid (OwnR wq B3 (.slice A3 m3 c3) F)) (fun iv _ => n - (intOf iv).toNat)
                case atStart => exact ⟨i, hi, rfl, hfi, H, HO⟩
                case round =>
                  clear H HO hfi
                  obtain ⟨i, hi, rfl, hfi, H, HO⟩ := hrel
                  have hFP : rs.filter P = F := by rw [← HFP.out.1]; exact HFP.out.2
                  have hmo : i < rs.length := filt_more (P := P) (k := k) (by rw [hFP]; exact hfi.out) (by rw [hFP, HM3.out]; exact hlt3)
                  have hilt : i < n := by rw [← HNN.out]; exact hmo
                  have u6 : (i : Int) < (n : Int) := by omega
                  obtain ⟨b2, off2, r, rfl, hb2, hri, d0, d1, d2⟩ := H.out.rows.rowsR.1.at_ hilt
                  obtain ⟨hrb, hrl, hra, hrk⟩ := H.out.rows.fine r (List.mem_of_getElem? hri)
                  have hrr : rs[i] = r := (List.getElem?_eq_some_iff.1 hri).2
                  have hns := nums_str hrb
                  have hss := strOfNums_size r.raw
                  obtain ⟨hg1, hg2⟩ := gB_eq key hD2.1 r
                  have hPr : P r = decide (gB key D r = bk) := by rw [← HFP.out.1]
                  obtain ⟨g, hg⟩ : ∃ g, gB key D r = g := ⟨_, rfl⟩
                  rw [hg] at hg1 hg2 hPr
                  have hxU := hsh_isU key r.raw
                  obtain ⟨sr, hsr⟩ : ∃ sr, strOfNums r.raw = sr := ⟨_, rfl⟩
                  rw [hsr] at hns hss d1
                  have hsm2 : sr.size ≤ maxLen := by unfold maxLen; omega
                  obtain ⟨hx, hhx⟩ : ∃ hx, hsh key r.raw = hx := ⟨_, rfl⟩
                  rw [hhx] at hg1 hxU
                  have HS : Hid (Calls Try.prog 14 #[.int .u64 key, .slice (some ⟨wr.heap.size, 0, none⟩) sr.size (capS wr sr)] (textW wr sr) fun e w' => e = .returned (.int .u64 hx) ∧ textW wr sr = w') := Lib.hid (by
                    have h := rhash_rd HKU.out (RD.new wr hsm2) (by omega)
                    rw [hns, hhx] at h
                    exact h)
                  have hcv := conv_text sr
                  have ht1 : Int.tmod hx (D : Int) = (g : Int) := by rw [Int.tmod_eq_emod_of_nonneg hxU.1]; exact hg1
                  have ht2 : IntKind.u64.wrap (g : Int) = (g : Int) := by rw [IntKind.wrap_u64]; omega
                  by_cases hgb : g = bk
                  · have t1 : ((g : Int) == (bk : Int)) = true := by simp; omega
                    have t2 : ((g : Int) != (bk : Int)) = false := by simp; omega
                    have hyes := filt_yes (P := P) (k := k) (by rw [hFP]; exact hfi.out) hmo (by rw [hrr, hPr]; exact decide_eq_true hgb) (by rw [hFP, HM3.out]; exact hlt3)
                    rw [hFP, hrr] at hyes
                    obtain ⟨b3, off3, r3, rfl, hb3, hri3, f0, f1, f2⟩ := HO.out.rowsR.1.at_ hlt3
                    have hr3 : r3 = r := by rw [hyes.1] at hri3; injection hri3 with h; exact h.symm
                    rw [hr3, hsr] at f1
                    rw [hr3] at f2
                    have hfi2 : Hid ((rs.take (i + 1)).filter P = F.take (k + 1)) := Lib.hid hyes.2
                    have HBT := Lib.hid (textW_below wr sr)
                    obtain ⟨ra, hraa⟩ : ∃ ra, r.at_ = ra := ⟨_, rfl⟩
                    rw [hraa] at d2 f2
                    have k1 := (HBT.out.cell (p := ⟨b2, off2 + i * 3 + 1, none⟩) hb2).trans d1
                    have k2 := (HBT.out.cell (p := ⟨b2, off2 + i * 3 + 2, none⟩) hb2).trans d2
                    have k3 := (HBT.out.cell (p := ⟨b3, off3 + k * 3 + 1, none⟩) hb3).trans f1
                    have k4 := (HBT.out.cell (p := ⟨b3, off3 + k * 3 + 2, none⟩) hb3).trans f2
                    have t3 : decide ((n : Int) ≤ (i : Int)) = false := decide_eq_false (by omega)
                    have t4 : (sr.toList == sr.toList) = true := by simp
                    have w1 : IntKind.i64.wrap ((mt3 : Int) + 1) = (mt3 : Int) + 1 := wrap_i64_of (by omega) (by omega)
                    clear hyes hri3 hr3 hraa hsr hns hss hhx hg hPr hrr hri hrb hrl hmo hFP hfi hgb hxU hg1 f0 f1 f2
                    go_wp2_with (go_at_call 14; refine HS.out.mono ?_; rintro e w9 ⟨rfl, rfl⟩)
                    go_quiet (fail)
                    go_wp2
                    go_roundw
                    case rel => exact ⟨i + 1, k + 1, mt3 + 1, by omega, by omega, by go_num, by go_num, by go_num, Lib.hid (by have := hmt3.out; omega), by have := hmt3.out; omega, hfi2, Lib.hid (H.out.below (below_drewn HBT.out _)), Lib.hid (HO.out.below (below_drewn HBT.out _))⟩
                    case measure => simp [intOf]; omega
                  · have t1 : ((g : Int) == (bk : Int)) = false := by simp; omega
                    have t2 : ((g : Int) != (bk : Int)) = true := by simp; omega
                    have hfi2 : Hid ((rs.take (i + 1)).filter P = F.take k) := Lib.hid (by
                      have := filt_no (P := P) (k := k) (by rw [hFP]; exact hfi.out) hmo (by rw [hrr, hPr]; exact decide_eq_false hgb)
                      rw [hFP] at this
                      exact this)
                    have HBT := Lib.hid (textW_below wr sr)
                    clear hsr hns hss hhx hg hPr hrr hri hrb hrl hmo hFP hfi hgb hxU hg1
                    go_wp2_with (go_at_call 14; refine HS.out.mono ?_; rintro e w9 ⟨rfl, rfl⟩)
                    go_roundw
                    case rel => exact ⟨i + 1, by omega, by go_num, hfi2, Lib.hid (H.out.below HBT.out), Lib.hid (HO.out.below HBT.out)⟩
                    case measure => simp [intOf]; omega
              · have u5 : ¬ (k : Int) < (m3 : Int) := by omega
                have hke : k = m3 := by omega
                have w1 : IntKind.u64.wrap ((bk : Int) + 1) = (bk : Int) + 1 := by rw [IntKind.wrap_u64]; omega
                have hmm : Hid (mt3 = cntB (gB key D) (bk + 1) rs) := Lib.hid (by rw [hcn.out, hmt3.out, hke])
                have hm100 : mt3 ≤ 100 := by rw [hmm.out]; exact Nat.le_trans (cntB_le _ _ _) (by rw [HNN.out]; exact hn)
                clear hke hfi
                go_wp2
                go_roundw
                case rel => exact ⟨bk + 1, mt3, by omega, by go_num, rfl, hmm, hm100, H⟩
                case measure => simp [intOf]; omega
          · have hbe : bk = D := by omega
            have u3 : ¬ (bk : Int) < (D : Int) := by omega
            have hmn : mt = n := by rw [hmt.out, hbe, cntB_all (fun r _ => (gB_eq key hD2.1 r).2)]; exact HNN.out
            have t1 : ((mt : Int) == (n : Int)) = true := by simp; omega
            have L3 := Lib.hid (listed3 H.out.ts)
            have HBW := Lib.hid (fun (wx : World) (hx : Below wr.heap.size wr wx) => (H.out.bel.trans (hx.mono H.out.bel.size) : Below w.heap.size w wx))
            clear hbe hmn hlt
            go_wp2_with (first
              | (go_at_call 17; refine L3.out.mono ?_; rintro e w5 ⟨A5, c5, rfl, hb5⟩)
              | (go_at_call 6; refine (AW.out _).mono ?_; rintro e w7 ⟨rfl, hb7⟩; have hb8 := hb5.trans (hb7.mono hb5.size)))
            go_ret
            exact ⟨rfl, HBW.out _ hb8⟩

end Go.Proofs.Ytkaepikjklpmaaa
