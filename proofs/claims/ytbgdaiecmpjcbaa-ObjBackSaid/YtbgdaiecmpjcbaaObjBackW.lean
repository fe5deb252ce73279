/-
  LAYER 9: the walk of ObjBack.
-/
import Derived.Test.YtbgdaiecmpjcbaaObjLaw
import Derived.Test.YtbgdaiecmpjcbaaObjSame2
import Derived.Test.YtbgdaiecmpjcbaaObjDec3
import Derived.Test.YtbgdaiecmpjcbaaObjBackM
import Derived.Test.YtbgdaiecmpjcbaaObjSamesW
import Derived.Deep.RegionHeld3
set_option linter.unusedVariables false
set_option linter.unusedSimpArgs false
set_option maxRecDepth 100000
namespace Go.Proofs.Ytbgdaiecmpjcbaa
open Go.RowKit

set_option maxHeartbeats 4000000 in
theorem back_law (k : Int) (A : Option Addr) (n c : Nat) (ws : List Int) (B : Option Addr) (m d : Nat) (rs : List Int) (C : Option Addr) (p q : Nat) (is : List Int) (f : Int) (E : Option Addr) (en ec : Nat) (es : List Int) (w : World)
    (ha : ObIn w k A n c ws B m d rs C p q is) (hf : (Lit.int .u8 f).wf = true) (he : InInts w .u8 E en ec es) :
    Calls Try.prog 5 #[obV k A n c B m d C p q, .int .u8 f, .slice E en ec] w fun e w' => e = .returned (.bool true) ∧ Below w.heap.size w w' := by
  have bf := bounds_u8 hf
  have b1 := ha.wi.cap
  have b2 := ha.wi.le
  have b3 := ha.ri.cap
  have b4 := ha.ri.le
  have b5 := ha.ii.cap
  have b6 := ha.ii.le
  have b7 := he.cap
  have b8 := he.le
  have LA := Lib.hid (fun w => light_any k A n c B m d C p q w (by omega) (by omega) (by omega))
  have R2 := Lib.hid (fun w => rright_any k A n c B m d C p q w (by omega) (by omega) (by omega))
  obtain ⟨la, hla⟩ : ∃ b, lightN n m p = b := ⟨_, rfl⟩
  obtain ⟨r, hr⟩ : ∃ r, rightN k n m p = r := ⟨_, rfl⟩
  rw [hla] at LA
  rw [hr] at R2
  have hb0 : Below w.heap.size w (w.alloc (.cells #[.int .i64 k, .slice A n c, .slice B m d, .slice C p q] 25)) := (Below.refl _ _).alloc (Nat.le_refl _) _
  have HBA := Lib.hid (fun wx (hx : Below (w.alloc (.cells #[.int .i64 k, .slice A n c, .slice B m d, .slice C p q] 25)).heap.size (w.alloc (.cells #[.int .i64 k, .slice A n c, .slice B m d, .slice C p q] 25)) wx) => (obAt_of hx : ObAt wx w.heap.size k A n c B m d C p q))
  have out : la = false ∨ 200 < en ∨ r = false ∨ (la = true ∧ en ≤ 200 ∧ r = true) := by
    cases la <;> cases r <;> simp <;> omega
  rcases out with rfl | hen | rfl | ⟨rfl, hen, rfl⟩
  · clear ha b1 b2 b3 b4 b5 b6 b7 b8 hla hr hf he R2
    go_enter Try.func5, Try.ntmps5
    go_wp2_with (first
      | (go_at_call 7; refine (LA.out _).mono ?_; rintro e w1 ⟨rfl, hb1⟩)
      | (go_at_call 8; refine (awake_any _).mono ?_; rintro e w5 ⟨rfl, hb5⟩))
    go_ret
    exact ⟨rfl, (hb0.trans (hb1.mono hb0.size)).trans (hb5.mono (hb0.trans (hb1.mono hb0.size)).size)⟩
  · have t1 : (200 : Int) < (en : Int) := by omega
    clear ha b1 b2 b3 b4 b5 b6 b7 b8 hla hr hf he hen
    cases la
    all_goals
      go_enter Try.func5, Try.ntmps5
      go_wp2_with (first
        | (go_at_call 7; refine (LA.out _).mono ?_; rintro e w1 ⟨rfl, hb1⟩)
        | (go_at_call 8; refine (awake_any _).mono ?_; rintro e w5 ⟨rfl, hb5⟩))
      go_ret
      exact ⟨rfl, (hb0.trans (hb1.mono hb0.size)).trans (hb5.mono (hb0.trans (hb1.mono hb0.size)).size)⟩
  · clear ha b1 b2 b3 b4 b5 b6 hla hr hf he
    by_cases hen : 200 < en
    · have t1 : (200 : Int) < (en : Int) := by omega
      cases la
      all_goals
        go_enter Try.func5, Try.ntmps5
        go_wp2_with (first
          | (go_at_call 7; refine (LA.out _).mono ?_; rintro e w1 ⟨rfl, hb1⟩)
          | (go_at_call 8; refine (awake_any _).mono ?_; rintro e w5 ⟨rfl, hb5⟩))
        go_ret
        exact ⟨rfl, (hb0.trans (hb1.mono hb0.size)).trans (hb5.mono (hb0.trans (hb1.mono hb0.size)).size)⟩
    · have t1 : ¬ (200 : Int) < (en : Int) := by omega
      cases la
      · go_enter Try.func5, Try.ntmps5
        go_wp2_with (first
          | (go_at_call 7; refine (LA.out _).mono ?_; rintro e w1 ⟨rfl, hb1⟩)
          | (go_at_call 8; refine (awake_any _).mono ?_; rintro e w5 ⟨rfl, hb5⟩))
        go_ret
        exact ⟨rfl, (hb0.trans (hb1.mono hb0.size)).trans (hb5.mono (hb0.trans (hb1.mono hb0.size)).size)⟩
      · go_enter Try.func5, Try.ntmps5
        go_wp2_with (first
          | (go_at_call 7; refine (LA.out _).mono ?_; rintro e w1 ⟨rfl, hb1⟩; obtain ⟨x0, x1, x2, x3⟩ := HBA.out _ hb1; have hb2 := hb0.trans (hb1.mono hb0.size); clear hb1)
          | (go_at_call 14; refine (R2.out _).mono ?_; rintro e w1 ⟨rfl, hb1⟩; have hb3 := hb2.trans (hb1.mono hb2.size); clear hb1)
          | (go_at_call 8; refine (awake_any _).mono ?_; rintro e w5 ⟨rfl, hb5⟩))
        go_ret
        exact ⟨rfl, hb3.trans (hb5.mono hb3.size)⟩
  · have l1 := lightN_len hla
    have hby := ha.bytes
    have hwd := ha.words
    have e1 := ha.wi.reads.len
    have e2 := ha.ri.reads.len
    have e3 := ha.ii.reads.len
    have heb : AreB es := fun z hz => wf_u8_bd (he.wf z hz)
    obtain ⟨k1, k4⟩ := rightN_kind hr
    obtain ⟨kn, rfl⟩ := Int.eq_ofNat_of_zero_le (show 0 ≤ k by omega)
    obtain ⟨K, hK⟩ : ∃ K : Nat, 8 * f = (K : Int) := ⟨(8 * f).toNat, by omega⟩
    have hK2 : K ≤ 2040 := by omega
    obtain ⟨i0, hi, hz0, hz1, hz2⟩ := info_parts byteInfo
    obtain ⟨zs, hzs⟩ : ∃ zs, zs = List.replicate K 0 ++ encO kn ws rs is ++ es := ⟨_, rfl⟩
    obtain ⟨s, DA, DB, DL, D1, D2, D3⟩ := dec_back (K := K) (k := kn) (es := es) (by omega) (by rw [e1, e2, e3]; exact hr) hwd.1 hwd.2 zs hzs
    have hxe : encR kn ws rs is = encO kn ws rs is := by unfold encR; rw [e1, e2, e3, hr]; rfl
    have HXB : AreB (encO kn ws rs is) := encO_bytes hby
    have hzb : AreB zs := by rw [hzs]; exact ((AreB.zeros _).append HXB).append heb
    have HA := Lib.hid (fun wx (hx : Below w.heap.size w wx) => ha.reads.below hx (Nat.le_refl _))
    have HE := Lib.hid (fun wx (hx : Below w.heap.size w wx) => he.reads.below hx)
    have EN := Lib.hid (fun wx (hx : Below w.heap.size w wx) => oenc_any kn A n c ws B m d rs C p q is wx (HA.out wx hx) hx.size)
    rw [hxe] at EN
    obtain ⟨N, hN⟩ : ∃ N, (encO kn ws rs is).length = N := ⟨_, rfl⟩
    have hN2 : N ≤ 100000 := by rw [← hN]; unfold encO; rw [List.length_append, List.length_replicate, headO_length, padn_eight]; omega
    have HNN := Lib.hid hN
    rw [hN] at DL
    generalize encO kn ws rs is = x at *
    have hlz : zs.length = K + N + en := by rw [hzs, List.length_append, List.length_append, List.length_replicate, hN, he.reads.len]
    have DD := Lib.hid (fun wx (b : Option Addr) (cc L : Nat) (hr : Reads wx L 1 b (K + N + en) (cellsOf .u8 zs)) (hL : L ≤ wx.heap.size) (h1 : K + N + en ≤ cc) (h2 : cc ≤ 9223372036854775807) => odec_yes b (K + N + en) cc K kn s zs wx hr hL hzb h1 h2 (by omega) DA DB)
    rw [D1, D2, D3, DL] at DD
    obtain ⟨T, hT⟩ : ∃ T, K + N + en = T := ⟨_, rfl⟩
    obtain ⟨Q, hQ⟩ : ∃ Q, K + N = Q := ⟨_, rfl⟩
    have HT : Hid (K + N + en = T ∧ K + N = Q) := ⟨hT, hQ⟩
    rw [hT, hQ] at DD
    have hq1 : (T : Int) - (en : Int) = (Q : Int) := by omega
    have hT2 : T ≤ 1000000 := by omega
    have hQ2 : Q ≤ 1000000 := by omega
    have hT3 : en ≤ T := by omega
    have hw1 : IntKind.i64.wrap (Q : Int) = (Q : Int) := by rw [IntKind.wrap_i64]; omega
    clear hT hQ
    have SM := Lib.hid (fun wx (A1 A2 A3 : Option Addr) (n1 c1 n2 c2 n3 c3 L : Nat) (h1 : ObR wx L A1 n1 c1 ws A2 n2 c2 rs A3 n3 c3 is) (h2 : ObR wx L A n c ws B m d rs C p q is) (hL : L ≤ wx.heap.size) => osame_any kn kn A1 A n1 n c1 c ws ws A2 B n2 m c2 d rs rs A3 C n3 p c3 q is is wx h1 h2 hL hby hby (by have g1 := h1.wr.len; have g2 := h1.ir.len; omega))
    rw [sameO_self] at SM
    obtain ⟨Zc, hZc⟩ : ∃ Zc, madeCells (Value.int IntKind.u8 0).cells (K * 1) = Zc := ⟨_, rfl⟩
    have hZl : Zc.toList = cellsOf .u8 (List.replicate K 0) := by
      rw [← hZc, Nat.mul_one]
      show (madeCells #[Value.int IntKind.u8 0] K).toList = _
      rw [toList_madeCells_one]; simp [cellsOf]
    have hZs : Zc.size = K * 1 := by
      have h := congrArg List.length hZl
      rw [cellsOf_length, List.length_replicate, Array.length_toList] at h
      omega
    have hmk : ∀ W : World, (Instr.makeSlice 23 (.int .i64 (K : Int)) (.int .i64 (K : Int))).run Try.prog W = .ok (.slice (some ⟨W.heap.size, 0, none⟩) K K) (W.alloc (.cells Zc 5)) := fun W => by
      have h := run_make (P := Try.prog) W 23 5 i0 (.int .u8 0) Try.underlying23 hi hz0 .i64 .i64 (K : Int) (K : Int) (by omega) (Int.le_refl _) (by rw [hz2]; omega) (by omega)
      rw [Int.toNat_natCast, hz1, hZc] at h
      exact h
    have MADE := Lib.hid (fun (W : World) (hW : w.heap.size + 1 ≤ W.heap.size) => (World.ownsRow_lit (base := w.heap.size + 1) (e := 5) (size := 1) W Zc K hW (by unfold maxLen; omega) hZs : (W.alloc (.cells Zc 5)).ownsRow (w.heap.size + 1) 5 1 (.slice (some ⟨W.heap.size, 0, none⟩) K K) K Zc.toList))
    rw [hZl] at MADE
    have t1 : ¬ (200 : Int) < (en : Int) := by omega
    have hwf : IntKind.i64.wrap f = f := by rw [IntKind.wrap_i64]; omega
    have HB0 := Lib.hid hb0
    have hsw : (w.alloc (.cells #[.int .i64 kn, .slice A n c, .slice B m d, .slice C p q] 25)).heap.size = w.heap.size + 1 := by simp
    have HSW := Lib.hid hsw
    have HEB := Lib.hid (And.intro b8 b7)
    have HZS := Lib.hid hzs
    have s2 : K + N ≤ maxLen := by unfold maxLen; omega
    have s3 : (K + N) * 1 ≤ 140737488355328 := by omega
    have s4 : K + N + en ≤ maxLen := by unfold maxLen; omega
    have s5 : (K + N + en) * 1 ≤ 140737488355328 := by omega
    clear ha b1 b2 b3 b4 b5 b6 b7 b8 hla hb0 hf l1 hby hwd e1 e2 e3 heb k1 k4 DA DB DL D1 D2 D3 hxe hN hlz hzb hsw hZl hZs hZc hzs he hr HXB
    go_enter Try.func5, Try.ntmps5
    go_wp2_with (first
      | (go_at_call 7; refine (LA.out _).mono ?_; rintro e w1 ⟨rfl, hb1⟩; obtain ⟨x0, x1, x2, x3⟩ := HBA.out _ hb1; have hb2 := hb1; clear hb1)
      | (go_at_call 14; refine (R2.out _).mono ?_; rintro e w1 ⟨rfl, hb1⟩; have hb3 := hb2.trans (hb1.mono hb2.size); clear hb1))
    have hb := below_drewn hb3 1
    clear hb2 hb3 x0 x1 x2 x3
    have HK := Lib.hid (HBA.out _ hb)
    have hbS := hb
    have ma : True := trivial
    go_region_held3 (fun w' => ObAt w' w.heap.size kn A n c B m d C p q)
      (first | assumption | exact HK.out | exact HBA.out _ hb | exact HBA.out _ (hb.alloc hb.size _))
      (first
        | (go_at_call 10; refine (to_any _ _ _ _ _ _ _ _ _ _ _).mono ?_; rintro e wx ⟨rfl, hqt⟩; have hb := (by first | exact hb.trans (hqt.mono hb.size) | exact (hb.alloc hb.size _).trans (hqt.mono (hb.alloc hb.size _).size)); have hbT := hb)
        | (go_at_call 9; refine (EN.out _ (by first | exact HB0.out.trans (hb.mono HB0.out.size) | exact (HB0.out.trans (hb.mono HB0.out.size)).alloc (HB0.out.trans (hb.mono HB0.out.size)).size _)).mono ?_; rintro e wx ⟨A1, N1, c1, rfl, hN1, ho1, hqe, -, -⟩; have hb := (by first | exact hb.trans (hqe.mono hb.size) | exact (hb.alloc hb.size _).trans (hqe.mono (hb.alloc hb.size _).size)); have hr1 := Reads.of_own ho1; rw [HNN.out] at hN1; replace hN1 := hN1.symm; subst hN1; clear ho1)
        | (clear ma; have OW := own_below (own_below (w := (w1.alloc (.cells Zc 5)).drew) (MADE.out w1 (by have h := hbS.size; rw [HSW.out] at h; exact h)) hqt) hqe; have hbC := hb; refine step_append_any _ rfl _ _ _ rfl (w.heap.size + 1) 5 i0 (.int .u8 0) 1 1 Try.underlying23 hi hz0 hz1 hz2 rfl (Nat.lt_succ_self 0) _ K (cellsOf .u8 (List.replicate K 0)) rfl OW _ A1 N c1 (cellsOf .u8 x) rfl hr1 (cellsOf_one _ _) s2 s3 (by have h := hbC.size; rw [HSW.out] at h; exact h) ?_; intro v3 w3 ho3 hg3 hat3; obtain ⟨A3, c3, rfl, -, -⟩ := own_form ho3; have hb := own_grown hbC OW (Nat.le_of_eq HSW.out) hbC.size hg3; have HO3 := Lib.hid ho3; clear hat3 hg3 ho3 OW hbC)
        | (clear ma; have OW := own_below (MADE.out _ (by have h := hbT.size; rw [HSW.out] at h; exact h)) hqe; have hbC := hb; refine step_append_any _ rfl _ _ _ rfl (w.heap.size + 1) 5 i0 (.int .u8 0) 1 1 Try.underlying23 hi hz0 hz1 hz2 rfl (Nat.lt_succ_self 0) _ K (cellsOf .u8 (List.replicate K 0)) rfl OW _ A1 N c1 (cellsOf .u8 x) rfl hr1 (cellsOf_one _ _) s2 s3 (by have h := hbC.size; rw [HSW.out] at h; exact h) ?_; intro v3 w3 ho3 hg3 hat3; obtain ⟨A3, c3, rfl, -, -⟩ := own_form ho3; have hb := own_grown hbC OW (Nat.le_of_eq HSW.out) hbC.size hg3; have HO3 := Lib.hid ho3; clear hat3 hg3 ho3 OW hbC)
        | (clear ma; have OW := MADE.out _ (by have h := hb.size; rw [HSW.out] at h; exact h); have hbC := hb.alloc hb.size (.cells Zc 5); refine step_append_any _ rfl _ _ _ rfl (w.heap.size + 1) 5 i0 (.int .u8 0) 1 1 Try.underlying23 hi hz0 hz1 hz2 rfl (Nat.lt_succ_self 0) _ K (cellsOf .u8 (List.replicate K 0)) rfl OW _ A1 N c1 (cellsOf .u8 x) rfl (hr1.alloc (Nat.le_refl _) _) (cellsOf_one _ _) s2 s3 (by have h := hbC.size; rw [HSW.out] at h; exact h) ?_; intro v3 w3 ho3 hg3 hat3; obtain ⟨A3, c3, rfl, -, -⟩ := own_form ho3; have hb := own_grown hbC OW (Nat.le_of_eq HSW.out) hbC.size hg3; have HO3 := Lib.hid ho3; clear hat3 hg3 ho3 OW hbC)
        | (refine step_append_any _ rfl _ _ _ rfl (w.heap.size + 1) 5 i0 (.int .u8 0) 1 1 Try.underlying23 hi hz0 hz1 hz2 rfl (Nat.lt_succ_self 0) (.slice A3 (K + N) c3) (K + N) (cellsOf .u8 (List.replicate K 0) ++ cellsOf .u8 x) rfl HO3.out w.heap.size E en ec (cellsOf .u8 es) rfl (HE.out _ (HB0.out.trans (hb.mono HB0.out.size))) (cellsOf_one _ _) s4 s5 (by have h := hb.size; rw [HSW.out] at h; exact h) ?_; intro v4 w4 ho4 hg4 hat4; obtain ⟨A4, c4, rfl, hc41, hc42⟩ := own_form ho4; have hb := own_grown hb HO3.out (Nat.le_of_eq HSW.out) hb.size hg4; rw [← cellsOf_append, ← cellsOf_append, ← HZS.out] at ho4; have HO4 := Lib.hid ho4; have HC4 := Lib.hid (And.intro hc41 hc42); clear hat4 hg4 ho4 hc41 hc42))
    all_goals
      clear hbS hmk
      rw [HT.out.1] at HO4 HC4 ⊢
      have HBQ := Lib.hid hb
      clear hb
      go_wp2_with (go_at_call 21; refine (DD.out w4 A4 c4 w4.heap.size (Reads.of_own HO4.out) (Nat.le_refl _) HC4.out.1 (by have h := HC4.out.2; unfold maxLen at h; omega)).mono ?_; rintro e w5 ⟨A1', n1, c1', A2', n2, c2', A3', n3, c3', rfl, hb5, ho5⟩)
      have hBA : Hid (∀ wx, Below (w5.alloc (.cells #[.int .i64 kn, .slice A1' n1 c1', .slice A2' n2 c2', .slice A3' n3 c3'] 30)).heap.size (w5.alloc (.cells #[.int .i64 kn, .slice A1' n1 c1', .slice A2' n2 c2', .slice A3' n3 c3'] 30)) wx →
          (ObAt wx w5.heap.size kn A1' n1 c1' A2' n2 c2' A3' n3 c3' ∧ ObAt wx w.heap.size kn A n c B m d C p q) ∧ ObR wx w5.heap.size A1' n1 c1' ws A2' n2 c2' rs A3' n3 c3' is ∧ ObR wx w5.heap.size A n c ws B m d rs C p q is ∧ Below w.heap.size w wx ∧ w5.heap.size ≤ wx.heap.size) := fun wx hx => by
        have q3 : Below w5.heap.size w5 (w5.alloc (.cells #[.int .i64 kn, .slice A1' n1 c1', .slice A2' n2 c2', .slice A3' n3 c3'] 30)) := (Below.refl _ _).alloc (Nat.le_refl _) _
        have q4 := q3.trans (hx.mono q3.size)
        have q5 := HBQ.out.trans (hb5.mono HBQ.out.size)
        have q6 := q5.trans (q4.mono q5.size)
        have q7 := HB0.out.trans (q6.mono HB0.out.size)
        have q8 := HB0.out.trans (q5.mono HB0.out.size)
        exact ⟨⟨obAt_of hx, HBA.out _ q6⟩, ho5.reads.below q4 (Nat.le_refl _), (HA.out _ q7).more q8.size, q7, q4.size⟩
      clear ho5 hb5
      have hb : Below (w5.alloc (.cells #[.int .i64 kn, .slice A1' n1 c1', .slice A2' n2 c2', .slice A3' n3 c3'] 30)).heap.size (w5.alloc (.cells #[.int .i64 kn, .slice A1' n1 c1', .slice A2' n2 c2', .slice A3' n3 c3'] 30)) (w5.alloc (.cells #[.int .i64 kn, .slice A1' n1 c1', .slice A2' n2 c2', .slice A3' n3 c3'] 30)).drew := below_drewn (Below.refl _ _) 1
      have HK2 := Lib.hid (hBA.out _ hb).1
      go_region_held3 (fun w' => ObAt w' w5.heap.size kn A1' n1 c1' A2' n2 c2' A3' n3 c3' ∧ ObAt w' w.heap.size kn A n c B m d C p q)
        (first | assumption | exact HK2.out | exact (hBA.out _ hb).1)
        (first
          | (go_at_call 10; refine (to_any _ _ _ _ _ _ _ _ _ _ _).mono ?_; rintro e wx ⟨rfl, hbx⟩; have hb := hb.trans (hbx.mono hb.size); clear hbx)
          | (go_at_call 25; (have F1 := hBA.out _ hb); refine (SM.out _ A1' A2' A3' n1 c1' n2 c2' n3 c3' w5.heap.size F1.2.1 F1.2.2.1 F1.2.2.2.2).mono ?_; rintro e wx ⟨rfl, hbx⟩; have hb := hb.trans (hbx.mono hb.size); clear hbx F1)
          | (go_at_call 8; refine (awake_any _).mono ?_; rintro e wx ⟨rfl, hbx⟩; have hb := hb.trans (hbx.mono hb.size); clear hbx))
      go_wp2
      go_ret
      exact ⟨rfl, (hBA.out _ hb).2.2.2.1⟩

end Go.Proofs.Ytbgdaiecmpjcbaa
