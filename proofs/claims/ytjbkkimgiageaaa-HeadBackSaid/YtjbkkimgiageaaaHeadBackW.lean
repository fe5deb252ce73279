/-
  LAYER 10: the walk of HeadBack.
-/
import Derived.Test.YtjbkkimgiageaaaHeadLaw
import Derived.Test.YtjbkkimgiageaaaHeadDec
set_option linter.unusedVariables false
set_option linter.unusedSimpArgs false
set_option maxRecDepth 100000
namespace Go.Proofs.Ytjbkkimgiageaaa
open Go.RowKit

set_option maxHeartbeats 4000000 in
theorem back_law (i k d f m : Int) (E : Option Addr) (en ec : Nat) (es : List Int) (w : World)
    (h : (Lit.int .u64 i).wf = true ∧ (Lit.int .u64 k).wf = true ∧ (Lit.int .i64 d).wf = true ∧ (Lit.int .i64 f).wf = true ∧ (Lit.int .u64 m).wf = true) (he : InInts w .u8 E en ec es) :
    Calls Try.prog 5 #[hdV i k d f m, .slice E en ec] w fun e w' => e = .returned (.bool true) ∧ Below w.heap.size w w' := by
  have bi := wf_u64_bd h.1
  have bk := wf_u64_bd h.2.1
  have bm := wf_u64_bd h.2.2.2.2
  have b7 := he.cap
  have b8 := he.le
  have HB0 := Lib.hid (boxed w (.cells #[.int .u64 i, .int .u64 k, .int .i64 d, .int .i64 f, .int .u64 m] 24))
  have HBA := Lib.hid (fun wx (hx : Below (w.alloc (.cells #[.int .u64 i, .int .u64 k, .int .i64 d, .int .i64 f, .int .u64 m] 24)).heap.size (w.alloc (.cells #[.int .u64 i, .int .u64 k, .int .i64 d, .int .i64 f, .int .u64 m] 24)) wx) => (hdAt_of hx : HdAt wx w.heap.size i k d f m))
  have R2 := Lib.hid (rhright_any i k d f m)
  obtain ⟨r, hr⟩ : ∃ r, rightH d f = r := ⟨_, rfl⟩
  rw [hr] at R2
  cases r
  · clear h he bi bk bm hr
    go_enter Try.func5, Try.ntmps5
    go_wp2_with (first
      | (go_at_call 12; refine (R2.out _).mono ?_; rintro e w1 ⟨rfl, hb1⟩; have hb2 := HB0.out.trans (hb1.mono HB0.out.size))
      | (go_at_call 18; refine (awake_any _).mono ?_; rintro e w5 ⟨rfl, hb5⟩))
    go_ret
    exact ⟨rfl, hb2.trans (hb5.mono hb2.size)⟩
  by_cases hen : 300 < en
  · clear h he bi bk bm hr
    go_enter Try.func5, Try.ntmps5
    go_wp2_with (first
      | (go_at_call 12; refine (R2.out _).mono ?_; rintro e w1 ⟨rfl, hb1⟩; have hb2 := HB0.out.trans (hb1.mono HB0.out.size))
      | (go_at_call 18; refine (awake_any _).mono ?_; rintro e w5 ⟨rfl, hb5⟩))
    go_ret
    exact ⟨rfl, hb2.trans (hb5.mono hb2.size)⟩
  have t1 : decide ((300 : Int) < (en : Int)) = false := by simp; omega
  obtain ⟨i0, hi0, hz0, hz1, hz2⟩ := info_parts byteInfo
  have EN := Lib.hid (fun G wx (ht : IsTable wx G) => henc_yes G i k d f m wx hr ht)
  have HE := Lib.hid (fun wx (hx : Below w.heap.size w wx) => he.reads.below hx)
  obtain ⟨I1, w0, w1, w2, w3, w4⟩ := isH_enc bi bk bm hr es
  have D0 : decH (encH i k d f m ++ es) = hdV i k d f m := by unfold decH; rw [if_pos I1, w0, w1, w2, w3, w4]
  have HZB : AreB (encH i k d f m ++ es) := (encH_bytes i k d f m).append (fun z hz => wf_u8_bd (he.wf z hz))
  have DD := Lib.hid (fun G wx (A : Option Addr) (c L : Nat) (hr : Reads wx L 1 A (64 + en) (cellsOf .u8 (encH i k d f m ++ es))) (hL : L ≤ wx.heap.size) (h1 : 64 + en ≤ c) (h2 : c ≤ 9223372036854775807) (ht : IsTable wx G) => hdec_any G A (64 + en) c _ wx hr hL HZB h1 h2 ht)
  rw [D0, I1] at DD
  have HL := Lib.hid (encH_length i k d f m)
  clear w0 w1 w2 w3 w4 I1 D0 HZB h he bi bk bm hr
  generalize encH i k d f m = x at *
  have s2 : 64 + en ≤ maxLen := by unfold maxLen; omega
  have s3 : (64 + en) * 1 ≤ 140737488355328 := by omega
  go_enter Try.func5, Try.ntmps5
  go_wp2_with (first
    | (go_at_call 12; refine (R2.out _).mono ?_; rintro e w1 ⟨rfl, hb1⟩)
    | (go_at_call 6; refine (crcMake_any _).mono ?_; rintro e w2 ⟨rfl, ht2, hb2⟩; have hb3 := hb1.trans (hb2.mono hb1.size); obtain ⟨x0, x1, x2, x3, x4⟩ := HBA.out _ hb3)
    | (go_at_call 7; refine (to_any _ _ _ _ _ _).mono ?_; rintro e w3 ⟨rfl, hb4⟩; have hb5 := hb3.trans (hb4.mono hb3.size); have ht3 := IsTable.below ht2 hb4 ht2.lt)
    | (go_at_call 9; refine (EN.out _ _ ht3).mono ?_; rintro e w4 ⟨A1, N1, c1, rfl, hN1, ho1, hb6, -, -⟩; rw [HL.out] at hN1; subst hN1; have hb7 := hb5.trans (hb6.mono hb5.size); have ht4 := IsTable.below ht3 hb6 ht3.lt; have hbw := HB0.out.trans (hb7.mono HB0.out.size))
    | (at_builtin; refine wpList_append_any _ rfl _ _ _ rfl w3.heap.size 5 i0 (.int .u8 0) 1 1 Try.underlying30 hi0 hz0 hz1 hz2 rfl (Nat.lt_succ_self 0) (.slice A1 64 c1) 64 (cellsOf .u8 x) rfl ho1 w.heap.size E en ec (cellsOf .u8 es) rfl (HE.out _ hbw) (cellsOf_one _ _) s2 s3 hb6.size ?_; intro v5 w5 ho5 hg5 hat5; obtain ⟨A5, c5, rfl, hc51, hc52⟩ := own_form ho5; have hb8 := own_grown hb7 ho1 hb5.size hb7.size hg5; have ht5 := Blk.grown ht4 hg5 (fun he => by have := (ho1.lt _ he.symm).1; have := ht3.lt; omega); rw [← cellsOf_append] at ho5)
    | (go_at_call 19; refine (DD.out _ w5 A5 c5 w5.heap.size (Reads.of_own ho5) (Nat.le_refl _) hc51 (by unfold maxLen at hc52; omega) ht5).mono ?_; rintro e w6 ⟨rfl, hb9⟩; have hb10 := hb8.trans (hb9.mono hb8.size)))
  have hBA : Hid (∀ wx, Below (w6.alloc (.cells #[.int .u64 i, .int .u64 k, .int .i64 d, .int .i64 f, .int .u64 m] 27)).heap.size (w6.alloc (.cells #[.int .u64 i, .int .u64 k, .int .i64 d, .int .i64 f, .int .u64 m] 27)) wx →
      (HdAt wx w.heap.size i k d f m ∧ HdAt wx w6.heap.size i k d f m) ∧ Below w.heap.size w wx) := fun wx hx => by
    have q3 : Below w6.heap.size w6 (w6.alloc (.cells #[.int .u64 i, .int .u64 k, .int .i64 d, .int .i64 f, .int .u64 m] 27)) := boxed _ _
    have q4 := hb10.trans ((q3.trans (hx.mono q3.size)).mono hb10.size)
    exact ⟨⟨HBA.out _ q4, hdAt_of hx⟩, HB0.out.trans (q4.mono HB0.out.size)⟩
  have hb : Below (w6.alloc (.cells #[.int .u64 i, .int .u64 k, .int .i64 d, .int .i64 f, .int .u64 m] 27)).heap.size (w6.alloc (.cells #[.int .u64 i, .int .u64 k, .int .i64 d, .int .i64 f, .int .u64 m] 27)) (w6.alloc (.cells #[.int .u64 i, .int .u64 k, .int .i64 d, .int .i64 f, .int .u64 m] 27)).drew := below_drewn (Below.refl _ _) 1
  have HK := Lib.hid (hBA.out _ hb).1
  clear hb1 hb2 hb3 hb4 hb5 hb6 hb7 hb8 hb9 hb10 hbw ht2 ht3 ht4 ht5 x0 x1 x2 x3 x4 ho1 ho5 hg5 hat5
  go_region_held3 (fun w' => HdAt w' w.heap.size i k d f m ∧ HdAt w' w6.heap.size i k d f m)
    (first | assumption | exact HK.out | exact (hBA.out _ hb).1)
    (first
      | (go_at_call 21; refine (of_any _ _ _ _ _ _).mono ?_; rintro e wx ⟨rfl, hbx⟩; have hb := hb.trans (hbx.mono hb.size); clear hbx)
      | (go_at_call 18; refine (awake_any _).mono ?_; rintro e wx ⟨rfl, hbx⟩; have hb := hb.trans (hbx.mono hb.size); clear hbx))
  go_wp2
  go_ret
  exact ⟨rfl, (hBA.out _ hb).2⟩

end Go.Proofs.Ytjbkkimgiageaaa
