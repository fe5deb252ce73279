/-
  LAYER 6: WHAT THE DOCUMENT'S OWN Crash DOES: its walk.
-/
import Derived.Test.YtdpoffedmafmhaaFileRef5
import Derived.Test.YtdpoffedmafmhaaFileFn9
set_option linter.unusedVariables false
set_option linter.unusedSimpArgs false
namespace Go.Proofs.Ytdpoffedmafmhaa
open Go.RowKit

set_option maxHeartbeats 2000000 in
theorem rcrash_any (p : Nat) (K : Option Addr) (m d : Nat) (ks : List Bool) (Bk base N : Nat) (S : Nat → Prop) (s : FS) (nv sv ov : Value) (xs : List Value) (w : World) (h : RF w base S p s nv sv ov xs) (hr : Reads w Bk 1 K m (cellsB ks)) (hB : Bk ≤ w.heap.size) (hmd : m ≤ d) (hdc : d ≤ 9223372036854775807) (hgd : s.Good N) (hN : N ≤ 1000000) :
    Calls Try.prog 23 #[.pointer (some ⟨p, 0, none⟩), .slice K m d, .int .i64 0] w (RFnew base (s.crash ks) w) := by
  obtain ⟨i0, hi, hz0, hz1, hz2⟩ := info_parts byteInfo
  obtain ⟨As, cs, rfl, hs1, hs2⟩ := own_form h.safe
  obtain ⟨Ap, cp, rfl, hp1, hp2⟩ := own_form h.pend
  have hlk : ks.length = m := by have := hr.1; rw [cellsB_length] at this; omega
  obtain ⟨m2, hm2⟩ : ∃ m2, m2 = s.safe.length := ⟨_, rfl⟩
  obtain ⟨q, hq⟩ : ∃ q, q = s.ops.length := ⟨_, rfl⟩
  have hq1 : q ≤ 1000000 := by have := hgd.few; omega
  rw [← hm2, ← hq] at h
  have hl2 : m2 ≤ 1048576 := by rw [hm2]; exact hgd.ok.sizeS
  have HSR := Lib.hid (h.safeR hm2)
  have H := Lib.hid h
  obtain ⟨-, d1, -⟩ := h.cells3 ((Below.refl _ _).alloc (Nat.le_refl _) (.cells #[] 5))
  have k2 : 0 + m2 ≤ maxLen := by unfold maxLen; omega
  have k3 : (0 + m2) * 1 ≤ 140737488355328 := by omega
  have HM2 := Lib.hid hm2
  have HQ := Lib.hid hq
  have HLK := Lib.hid hlk
  have HR := Lib.hid hr
  have HG := Lib.hid hgd
  clear h hm2 hq hlk hs1 hp1 hr hgd
  go_enter Try.func23, Try.ntmps23
  go_wp2_with (at_builtin; go_loud (refine wpList_append_any _ rfl (.tmp 9) (.tmp 13) _ rfl w.heap.size 5 i0 (.int .u8 0) 1 1 Try.underlying26 hi hz0 hz1 hz2 rfl (Nat.lt_succ_self 0) _ 0 [] rfl (World.ownsRow_lit w #[] 0 (Nat.le_refl _) (Nat.zero_le _) rfl) w.heap.size As m2 cs (cellsOf .u8 s.safe) rfl (HSR.out.1.alloc (Nat.le_refl _) _) (cellsOf_one _ _) k2 k3 (by simp) ?_; intro v1 w1 hown1 hg1 hat1; rw [Nat.zero_add, List.nil_append] at hown1; obtain ⟨A1, c1, rfl, hc1, hc2⟩ := own_form hown1; have hb1 := below_lit hg1; have HC0 := Lib.hid (show CrR w w1 s ks 0 A1 m2 c1 s.safe from ⟨by rw [List.take_zero]; rfl, HM2.out.symm, hown1, hb1⟩); clear hown1 hg1 hat1 hb1))
  clear d1 k2 k3
  go_loopw [7, 8] (fun l i wr => ∃ (k : Nat) (A : Option Addr) (n c : Nat) (L : List Int), k ≤ q ∧ i = .int .i64 k ∧ l = .slice A n c ∧ Hid (CrR w wr s ks k A n c L)) (fun _ i _ => q - (intOf i).toNat)
  case atStart => exact ⟨0, _, _, _, _, Nat.zero_le _, rfl, rfl, HC0⟩
  case round =>
    clear HC0
    obtain ⟨k, A, n, c, L, hk, rfl, rfl, C⟩ := hrel
    have hn6 := C.out.size HG.out
    obtain ⟨-, -, e2, -⟩ := H.out.cells3 C.out.below
    by_cases hlt : k < q
    · obtain ⟨o, ho⟩ : ∃ o, s.ops[k]? = some o := ⟨_, List.getElem?_eq_getElem (by rw [← HQ.out]; omega)⟩
      have kq : (k : Int) < (q : Int) := by omega
      have k0 : (0 : Int) ≤ (k : Int) := by omega
      have HO := Lib.hid ho
      by_cases hkm : k < m
      · obtain ⟨b, off, rfl, hbB, hc⟩ := HR.out.bools (by omega)
        obtain ⟨bt, hbt⟩ : ∃ bt, bt = keepAt ks k := ⟨_, rfl⟩
        have ck : wr.cell? ⟨b, off + k, none⟩ = some (.bool bt) := by rw [hbt]; exact (C.out.below.cell (p := ⟨b, off + k, none⟩) (by show b < _; omega)).trans (hc k hkm)
        have kmi : (k : Int) < (m : Int) := by omega
        cases bt with
        | false =>
          have HN := Lib.hid (C.out.stay (by rw [← HQ.out]; omega) hbt.symm)
          clear hbt ho hc
          go_wp2
          go_roundw
          case rel => exact ⟨k + 1, A, n, c, L, by omega, by go_num, rfl, HN⟩
          case measure => simp [intOf]; omega
        | true =>
          obtain ⟨gp, Ad, md, cd, rfl, hqc, y0, y1, y2, hrd, hmd2, hcd2⟩ := H.out.opCells HQ.out C.out.below ho
          have hon : o.n ≤ 1048576 := HG.out.ok.n o (List.mem_of_getElem? ho)
          have HBT := Lib.hid hbt.symm
          obtain ⟨on, hon2⟩ : ∃ on, on = o.n := ⟨_, rfl⟩
          rw [← hon2] at y1 hon
          have hcd3 : cd ≤ 9223372036854775807 := by unfold maxLen at hcd2; omega
          cases hsz : o.sz with
          | true =>
            rw [hsz] at y0
            have SZ := rsize_any A n c ((on : Nat) : Int) L wr.heap.size wr C.out.reads.1 (Nat.le_refl _) (by omega) C.out.reads.2.1 C.out.reads.2.2
            rw [Int.toNat_natCast, hon2, ← opDo_size' L o hsz, ← hon2] at SZ
            have SZH := Lib.hid SZ
            clear hbt ho hc SZ hsz hon2 hrd
            go_wp2_with (go_at_call 32; go_loud (refine SZH.out.mono ?_; rintro e w3 hg; obtain ⟨A3, n3, c3, rfl, hC3⟩ := C.out.step HO.out HBT.out hg; have HC3 := Lib.hid hC3; clear hg hC3))
            go_roundw
            case rel => exact ⟨k + 1, A3, n3, c3, _, by omega, by go_num, rfl, HC3⟩
            case measure => simp [intOf]; omega
          | false =>
            rw [hsz] at y0
            have ST := rset_any A n c ((on : Nat) : Int) L Ad md cd o.data wr.heap.size wr.drew C.out.reads.1.drew (hrd.more C.out.below.size).drew (Nat.le_refl _) C.out.reads.2.1 C.out.reads.2.2 (by omega) hmd2 hcd3
            rw [hon2, ← opDo_sec L o hsz, ← hon2] at ST
            have STH := Lib.hid ST
            clear hbt ho hc ST hsz hon2 hrd
            go_wp2
            go_region_law ((go_simp; go_at_call 34; go_loud (refine STH.out.mono ?_; rintro e w3 hg; obtain ⟨A3, n3, c3, rfl, hC3⟩ := CrR.step (wr := wr) C.out HO.out HBT.out (show Gives _ wr _ _ from ⟨_, _, hg.choose_spec.choose_spec.1, hg.choose_spec.choose_spec.2.1, below_drew0 (w := wr) hg.choose_spec.choose_spec.2.2⟩); have HC3 := Lib.hid hC3; clear hg hC3)))
            all_goals
              go_wp2
              go_roundw
              case rel => exact ⟨k + 1, A3, n3, c3, _, by omega, by go_num, rfl, HC3⟩
              case measure => simp [intOf]; omega
      · have HN := Lib.hid (C.out.stay (by rw [← HQ.out]; omega) (keepAt_out (by rw [HLK.out]; omega)))
        have kmi : ¬ (k : Int) < (m : Int) := by omega
        have kmi2 : (m : Int) ≤ (k : Int) := by omega
        clear ho
        go_wp2
        go_roundw
        case rel => exact ⟨k + 1, A, n, c, L, by omega, by go_num, rfl, HN⟩
        case measure => simp [intOf]; omega
    · obtain rfl : k = q := by omega
      have HKK := Lib.hid (show ks.length ≤ k ∨ s.ops.length ≤ k by have := HQ.out; omega)
      have s2 : 0 + n ≤ maxLen := by unfold maxLen; omega
      have s3 : (0 + n) * 1 ≤ 140737488355328 := by omega
      have CR := Lib.hid C.out.reads
      go_wp2_with (at_builtin; go_loud (refine wpList_append_any _ rfl (.tmp 76) (.tmp 77) _ rfl wr.heap.size 5 i0 (.int .u8 0) 1 1 Try.underlying26 hi hz0 hz1 hz2 rfl (Nat.lt_succ_self 0) _ 0 [] rfl (World.ownsRow_lit wr #[] 0 (Nat.le_refl _) (Nat.zero_le _) rfl) wr.heap.size A n c (cellsOf .u8 L) rfl (CR.out.1.alloc (Nat.le_refl _) _) (cellsOf_one _ _) s2 s3 (by simp) ?_; intro v1 w2 hown1 hg1 hat1; rw [Nat.zero_add, List.nil_append] at hown1; obtain ⟨A2, c2, rfl, hc1, hc2⟩ := own_form hown1; have hb1 := below_lit hg1; have HX := Lib.hid (C.out.out HKK.out H.out.bas hown1 hb1); clear hown1 hg1 hat1 hb1))
      go_ret
      exact HX.out

end Go.Proofs.Ytdpoffedmafmhaa
