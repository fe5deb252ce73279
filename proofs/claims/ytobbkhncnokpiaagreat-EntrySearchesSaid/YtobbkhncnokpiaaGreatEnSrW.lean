/-
  LAYER 16: the walk of EntrySearches.
-/
import Derived.Test.YtobbkhncnokpiaaGreatEnSrM
set_option linter.unusedVariables false
set_option maxRecDepth 100000
set_option linter.unusedSimpArgs false
namespace Go.Proofs.YtobbkhncnokpiaaGreat
open Go.RowKit Go.Shelf

theorem sr_end {w wr : World} {p j c : Nat} {A : Option Addr} {Y : Int} (H : SrAt w wr p (.slice A j c) Y j) (hj : j ≤ 60) (q : Int) : ∃ t : Nat,
    (Calls Tryz.prog 29 #[.pointer (some ⟨p, 0, none⟩), .int .u64 q] wr fun e w' => e = .returned (.int .i64 t) ∧ Below wr.heap.size wr w') ∧
    ∀ wx, Below wr.heap.size wr wx → Calls Tryz.prog 30 #[.slice A j c, .int .u64 q] wx fun e w' => e = .returned (.int .i64 t) ∧ wx = w' := by
  obtain ⟨S, bs, R, O, Lr, l, HS, HL⟩ := H
  have hlen := HS.len
  have hll := HL.len
  have hsq := HS.seqs
  obtain ⟨A3, c3, e3, hRec⟩ := HS.recs
  injection e3 with e3 e4 e5
  subst e3; subst e5; subst e4
  have SE := esearch_any q HS.ed.toEX HS.el (by omega) (fun i k hik hk => by
    rw [hsq]
    rcases Nat.lt_or_ge i k with e | e
    · have hp := HL.rise
      rw [List.pairwise_iff_getElem] at hp
      have hkl : k < (l.map (·.seq)).length := by rw [List.length_map, ← hlen]; exact hk
      have := hp i k (by omega) hkl e
      rw [List.getD_eq_getElem?_getD, List.getD_eq_getElem?_getD, List.getElem?_eq_getElem (by omega : i < (l.map (·.seq)).length), List.getElem?_eq_getElem hkl]
      exact this
    · have : i = k := by omega
      subst this; exact Int.le_refl _)
  rw [hsq] at SE
  exact ⟨_, SE, fun wx hb => research_any q wx (hRec.below hb)⟩

set_option maxHeartbeats 4000000 in
theorem searches_law (A : Option Addr) (n c : Nat) (zs : List Int) (q : Int) (w : World) (hin : InInts w .u8 A n c zs) (hq : (Lit.int .u64 q).wf = true) :
    Calls Tryz.prog 5 #[.slice A n c, .int .u64 q] w fun e w' => e = .returned (.bool true) ∧ Below w.heap.size w w' := by
  have AW := Lib.hid eawake_any
  have FR := Lib.hid (fun wx (hb : w.heap.size ≤ wx.heap.size) => fresh_ed (base := w.heap.size) 1048576 wx hb (by omega))
  have hcap := hin.cap
  have hle := hin.le
  have HIN := Lib.hid hin
  have HLZ := Lib.hid hin.reads.len
  clear hin hq
  obtain ⟨i0, hi, hz0, hz1, hz2⟩ := info_parts recInfo
  go_enter Tryz.func5, Tryz.ntmps5
  go_wp2_with (first
    | (go_at_call 7; refine (AW.out _).mono ?_; rintro e w1 ⟨rfl, hb1⟩)
    | (go_at_call 9; refine (FR.out _ hb1.size).mono ?_; rintro e w2 ⟨p, rfl, hb2, bs, hD⟩))
  have HR0 : Hid (SrAt w w2 p (.slice none 0 0) 0 0) := Lib.hid ⟨_, bs, [], [], [], [], (EnSt.start (hb1.trans (hb2.mono hb1.size)) (hD.mono (fun j hj => hj) (fun j hj => ⟨Nat.le_trans hb1.size hj.1, hj.2⟩))).more (by omega), SrL.nothing⟩
  clear hb1 hb2 hD
  go_loopw [6, 7, 8] (fun v y i wr => ∃ (j : Nat) (Y : Int) (A1 : Option Addr) (c1 : Nat), v = .slice A1 j c1 ∧ i = .int .i64 j ∧ y = .int .u64 Y ∧ 0 ≤ Y ∧ Y ≤ 256 * j ∧ j ≤ n ∧ j ≤ 60 ∧ Hid (SrAt w wr p (.slice A1 j c1) Y j)) (fun _ _ i _ => 100 - (intOf i).toNat)
  case atStart => exact ⟨0, 0, none, 0, rfl, rfl, rfl, by omega, by omega, Nat.zero_le _, Nat.zero_le _, HR0⟩
  case round =>
    clear HR0
    obtain ⟨j, Y, A1, c1, rfl, rfl, rfl, hY0, hY1, hj, hj60, HA⟩ := hrel
    have HBL : Hid (Below w.heap.size w wr) := by obtain ⟨S, bs, R, O, Lr, l, h1, h2⟩ := HA.out; exact Lib.hid h1.below
    by_cases hmore : j < n ∧ j < 60
    · obtain ⟨hlt, h60⟩ := hmore
      obtain ⟨b, off, rfl, hb, hc⟩ := (HIN.out.reads.below HBL.out).plain (by omega)
      have x0 := hc j hlt
      have hzb : 0 ≤ zs.getD j 0 ∧ zs.getD j 0 < 256 := by
        have := bounds_u8 (HIN.out.wf _ (show zs.getD j 0 ∈ zs by rw [List.getD_eq_getElem?_getD, List.getElem?_eq_getElem (by rw [HLZ.out]; exact hlt)]; exact List.getElem_mem _))
        omega
      obtain ⟨z, hz⟩ : ∃ z, zs.getD j 0 = z := ⟨_, rfl⟩
      rw [hz] at x0 hzb
      obtain ⟨hzb0, hzb1⟩ := hzb
      obtain ⟨y', hy'⟩ : ∃ y', Y + 1 + z = y' := ⟨_, rfl⟩
      have hw1 : IntKind.u64.wrap (Y + 1) = Y + 1 := wrap_u64_of (by omega) (by omega)
      have hw2 : IntKind.u64.wrap (Y + 1 + z) = y' := by rw [wrap_u64_of (by omega) (by omega)]; exact hy'
      have hw3 : IntKind.u64.wrap z = z := wrap_u64_of (by omega) (by omega)
      have hyb0 : 0 ≤ y' := by omega
      have hyb1 : y' ≤ 256 * (j + 1) := by omega
      have hyy : Y ≤ y' := by omega
      have hlti : (j : Int) < (n : Int) := by omega
      have h60i : (j : Int) < 60 := by omega
      have AD := Lib.hid (HA.out.add h60 y' z ⟨by omega, by omega⟩ ⟨by omega, by omega⟩)
      clear hc hz hy'
      have s1 := sr5a (m := j) (by omega)
      have s2 := sr5b (m := j) (by omega)
      go_wp2_with (first
        | (go_at_call 11; go_loud (refine AD.out.mono ?_; rintro e w2 ⟨a, rfl, h2⟩; have H2 := Lib.hid h2; clear h2))
        | (go_at_call 14; go_loud (refine (H2.out.done h60).mono ?_; rintro e w3 ⟨rfl, h3⟩; have y0 : w3.cell? ⟨wr.heap.size + 1, 0, none⟩ = some (.int .u64 y') := h3.box.cell 0; have y1 : w3.cell? ⟨wr.heap.size + 1, 1, none⟩ = some (.int .u64 z) := h3.box.cell 1; have y2 : w3.cell? ⟨wr.heap.size + 1, 2, none⟩ = some (.int .u64 0) := h3.box.cell 2; have y3 : w3.cell? ⟨wr.heap.size + 1, 3, none⟩ = some (.int .u64 0) := h3.box.cell 3; have y4 : w3.cell? ⟨wr.heap.size + 1, 4, none⟩ = some (.slice (some ⟨wr.heap.size, 0, none⟩) 1 1) := h3.box.cell 4; obtain ⟨cs, hown3, hb3, hnx⟩ := h3.next hyy; have HO3 := Lib.hid hown3; have HNX := Lib.hid hnx; clear h3 hown3 hnx))
        | (at_builtin; go_loud (refine wpList_append_any _ rfl _ _ 22 rfl w.heap.size 36 i0 (.agg #[.int .u64 0, .int .u64 0, .int .u64 0, .int .u64 0, .slice none 0 0]) 5 56 Tryz.underlying22 hi hz0 hz1 hz2 rfl (by decide) (.slice A1 j c1) j cs rfl (HO3.out.alloc _) _ _ 1 1 [.int .u64 y', .int .u64 z, .int .u64 0, .int .u64 0, .slice (some ⟨wr.heap.size, 0, none⟩) 1 1] rfl (recNew w3 _ _ _ _ _ _) (recOne _ _ _ _ _ _ _) s1 s2 (by simp; omega) ?_; intro v1 w6 hown1 hg1 hat1; obtain ⟨A2, c2, rfl, -, -⟩ := own_form hown1; have H6 := Lib.hid (HNX.out w6 _ _ hown1 hg1 hat1); clear hown1 hg1 hat1)))
      go_roundw
      case rel => exact ⟨j + 1, y', A2, c2, rfl, by go_num, rfl, by omega, by omega, by omega, by omega, H6⟩
      case measure => simp [intOf]; omega
    · have hend : ¬ (j : Int) < (n : Int) ∨ ((j : Int) < (n : Int) ∧ ¬ (j : Int) < 60) := by omega
      obtain ⟨t, SE, RS⟩ := sr_end HA.out hj60 q
      have SE := Lib.hid SE
      have RS := Lib.hid RS
      clear hmore HA
      rcases hend with hend | ⟨hend1, hend⟩
      all_goals
        go_wp2_with (first
          | (go_at_call 29; refine SE.out.mono ?_; rintro e w3 ⟨rfl, hb3⟩)
          | (go_at_call 30; refine (RS.out _ hb3).mono ?_; rintro e w4 ⟨rfl, rfl⟩)
          | (go_at_call 7; refine (AW.out _).mono ?_; rintro e w5 ⟨rfl, hb5⟩))
        go_ret
        exact ⟨rfl, HBL.out.trans ((hb3.trans (hb5.mono hb3.size)).mono HBL.out.size)⟩

end Go.Proofs.YtobbkhncnokpiaaGreat
