/-
  LePuts: the walk of the statement's own text.
-/
import Derived.Test.YtnkkfflaalipjaaLePutsP
set_option linter.unusedVariables false
set_option linter.unusedSimpArgs false
namespace Go.Proofs.Ytnkkfflaalipjaa
open Go.RowKit

set_option maxRecDepth 100000 in
set_option maxHeartbeats 4000000 in
theorem puts_walk (A : Option Addr) (len cap : Nat) (acts : List ActV) (w : World) (hin : InActs w A len cap acts) :
    Calls Try.prog 5 #[.slice A len cap] w fun e w' => e = .returned (.bool true) ∧ Below w.heap.size w w' := by
  obtain ⟨i0, hi, hz0, hz1, hz2⟩ := info_parts byteInfo
  have hlen := hin.length
  have hcap := hin.cap
  have hle := hin.le
  have hl0 : len ≤ 9223372036854775807 := by omega
  have HL := Lib.hid hlen
  clear hlen
  go_enter Try.func5, Try.ntmps5
  go_wp2_with fail
  go_loopw [4, 5] (fun wv i wr => ∃ k : Nat, k ≤ len ∧ k ≤ 40 ∧ i = .int .i64 k ∧ PutsInv w w.heap.size k wv wr) (fun _ i _ => 40 - (intOf i).toNat)
  case atStart =>
    refine ⟨0, Nat.zero_le _, by omega, rfl, [], .slice none 0 0, ⟨Blk.new _ _ _, World.ownsRow_nil _ _ _ _⟩, World.ownsRow_nil _ _ _ _, (Below.refl _ _).alloc (Nat.le_refl _) _, Nat.le_refl _, ?_, ?_, by simp, AreB.nil⟩
    · intro b hb; simp [Value.ownBlock] at hb
    · intro b hb; simp [Value.ownBlock] at hb
  case round =>
    obtain ⟨k, hk, hk40, rfl, hinv⟩ := hrel
    by_cases hlt : k < len ∧ k < 40
    · obtain ⟨hlt1, hlt2⟩ := hlt
      obtain ⟨zs, v, hw, hwv, hb, hg, hvb, hwb, hzl, hzb⟩ := hinv
      obtain ⟨b, off, rfl, hbl, hcells⟩ := hin.cells (by omega)
      have hk2 : k < acts.length := by rw [HL.out]; exact hlt1
      have hat := hcells k acts[k] (List.getElem?_eq_getElem hk2)
      have hok := hin.ok acts[k] (List.getElem_mem hk2)
      generalize acts[k] = a at hat hok
      obtain ⟨h0, h1, h2, h3, h4⟩ := hat
      have g0 := (hb.cell (p := ⟨b, off + k * 5, none⟩) hbl).trans h0
      have g1 := (hb.cell (p := ⟨b, off + k * 5 + 1, none⟩) hbl).trans h1
      have g2 := (hb.cell (p := ⟨b, off + k * 5 + 2, none⟩) hbl).trans h2
      have g3 := (hb.cell (p := ⟨b, off + k * 5 + 3, none⟩) hbl).trans h3
      have g4 := (hb.cell (p := ⟨b, off + k * 5 + 4, none⟩) hbl).trans h4
      have hs := hb.size
      have hgl := hw.blk.lt
      clear hcells h0 h1 h2 h3 h4
      have hP : Blk (wr.alloc (.cells #[.int .i64 a.kind, .int .u64 a.n, .int .i64 a.width, .slice a.lA a.ln a.lc, .slice a.bA a.bn a.bc] 37)) wr.heap.size 37 #[.int .i64 a.kind, .int .u64 a.n, .int .i64 a.width, .slice a.lA a.ln a.lc, .slice a.bA a.bn a.bc] := Blk.new _ _ _
      have ha : Below wr.heap.size wr (wr.alloc (.cells #[.int .i64 a.kind, .int .u64 a.n, .int .i64 a.width, .slice a.lA a.ln a.lc, .slice a.bA a.bn a.bc] 37)) := (Below.refl _ _).alloc (Nat.le_refl _) _
      have hwa := hw.chg (Chg.of_below ha (Nat.le_refl _) (fun _ => False)) (fun h => h) (fun _ _ h => h)
      have hwva := own_chg hwv (Chg.of_below ha (Nat.le_refl _) (fun _ => False)) (fun _ _ h => h)
      have hpg : ¬ (wr.heap.size = w.heap.size ∨ v.ownBlock = some wr.heap.size) := by
        rintro (e | e)
        · omega
        · have := (hw.own.lt _ e).2; omega
      have hpw : ∀ A1 c1 n1, ¬ ((Value.slice A1 n1 c1).ownBlock = some wr.heap.size) ∨ True := fun _ _ _ => .inr trivial
      obtain ⟨A1, c1, rfl, _, _⟩ := own_form hwv
      have hwg : (Value.slice A1 zs.length c1).ownBlock ≠ some w.heap.size := own_blk_ne hwv hw.blk (by decide)
      have hpw : ¬ ((Value.slice A1 zs.length c1).ownBlock = some wr.heap.size) := fun e => by have := (hwv.lt _ e).2; omega
      have hzs : zs.length ≤ 163840 := by omega
      have hnn := Lib.hid (wf_u64_bd hok.n)
      by_cases hq : 50 < a.ln ∨ 300 < a.bn ∨ 4096 < a.width
      · rcases hq with hq | hq | hq
        all_goals
          go_wp2_with (go_at_call 8; refine (awake_any _).mono ?_; rintro e w5 ⟨rfl, hb5⟩)
        all_goals
          go_ret
          exact ⟨rfl, (hb.trans (ha.mono hs)).trans (hb5.mono (by simp; omega))⟩
      · have q1 : (a.ln : Int) ≤ 50 := by omega
        have q2 : (a.bn : Int) ≤ 300 := by omega
        have q3 : a.width ≤ 4096 := by omega
        have hwid := (bounds_i64 hok.width).1
        by_cases h0 : a.kind = 0
        · have hbl8 := bts_le a.n a.width
          have hbb := bts_bytes a.n a.width
          have s2 : zs.length + (bts a.n a.width).length ≤ maxLen := by unfold maxLen; omega
          have s3 : (zs.length + (bts a.n a.width).length) * 1 ≤ 140737488355328 := by omega
          have hk0 : (a.kind == 0) = true := by simpa using h0
          clear h0
          go_wp2_with (first
            | (go_at_call 16; refine (num_any _ v zs a.n a.width _ hwa (by omega)).mono ?_; rintro e w1 ⟨rfl, v1, hw1, hc1, hm1⟩; have hP1 := hP.chg hc1 hpg; have p1 : w1.cell? ⟨wr.heap.size, 1, none⟩ = some (.int .u64 a.n) := hP1.cell 1; have p2 : w1.cell? ⟨wr.heap.size, 2, none⟩ = some (.int .i64 a.width) := hP1.cell 2; have W1 := WantAt.start (own_chg hwva hc1 (fun b hb1 hb2 => hb2.elim (fun e => hwg (e ▸ hb1)) (fun e => (hwb b hb1).2 e))))
            | (go_at_call 13; refine (rbytes_any a.n a.width _ hnn).mono ?_; rintro e w2 ⟨A2, c2, rfl, hown2, hb2⟩; have hR2 := Reads.of_own hown2; have hown2w := own_chg W1.own (Chg.of_below hb2 (Nat.le_refl _) (fun _ => False)) (fun _ _ h => h))
            | (at_builtin; refine wpList_append_any _ rfl _ _ _ rfl 0 5 i0 (.int .u8 0) 1 1 Try.underlying22 hi hz0 hz1 hz2 rfl (Nat.lt_succ_self 0) (.slice A1 zs.length c1) zs.length (cellsOf .u8 zs) rfl hown2w w2.heap.size A2 (bts a.n a.width).length c2 (cellsOf .u8 (bts a.n a.width)) rfl hR2 (cellsOf_one _ _) s2 s3 (Nat.zero_le _) ?_; intro v3 w3 hown3 hg3 hat3; have W3 := W1.step hb2 hg3 rfl hown3 hat3; obtain ⟨A3, c3, rfl, _, _⟩ := own_form hown3; have hE := puts_end hw hwv hb hg hvb hwb hzl hzb (by omega) hbb ha hw1 hc1 hm1 W3)
            | (go_at_call 20; refine (wlen_n _ (zs.length + (bts a.n a.width).length) _ _ _ hE.2 (List.length_append ..)).mono ?_; rintro e w4 ⟨rfl, rfl⟩))
          go_roundw
          case rel => exact ⟨k + 1, by omega, by omega, by go_num, hE.1⟩
          case measure => simp [intOf]; omega
        · have hk0 : (a.kind == 0) = false := by simpa using h0
          by_cases h1 : a.kind = 1
          · have hk1 : (a.kind == 1) = true := by simpa using h1
            clear h0 h1 hk0
            have hll := hok.l.reads.len
            have hlr := hok.l.reads.below (hb.trans (ha.mono hs))
            have hdis : 0 < a.ln → ∀ ad, a.lA = some ad → ¬ (ad.block = w.heap.size ∨ v.ownBlock = some ad.block) := fun hn0 ad e => by
              obtain ⟨ad', e', hb', _⟩ := hok.l.reads.2 hn0
              rw [e] at e'; injection e' with e'
              subst e'
              rintro (e2 | e2)
              · omega
              · have := hvb _ e2; omega
            have hdis2 : 0 < a.ln → ∀ ad, a.lA = some ad → ¬ ((Value.slice A1 zs.length c1).ownBlock = some ad.block) := fun hn0 ad e e2 => by
              obtain ⟨ad', e', hb', _⟩ := hok.l.reads.2 hn0
              rw [e] at e'; injection e' with e'
              subst e'
              have := (hwb _ e2).1; omega
            have hsz : w.heap.size ≤ (wr.alloc (.cells #[.int .i64 a.kind, .int .u64 a.n, .int .i64 a.width, .slice a.lA a.ln a.lc, .slice a.bA a.bn a.bc] 37)).heap.size := by simp; omega
            have hwl := wordsB_length a.l
            have hlw : ∀ z ∈ a.l, Hid (0 ≤ z ∧ z < 18446744073709551616) := fun z hz => wf_u64_bd (hok.l.wf z hz)
            go_wp2_with (go_at_call 17; refine (words_any _ v zs a.lA a.ln a.lc a.l _ hwa hlr hsz hdis (by omega)).mono ?_; rintro e w1 ⟨rfl, v1, hw1, hc1, hm1⟩; have hP1 := hP.chg hc1 hpg; have p3 : w1.cell? ⟨wr.heap.size, 3, none⟩ = some (.slice a.lA a.ln a.lc) := hP1.cell 3; have W1 := WantAt.start (own_chg hwva hc1 (fun b hb1 hb2 => hb2.elim (fun e => hwg (e ▸ hb1)) (fun e => (hwb b hb1).2 e))); have hlr1 := hlr.chg hc1 hsz hdis)
            have hs1 := hc1.size
            clear p3
            go_loopw [4, 7] (fun wv2 j wq => ∃ q : Nat, q ≤ a.ln ∧ j = .int .i64 q ∧ WantAt w1 (.slice A1 zs.length c1) (zs ++ wordsB (a.l.take q)) wv2 wq ∧ ∃ A2 c2, wv2 = .slice A2 (zs.length + 8 * q) c2) (fun _ j _ => a.ln - (intOf j).toNat)
            case atStart => exact ⟨0, Nat.zero_le _, rfl, by simpa [wordsB] using W1, A1, c1, rfl⟩
            case round =>
              obtain ⟨q, hq1, rfl, W2, A2, c2, rfl⟩ := hrel
              have p3 := (hP1.chg W2.chg hpw).cell 3
              have p3' : _ = some (Value.slice a.lA a.ln a.lc) := p3
              clear p3
              have own2 := W2.own
              rw [List.length_append, wordsB_length, List.length_take, hll, Nat.min_eq_left hq1] at own2
              by_cases hql : q < a.ln
              · obtain ⟨b3, off3, e3, _, hcc⟩ := (hlr1.chg W2.chg (by omega) hdis2).plain (by omega)
                have hcell := hcc q hql
                generalize hxe : a.l.getD q 0 = x at hcell
                have hx0 : Hid (0 ≤ x ∧ x < 18446744073709551616) := by
                  rw [← hxe, List.getD_eq_getElem?_getD, List.getElem?_eq_getElem (by omega)]
                  exact hlw _ (List.getElem_mem _)
                have HX := Lib.hid hxe
                have E3 := Lib.hid e3
                rw [e3] at p3'
                have hb8 : (bts x 8).length = 8 := by rw [bts_length]; rfl
                have HB8 := Lib.hid hb8
                have s2 : zs.length + 8 * q + (bts x 8).length ≤ maxLen := by unfold maxLen; omega
                have s3 : (zs.length + 8 * q + (bts x 8).length) * 1 ≤ 140737488355328 := by omega
                clear hb8
                clear hxe e3 hcc hdis hdis2 hlr hlr1 hin hlw
                generalize hxs : zs ++ wordsB (a.l.take q) = xs at W2 own2 ⊢
                have HXS := Lib.hid hxs
                clear hxs
                go_wp2_with (first
                  | (go_at_call 13; refine (rbytes_any x 8 _ hx0).mono ?_; rintro e w2 ⟨A3, c3, rfl, hown2, hb2⟩; have hR2 := Reads.of_own hown2; have hown2w := own_chg own2 (Chg.of_below hb2 (Nat.le_refl _) (fun _ => False)) (fun _ _ h => h))
                  | (at_builtin; refine wpList_append_any _ rfl _ _ _ rfl 0 5 i0 (.int .u8 0) 1 1 Try.underlying22 hi hz0 hz1 hz2 rfl (Nat.lt_succ_self 0) (.slice A2 (zs.length + 8 * q) c2) (zs.length + 8 * q) (cellsOf .u8 xs) rfl hown2w w2.heap.size A3 (bts x 8).length c3 (cellsOf .u8 (bts x 8)) rfl hR2 (cellsOf_one _ _) s2 s3 (Nat.zero_le _) ?_; intro v3 w3 hown3 hg3 hat3))
                go_roundw
                case rel =>
                  have hxl : xs.length = zs.length + 8 * q := by rw [← HXS.out, List.length_append, wordsB_length, List.length_take, hll, Nat.min_eq_left hq1]
                  have W3 := W2.step hb2 hg3 rfl (hxl ▸ hown3) hat3
                  obtain ⟨A5, c5, rfl, _, _⟩ := own_form hown3
                  exact ⟨q + 1, by omega, by go_num, by rw [wordsB_take (by omega), HX.out, ← List.append_assoc, HXS.out]; exact W3, A5, c5, by rw [HB8.out]; congr 1⟩
                case measure => simp [intOf]; omega
              · have e : q = a.ln := by omega
                subst e
                rw [List.take_of_length_le (by omega)] at W2
                have hE := puts_end hw hwv hb hg hvb hwb hzl hzb (by omega) (wordsB_bytes a.l) ha hw1 hc1 hm1 W2
                clear hdis hdis2 hlr hlr1 hin hlw
                go_wp2_with (go_at_call 20; refine (wlen_n _ (zs.length + 8 * a.ln) _ _ _ hE.2 (by rw [List.length_append, wordsB_length, hll])).mono ?_; rintro e w4 ⟨rfl, rfl⟩)
                go_roundw
                case rel => exact ⟨k + 1, by omega, by omega, by go_num, hE.1⟩
                case measure => simp [intOf]; omega
          · have hk1 : (a.kind == 1) = false := by simpa using h1
            by_cases h2 : a.kind = 2
            · have hk2' : (a.kind == 2) = true := by simpa using h2
              clear h0 h1 h2 hk0 hk1
              have hbl' := hok.b.reads.len
              have hbr := hok.b.reads.below (hb.trans (ha.mono hs))
              have hbb : AreB a.b := fun z hz => wf_u8_bd (hok.b.wf z hz)
              have s2 : zs.length + a.bn ≤ maxLen := by unfold maxLen; omega
              have s3 : (zs.length + a.bn) * 1 ≤ 140737488355328 := by omega
              have hsz : w.heap.size ≤ (wr.alloc (.cells #[.int .i64 a.kind, .int .u64 a.n, .int .i64 a.width, .slice a.lA a.ln a.lc, .slice a.bA a.bn a.bc] 37)).heap.size := by simp; omega
              have hdis : 0 < a.bn → ∀ ad, a.bA = some ad → ¬ (ad.block = w.heap.size ∨ v.ownBlock = some ad.block) := fun hn0 ad e => by
                obtain ⟨ad', e', hb', _⟩ := hok.b.reads.2 hn0
                rw [e] at e'; injection e' with e'
                subst e'
                rintro (e2 | e2)
                · omega
                · have := hvb _ e2; omega
              have HBL := Lib.hid hbl'
              clear hbl'
              go_wp2_with (first
                | (go_at_call 18; refine (raw_any _ v zs a.bA a.bn a.bc a.b _ hwa hbr (by omega)).mono ?_; rintro e w1 ⟨rfl, v1, hw1, hc1, hm1⟩; have hP1 := hP.chg hc1 hpg; have p4 : w1.cell? ⟨wr.heap.size, 4, none⟩ = some (.slice a.bA a.bn a.bc) := hP1.cell 4; have W1 := WantAt.start (own_chg hwva hc1 (fun b hb1 hb2 => hb2.elim (fun e => hwg (e ▸ hb1)) (fun e => (hwb b hb1).2 e))); have hbr1 := hbr.chg hc1 hsz hdis)
                | (at_builtin; refine wpList_append_any _ rfl _ _ _ rfl 0 5 i0 (.int .u8 0) 1 1 Try.underlying22 hi hz0 hz1 hz2 rfl (Nat.lt_succ_self 0) (.slice A1 zs.length c1) zs.length (cellsOf .u8 zs) rfl W1.own w.heap.size a.bA a.bn a.bc (cellsOf .u8 a.b) rfl hbr1 (cellsOf_one _ _) s2 s3 (Nat.zero_le _) ?_; intro v3 w3 hown3 hg3 hat3; have W3 := W1.step (Below.refl _ _) hg3 HBL.out.symm hown3 hat3; obtain ⟨A3, c3, rfl, _, _⟩ := own_form hown3; have hE := puts_end hw hwv hb hg hvb hwb hzl hzb (by have := HBL.out; omega) hbb ha hw1 hc1 hm1 W3)
                | (go_at_call 20; refine (wlen_n _ (zs.length + a.bn) _ _ _ hE.2 (by rw [List.length_append, HBL.out])).mono ?_; rintro e w4 ⟨rfl, rfl⟩))
              go_roundw
              case rel => exact ⟨k + 1, by omega, by omega, by go_num, hE.1⟩
              case measure => simp [intOf]; omega
            · have hk2' : (a.kind == 2) = false := by simpa using h2
              clear h0 h1 h2
              have hpl := padn_lt zs.length q3
              go_wp2_with (go_at_call 19; refine (pad_any _ v zs a.width _ hwa q3 hwid (by omega)).mono ?_; rintro e w1 ⟨rfl, v1, hw1, hc1, hm1⟩; have hP1 := hP.chg hc1 hpg; have W1 := WantAt.start (own_chg hwva hc1 (fun b hb1 hb2 => hb2.elim (fun e => hwg (e ▸ hb1)) (fun e => (hwb b hb1).2 e))))
              have hs1 := hc1.size
              go_loopw [4] (fun wv2 wq => ∃ q : Nat, q ≤ padn zs.length a.width ∧ WantAt w1 (.slice A1 zs.length c1) (zs ++ List.replicate q 0) wv2 wq ∧ ∃ A2 c2, wv2 = .slice A2 (zs.length + q) c2) (fun wv2 _ => zs.length + padn zs.length a.width - slen wv2)
              case atStart => exact ⟨0, Nat.zero_le _, by simpa using W1, A1, c1, rfl⟩
              case round =>
                obtain ⟨q, hq1, W2, A2, c2, rfl⟩ := hrel
                have p2 : _ = some (Value.int .i64 a.width) := (hP1.chg W2.chg hpw).cell 2
                have own2 := W2.own
                rw [List.length_append, List.length_replicate] at own2
                by_cases hql : q < padn zs.length a.width
                · obtain ⟨t1, t2⟩ := padn_more hql
                  have s2 : zs.length + q + 1 ≤ maxLen := by unfold maxLen; omega
                  have s3 : (zs.length + q + 1) * 1 ≤ 140737488355328 := by omega
                  go_wp2_with (at_builtin; refine wpList_append_any _ rfl _ _ _ rfl 0 5 i0 (.int .u8 0) 1 1 Try.underlying22 hi hz0 hz1 hz2 rfl (Nat.lt_succ_self 0) (.slice A2 (zs.length + q) c2) (zs.length + q) (cellsOf .u8 (zs ++ List.replicate q 0)) rfl (own2.alloc _) (wr.heap.size + 1) _ 1 1 [.int .u8 0] rfl (Reads.new1 _ _ _) (one_oneCell _ _) s2 s3 (Nat.zero_le _) ?_; intro v3 w3 hown3 hg3 hat3)
                  obtain ⟨A5, c5, rfl, _, _⟩ := own_form hown3
                  go_roundw
                  case rel =>
                    have hxl : (zs ++ List.replicate q (0 : Int)).length = zs.length + q := by rw [List.length_append, List.length_replicate]
                    have W3 := W2.step (ys := [0]) ((Below.refl _ _).alloc (Nat.le_refl _) _) hg3 rfl (hxl ▸ hown3) hat3
                    rw [List.append_assoc, ← List.replicate_succ'] at W3
                    exact ⟨q + 1, by omega, W3, A5, c5, rfl⟩
                  case measure => simp [slen]; omega
                · have e : q = padn zs.length a.width := by omega
                  have hd : 0 < a.width → (((zs.length : Int) + (q : Int)) % a.width == 0) = true := fun h => e ▸ padn_done zs.length h
                  rw [← e] at hw1
                  have hE := puts_end hw hwv hb hg hvb hwb hzl hzb (by rw [List.length_replicate]; omega) (AreB.zeros q) ha hw1 hc1 hm1 W2
                  clear e hql
                  by_cases hw0 : 0 < a.width
                  · have hd1 := hd hw0
                    clear hd
                    go_wp2_with (go_at_call 20; refine (wlen_n _ (zs.length + q) _ _ _ hE.2 (by rw [List.length_append, List.length_replicate])).mono ?_; rintro e w4 ⟨rfl, rfl⟩)
                    go_roundw
                    case rel => exact ⟨k + 1, by omega, by omega, by go_num, hE.1⟩
                    case measure => simp [intOf]; omega
                  · clear hd
                    go_wp2_with (go_at_call 20; refine (wlen_n _ (zs.length + q) _ _ _ hE.2 (by rw [List.length_append, List.length_replicate])).mono ?_; rintro e w4 ⟨rfl, rfl⟩)
                    go_roundw
                    case rel => exact ⟨k + 1, by omega, by omega, by go_num, hE.1⟩
                    case measure => simp [intOf]; omega
    · obtain ⟨zs, v, hw, hwv, hb, hg, hvb, hwb, hzl, hzb⟩ := hinv
      obtain ⟨A1, c1, rfl, _, _⟩ := own_form hwv
      have hR2 := Reads.of_own hwv
      have hs := hb.size
      have hstop : (k : Int) < (len : Int) → ¬ (k : Int) < 40 := fun h => by omega
      clear hlt
      by_cases hkl : (k : Int) < (len : Int)
      all_goals
        go_wp2_with (first
          | (go_at_call 21; refine (wdone_any _ v zs _ hw (by omega)).mono ?_; rintro e w1 ⟨A2, c2, rfl, hown1, hb1, _, _⟩; have hR1 := Reads.of_own hown1; have hR3 := hR2.below hb1)
          | (go_at_call 11; refine (same_yes _ _ _ _ _ _ zs zs _ hR1 hR3 hzb rfl).mono ?_; rintro e w3 ⟨rfl, rfl⟩)
          | (go_at_call 8; refine (awake_any _).mono ?_; rintro e w5 ⟨rfl, hb5⟩))
        go_ret
        exact ⟨rfl, (hb.trans (hb1.mono hs)).trans (hb5.mono (by have := hb1.size; omega))⟩

end Go.Proofs.Ytnkkfflaalipjaa
