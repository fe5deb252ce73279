/-
  LeBack: the walk of the statement's own text.
-/
import Derived.Test.YtnkkfflaalipjaaLeBackP
import Derived.Test.YtnkkfflaalipjaaLePutsP
set_option linter.unusedVariables false
set_option linter.unusedSimpArgs false
namespace Go.Proofs.Ytnkkfflaalipjaa
open Go.RowKit

set_option maxRecDepth 100000 in
set_option maxHeartbeats 4000000 in
theorem back_walk (A : Option Addr) (ln lc : Nat) (l : List Int) (A1 : Option Addr) (bn bc : Nat) (b : List Int) (t : Int) (w : World) (hl : InInts w .u64 A ln lc l) (hb : InInts w .u8 A1 bn bc b) (ht : (Lit.int .u8 t).wf = true) :
    Calls Try.prog 7 #[.slice A ln lc, .slice A1 bn bc, .int .u8 t] w fun e w' => e = .returned (.bool true) ∧ Below w.heap.size w w' := by
  by_cases hq : 100 < ln ∨ 500 < bn
  · rcases hq with hq | hq
    all_goals
      go_enter Try.func7, Try.ntmps7
      go_wp2_with (go_at_call 8; refine (awake_any _).mono ?_; rintro e w5 ⟨rfl, hb5⟩)
    all_goals
      go_ret
      exact ⟨rfl, hb5⟩
  · have q1 : (ln : Int) ≤ 100 := by omega
    have q2 : (bn : Int) ≤ 500 := by omega
    have ht8 := wf_u8_bd ht
    have hbb : AreB b := fun z hz => wf_u8_bd (hb.wf z hz)
    have hlw : ∀ z ∈ l, 0 ≤ z ∧ z < 18446744073709551616 := fun z hz => wf_u64_bd (hl.wf z hz)
    have hbl := hb.reads.len
    have hll := hl.reads.len
    have hg : w.heap.size ≤ w.heap.size := Nat.le_refl _
    have hpn := padn_lt bn (to := t) (by omega)
    have W0 : WB w w.heap.size (.slice none 0 0) [] (w.alloc (.cells #[.slice none 0 0] 34)) :=
      ⟨⟨Blk.new _ _ _, World.ownsRow_nil _ _ _ _⟩, (Below.refl _ _).alloc (Nat.le_refl _) _, fun j hj => by simp [Value.ownBlock] at hj⟩
    have hdisj : ∀ v : Value, (∀ j, v.ownBlock = some j → w.heap.size ≤ j) → 0 < ln → ∀ ad, A = some ad → ¬ (ad.block = w.heap.size ∨ v.ownBlock = some ad.block) := fun v hv hn0 ad e => by
      obtain ⟨ad', e', hb', _⟩ := hl.reads.2 hn0
      rw [e] at e'; injection e' with e'
      subst e'
      rintro (e2 | e2)
      · omega
      · have := hv _ e2; omega
    have L1 : ([] ++ b : List Int).length = bn := by simpa using hbl
    have HBL := Lib.hid hbl
    have HLL := Lib.hid hll
    have HW := Lib.hid hlw
    have HL1 := Lib.hid L1
    have HPN := Lib.hid (rfl : padn bn t = padn bn t)
    obtain ⟨pn, hpne⟩ : ∃ pn, padn bn t = pn := ⟨_, rfl⟩
    rw [hpne] at hpn
    have HPE := Lib.hid hpne
    clear hbl hll hlw L1 hpne
    have zlen : Hid (((([] ++ b) ++ List.replicate pn 0) ++ wordsB l).length = bn + pn + 8 * ln) := by
      show _ = _
      rw [List.length_append, List.length_append, HL1.out, List.length_replicate, wordsB_length, HLL.out]
    have d1 : Hid ((([] ++ b) ++ List.replicate pn 0 ++ wordsB l).take bn = b) := by
      show _ = _
      rw [List.nil_append, List.append_assoc, List.take_left' HBL.out]
    have d2 : Hid ((((([] ++ b) ++ List.replicate pn 0 ++ wordsB l).drop bn).drop pn) = wordsB l ++ []) := by
      show _ = _
      rw [List.nil_append, List.append_assoc, List.drop_left' HBL.out, List.drop_left' (List.length_replicate ..), List.append_nil]
    have zb : AreB (([] ++ b) ++ List.replicate pn 0 ++ wordsB l) := by
      rw [List.nil_append]; exact (hbb.append (AreB.zeros pn)).append (wordsB_bytes l)
    obtain ⟨N, hN⟩ : ∃ N, bn + pn + 8 * ln = N := ⟨_, rfl⟩
    rw [hN] at zlen
    have hN1 : N ≤ bn + pn + 8 * ln := by omega
    have hN2 : bn + pn + 8 * ln ≤ N := by omega
    clear hN
    generalize hzs : ([] ++ b) ++ List.replicate pn 0 ++ wordsB l = zs at zlen d1 d2 zb
    have HZS := Lib.hid hzs
    clear hzs
    have HWR : Hid (wrds ln (wordsB l ++ []) = l) := by
      show _ = _
      rw [← HLL.out]; exact wrds_wordsB l [] HW.out
    have tq : ((pn : Int) != (bn : Int) + (pn : Int) - (bn : Int)) = false := by simp; omega
    go_enter Try.func7, Try.ntmps7
    go_wp2_with (first
      | (go_at_call 18; refine (raw_any _ _ [] A1 bn bc b _ W0.wr (hb.reads.below W0.bel) (by simp; omega)).mono ?_; rintro e w1 ⟨rfl, hp1⟩; obtain ⟨v1, W1⟩ := W0.step hg hp1)
      | (go_at_call 19; refine (pad_any _ v1 ([] ++ b) t _ W1.wr (by omega) (by omega) (by rw [HL1.out]; omega)).mono ?_; rintro e w2 ⟨rfl, hp2⟩; rw [HL1.out, HPE.out] at hp2; obtain ⟨v2, W2⟩ := W1.step hg hp2)
      | (go_at_call 20; refine (wlen_n _ (bn + pn) v2 _ _ W2.wr (by rw [List.length_append, HL1.out, List.length_replicate])).mono ?_; rintro e w3 ⟨rfl, rfl⟩)
      | (go_at_call 17; refine (words_any _ v2 _ A ln lc l _ W2.wr (hl.reads.below W2.bel) W2.bel.size (hdisj v2 W2.low) (by rw [List.length_append, HL1.out, List.length_replicate]; omega)).mono ?_; rintro e w4 ⟨rfl, hp4⟩; rw [HZS.out] at hp4; obtain ⟨v4, W4⟩ := W2.step hg hp4)
      | (go_at_call 21; refine (wdone_n _ N v4 zs _ W4.wr zlen.out (by omega)).mono ?_; rintro e w5 ⟨Ax, cx, rfl, hR5, hb5, hx1, hx2⟩; have b5 := W4.bel.trans (hb5.mono W4.bel.size))
      | (go_at_call 22; refine (read_zero Ax N cx zs _ hR5 (Nat.le_refl _) hx1 hx2 (by omega)).mono ?_; rintro e w6 ⟨g, B, A6, c6, rfl, hrd6, hb6, hg6⟩; have R6 : RB w B g 0 A6 N c6 zs false w6 := ⟨hrd6, b5.trans (hb6.mono b5.size)⟩; have hgg : w.heap.size ≤ g := Nat.le_trans b5.size hg6)
      | (go_at_call 26; have tk := tk1; refine (rraw_at B g n7 c7 pn _ _ A7 _ false _ R7.rd (by omega) (by omega) (by omega) (by omega) (by omega)).mono ?_; rintro e w8 ⟨A9, c9, rfl, hR9, hp8⟩; rw [d2.out] at hp8; obtain ⟨A8, n8, c8, R8⟩ := R7.step hgg hp8; have hn8 := R8.rd.reads.len; rw [List.length_append, wordsB_length, HLL.out] at hn8; have hn8a : n8 ≤ 8 * ln := (by simp at hn8; omega); have hn8b : 8 * ln ≤ n8 := (by simp at hn8; omega); clear hn8)
      | (go_at_call 26; (fail_if_success have tk := tk1); refine (rraw_at B g N c6 bn 0 _ A6 zs false _ R6.rd rfl (by omega) (by omega) (by omega) (by omega)).mono ?_; rintro e w7 ⟨A10, c10, rfl, hR10, hp7⟩; rw [d1.out] at hR10; obtain ⟨A7, n7, c7, R7⟩ := R6.step hgg hp7; have hn7 := R7.rd.reads.len; rw [List.length_drop, zlen.out] at hn7; have hn7a : n7 ≤ N - bn := (by omega); have hn7b : N - bn ≤ n7 := (by omega); clear hn7; have tk1 : True := trivial)
      | (go_at_call 11; refine (same_yes _ _ _ _ _ _ b b _ hR10 (hb.reads.below R7.bel) hbb rfl).mono ?_; rintro e w7b ⟨rfl, rfl⟩)
      | (go_at_call 24; refine (rwords_at B g n8 c8 ln _ _ A8 _ false _ R8.rd ((wordsB_bytes l).append AreB.nil) rfl (by omega) (by omega) (by omega) (by omega)).mono ?_; rintro e w9 ⟨A11, c11, rfl, hR11, hp9⟩; rw [HWR.out] at hR11; obtain ⟨A9', n9, c9', R9⟩ := R8.step hgg hp9)
      | (go_at_call 25; refine (rwsame_any A11 A ln c11 lc l _ hR11 (hl.reads.below R9.bel) (by omega)).mono ?_; rintro e w10 ⟨rfl, hb10⟩; have R10 := R9.below hb10)
      | (go_at_call 27; refine (at_at B g n9 c9' _ (N : Int) A9' _ false _ R10.rd (by omega)).mono ?_; rintro e w11 ⟨rfl, hb11⟩; have b11 := R10.bel.trans (hb11.mono R10.bel.size))
      | (go_at_call 8; refine (awake_any _).mono ?_; rintro e w12 ⟨rfl, hb12⟩; have b12 := b11.trans (hb12.mono b11.size)))
    go_ret
    exact ⟨rfl, b12⟩

end Go.Proofs.Ytnkkfflaalipjaa
