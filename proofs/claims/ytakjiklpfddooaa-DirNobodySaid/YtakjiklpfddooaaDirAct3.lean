/-
  LAYER 7: WHAT shows DOES.
-/
import Derived.Test.YtakjiklpfddooaaDirAct
import Derived.Test.YtakjiklpfddooaaDirNames
import Derived.Deep.RegionHeld3
set_option linter.unusedVariables false
set_option linter.unusedSimpArgs false
namespace Go.Proofs.Ytakjiklpfddooaa
open Go.RowKit

/-- Under each name of a list that rises its own number is found. -/
theorem get_rise : ∀ {l : NmL} {k : Nat} {p : ByteArray × Int}, RiseN cfT l → l[k]? = some p → getN l p.1 = some p.2
  | [], k, p, _, h => by simp at h
  | q :: r, 0, p, _, h => by
    simp at h; subst h
    rw [getN_cons, if_pos rfl]
  | q :: r, k + 1, p, hr, h => by
    obtain ⟨h1, h2⟩ := List.pairwise_cons.1 hr
    have hp : r[k]? = some p := by simpa using h
    rw [getN_cons, if_neg (fun e => by
      have := h1 p (List.mem_of_getElem? hp)
      rw [e] at this
      exact cfT_tot.irr _ this)]
    exact get_rise h2 hp

set_option maxHeartbeats 4000000 in
set_option maxRecDepth 100000 in
theorem shows_any (p q : Nat) (base N : Nat) (T : Nat → Prop) (s : DB) (x : ByteArray) (w : World) (h : Two w base T p q s s) (hg : GoodD s N) (hN : N ≤ 900000) (hx : x.size ≤ maxLen) :
    Calls Try.prog 10 #[.pointer (some ⟨p, 0, none⟩), .pointer (some ⟨q, 0, none⟩), .string x] w fun e w' => e = .returned (.bool true) ∧ Below w.heap.size w w' := by
  obtain ⟨S, S2, bn, bs, pv, nv, sv, ov, h1, h2, -, -, -⟩ := h.ex
  obtain ⟨Ap, cp, rfl, -, -⟩ := own_form h1.pend
  obtain ⟨An, cn, rfl, hNm⟩ := Nms.of_own h2.now
  obtain ⟨Ao, co, rfl, -, -⟩ := own_form h2.pend
  obtain ⟨n, hn⟩ : ∃ n, n = s.now.length := ⟨_, rfl⟩
  obtain ⟨k, hk⟩ : ∃ k, k = s.ops.length := ⟨_, rfl⟩
  have hn9 : n ≤ 900000 := by have := hg.now; omega
  have D0 := (h1.cells (Below.refl _ _)).1
  have PN := Lib.hid (fun w1 (hb : Below w.heap.size w w1) => dpend_any p bn _ _ _ w1 (h1.cells hb).1 (h1.cells hb).2.2.1)
  have DN := Lib.hid (fun w1 (hb : Below w.heap.size w w1) => dnames_any p bn s.now w1 (h1.cells hb).1 (h1.below hb).now (by omega) hg.okn)
  have RN := Lib.hid (fun w1 (hb : Below w.heap.size w w1) => rnames_any An s.now.length cn w.heap.size s.now w1 (hNm.below hb) hb.size (by omega) hg.okn)
  have HC := Lib.hid (fun w1 (hb : Below w.heap.size w w1) => And.intro (h2.cells hb).1 (h2.cells hb).2.2.1)
  have DG := Lib.hid (fun (y : ByteArray) (hy : y.size ≤ maxLen) => dget_any p bn s.now y w D0 h1.now hy)
  have G1 := Lib.hid (dget_any p bn s.now x w D0 h1.now hx)
  have G2 := Lib.hid (rget_any An s.now.length cn w.heap.size s.now x w hNm)
  have HG := Lib.hid hg
  have HNM := Lib.hid hNm
  have hc0 := HC.out w (Below.refl _ _)
  obtain ⟨c0, c2⟩ := hc0
  have hb0 : Below w.heap.size w w.drew := below_drewn (Below.refl _ _) 1
  rw [← hn] at DN RN HC G2 HNM c0
  rw [← hk] at PN HC c2
  generalize (getN s.now x).getD 0 = vi at G1 G2
  generalize (getN s.now x).isSome = vb at G1 G2
  clear h h1 h2 hg hNm hn hk hx D0
  go_enter Try.func10, Try.ntmps10
  go_wp2_with (first
    | (go_at_call 22; go_loud (refine G1.out.mono ?_; rintro e w9 ⟨rfl, rfl⟩))
    | (go_at_call 26; go_loud (refine G2.out.mono ?_; rintro e w9 ⟨rfl, rfl⟩)))
  clear G1 G2
  go_loop [11, 12, 13] (fun i _ _ => ∃ j : Nat, j ≤ n ∧ i = .int .i64 j) (fun i _ _ => n - (intOf i).toNat)
  case atStart => exact ⟨0, Nat.zero_le _, rfl⟩
  case round =>
    obtain ⟨j, hj, rfl⟩ := hrel
    by_cases hlt : j < n
    · obtain ⟨b, off, pr, rfl, hb, hp, y0, y1⟩ := HNM.out.at_ hlt
      have hlti : (j : Int) < (n : Int) := by omega
      have DGJ := DG.out pr.1 (by have := (HG.out.okn pr (List.mem_of_getElem? hp)).1; unfold maxLen; omega)
      rw [get_rise HG.out.riseN hp] at DGJ
      have HDG := Lib.hid DGJ
      clear hp DGJ
      go_wp2_with (go_at_call 22; go_loud (refine HDG.out.mono ?_; rintro e w9 ⟨rfl, rfl⟩))
      go_round
      case rel => exact ⟨j + 1, by omega, by go_num⟩
      case measure => simp [intOf]; omega
    · obtain rfl : j = n := by omega
      have hlti : ¬ (j : Int) < (j : Int) := by omega
      go_wp2
      go_region_held3 (fun w' => w'.cell? ⟨q, 0, none⟩ = some (.slice An j cn) ∧ w'.cell? ⟨q, 2, none⟩ = some (.slice Ao k co))
        (first | assumption | exact HC.out _ (by assumption))
        (first
          | (go_at_call 16; go_loud (refine (DN.out _ hb0).mono ?_; rintro e wA ⟨A1, c1, rfl, hT1, hbx⟩; have hbA := hb0.trans (hbx.mono hb0.size); have HT1 := Lib.hid hT1; clear hbx hT1))
          | (go_at_call 17; go_loud (refine (RN.out _ hbA).mono ?_; rintro e wB ⟨A2, c3, rfl, hT2, hbx⟩; have hbB := hbA.trans (hbx.mono hbA.size); have HT2 := Lib.hid hT2; have HT3 := Lib.hid (HT1.out.below hbx); clear hbx hT2))
          | (go_at_call 15; go_loud (refine (texts_same A1 A2 j c1 c3 _ _ _ wB HT3.out HT2.out).mono ?_; rintro e w9 ⟨rfl, nq, rfl⟩; have hbC := below_drewn hbB nq))
          | (go_at_call 18; go_loud (refine (PN.out _ hbC).mono ?_; rintro e w9 ⟨rfl, rfl⟩)))
      clear hbA hbB
      go_wp2
      go_ret
      exact ⟨rfl, hbC⟩

end Go.Proofs.Ytakjiklpfddooaa
