/-
  WHAT A Writer OF PACKAGE le DOES: contracts of Words and Pad.
-/
import Derived.Test.YtdajjkjpjhpnjaaLeW
set_option linter.unusedVariables false
set_option maxRecDepth 100000
set_option linter.unusedSimpArgs false
namespace Go.Proofs.Ytdajjkjpjhpnjaa
open Go.RowKit

/-- Numbers of eight bytes, one behind the other. -/
def wordsB (l : List Int) : List Int := l.flatMap fun n => bts n 8

theorem wordsB_length : ∀ l : List Int, (wordsB l).length = 8 * l.length
  | [] => rfl
  | n :: r => by
    have h := wordsB_length r
    unfold wordsB at h ⊢
    rw [List.flatMap_cons, List.length_append, bts_length, h, List.length_cons]
    omega
theorem wordsB_bytes (l : List Int) : AreB (wordsB l) := fun z hz => by
  obtain ⟨n, _, h⟩ := List.mem_flatMap.1 hz
  exact bts_bytes n 8 z h
theorem wordsB_take {l : List Int} {k : Nat} (h : k < l.length) : wordsB (l.take (k + 1)) = wordsB (l.take k) ++ bts (l.getD k 0) 8 := by
  unfold wordsB
  rw [List.take_succ_eq_append_getElem h, List.flatMap_append]
  congr 1
  simp [List.getD_eq_getElem?_getD, List.getElem?_eq_getElem h]

theorem WrPost.start {w : World} {g : Nat} {v : Value} {zs : List Int} (h : Wr w g v zs) : WrPost w g v zs w := ⟨v, h, Chg.refl _ _, Moved.refl _ _⟩

/-- Two methods, one behind the other. -/
theorem WrPost.step {w w1 w2 : World} {g : Nat} {v v1 : Value} {zs2 : List Int} (hc : Chg (fun k => k = g ∨ v.ownBlock = some k) w w1) (hm : Moved w v v1) (h : WrPost w1 g v1 zs2 w2) : WrPost w g v zs2 w2 := by
  obtain ⟨v2, hw, hc2, hm2⟩ := h
  refine ⟨v2, hw, hc.trans hc2 (fun k hk hT => ?_), hm.trans hm2 hc.size⟩
  rcases hT with e | e
  · exact .inl e
  · rcases hm with e2 | ⟨j, e2, hj⟩
    · exact .inr (e2 ▸ e)
    · rw [e2] at e; injection e with e; omega

set_option maxHeartbeats 1000000 in
theorem words_any {B : Nat} (g : Nat) (v : Value) (zs : List Int) (A : Option Addr) (m c : Nat) (l : List Int) (w : World) (h : Wr w g v zs) (hr : Reads w B 1 A m (cellsOf .u64 l)) (hB : B ≤ w.heap.size)
    (hdis : 0 < m → ∀ ad, A = some ad → ¬ (ad.block = g ∨ v.ownBlock = some ad.block)) (hn : zs.length + 8 * m ≤ 100000000000) :
    Calls Try.prog 20 #[.pointer (some ⟨g, 0, none⟩), .slice A m c] w fun e w' => e = .returned (.tuple #[]) ∧ WrPost w g v (zs ++ wordsB l) w' := by
  have hl := hr.len
  have hm : m ≤ 100000000000 := by omega
  go_enter Try.func20, Try.ntmps20
  go_wp2_with fail
  go_loopw [8] (fun i wr => ∃ k : Nat, k ≤ m ∧ i = .int .i64 k ∧ WrPost w g v (zs ++ wordsB (l.take k)) wr) (fun i _ => m - (intOf i).toNat)
  case atStart => exact ⟨0, Nat.zero_le _, rfl, by simpa [wordsB] using WrPost.start h⟩
  case round =>
    obtain ⟨k, hk, rfl, hp⟩ := hrel
    by_cases hlt : k < m
    · obtain ⟨v1, hw1, hc1, hm1⟩ := hp
      have hrr := hr.chg hc1 hB hdis
      obtain ⟨b, off, rfl, _, hcc⟩ := hrr.plain (by omega)
      have hcell := hcc k hlt
      have hs : (zs ++ wordsB (l.take k)).length ≤ 100000000000 := by rw [List.length_append, wordsB_length, List.length_take]; omega
      generalize hxe : l.getD k 0 = x at hcell
      have HX := Lib.hid hxe
      clear hxe hcc hrr hr hdis
      go_wp2_with (go_at_call 21; refine (num_any g v1 _ x 8 wr hw1 hs).mono ?_; rintro e w2 ⟨rfl, hp2⟩)
      go_roundw
      case rel =>
        have hp3 := WrPost.step hc1 hm1 hp2
        rw [List.append_assoc, ← HX.out, ← wordsB_take (by omega)] at hp3
        exact ⟨k + 1, by omega, by go_num, hp3⟩
      case measure => simp [intOf]; omega
    · have e : k = m := by omega
      subst e
      rw [List.take_of_length_le (by omega)] at hp
      go_wp2
      go_end0
      exact ⟨rfl, hp⟩

/-- How many noughts Pad puts down. -/
def padn (len : Nat) (to : Int) : Nat := if to < 1 then 0 else if (len : Int) % to = 0 then 0 else (to - (len : Int) % to).toNat

theorem padn_lt (len : Nat) {to : Int} (h : to ≤ 4096) : padn len to ≤ 4096 := by
  unfold padn
  split
  · omega
  · split
    · omega
    · have := Int.emod_nonneg (len : Int) (show to ≠ 0 by omega)
      omega

set_option maxHeartbeats 1000000 in
theorem pad_any (g : Nat) (v : Value) (zs : List Int) (to : Int) (w : World) (h : Wr w g v zs) (ht : to ≤ 4096) (ht0 : -9223372036854775808 ≤ to) (hn : zs.length ≤ 1000000000) :
    Calls Try.prog 24 #[.pointer (some ⟨g, 0, none⟩), .int .i64 to] w fun e w' => e = .returned (.tuple #[]) ∧ WrPost w g v (zs ++ List.replicate (padn zs.length to) 0) w' := by
  obtain ⟨i0, hi, hz0, hz1, hz2⟩ := info_parts byteInfo
  have hcell := h.cell
  have hfr := h.fr
  have hown := h.own
  obtain ⟨A0, c0, rfl, _, _⟩ := own_form hown
  by_cases h1 : to < 1
  · have e : padn zs.length to = 0 := by unfold padn; rw [if_pos h1]
    rw [e]
    go_enter Try.func24, Try.ntmps24
    go_wp2
    refine bodyPost_ret (results_none rfl _ _ _) rfl ?_
    exact ⟨rfl, by simpa using WrPost.start h⟩
  · by_cases h2 : (zs.length : Int) % to = 0
    · have e : padn zs.length to = 0 := by unfold padn; rw [if_neg h1, if_pos h2]
      rw [e]
      have h3 : (((zs.length : Int) % to) == 0) = true := by simpa using h2
      clear h2
      go_enter Try.func24, Try.ntmps24
      go_wp2
      refine bodyPost_ret (results_none rfl _ _ _) rfl ?_
      exact ⟨rfl, by simpa using WrPost.start h⟩
    · have hp0 := Int.emod_nonneg (zs.length : Int) (show to ≠ 0 by omega)
      have hp1 := Int.emod_lt_of_pos (zs.length : Int) (show 0 < to by omega)
      obtain ⟨k, hk⟩ : ∃ k : Nat, (k : Int) = to - (zs.length : Int) % to := ⟨(to - (zs.length : Int) % to).toNat, by omega⟩
      have e : padn zs.length to = k := by unfold padn; rw [if_neg h1, if_neg h2]; omega
      rw [e]
      obtain ⟨v2, w2, hr, hown2, hg2, hat2⟩ := run_append_zeros_own (P := Try.prog) w 0 26 3 26 5 i0 (.int .u8 0) .i64 .i64 Try.underlying26 Try.underlying3 hi hz0 hz1 hz2 rfl rfl (.slice A0 zs.length c0) zs.length _ hown k (by omega) (by omega) (Nat.zero_le _)
      rw [hk] at hr
      have HR := Lib.hid hr
      have h3 : (((zs.length : Int) % to) == 0) = false := by simpa using h2
      have h4 : to - (zs.length : Int) % to ≤ 2147483647 - (zs.length : Int) := by omega
      clear hr e h2 hk
      have b2 : Blk w2 g 45 #[.slice A0 zs.length c0] := h.blk.grown hg2 (fun e => h.ne e.symm)
      have hc2 : w2.cell? ⟨g, 0, none⟩ = some (.slice A0 zs.length c0) := b2.cell 0
      have hf2 : w2.frozen? ⟨g, 0, none⟩ = false := b2.frozen 0
      obtain ⟨A2, c2, rfl, _, _⟩ := own_form hown2
      go_enter Try.func24, Try.ntmps24
      go_wp2_with (at_builtin; refine Lib.wpList_append_run _ rfl _ _ _ _ rfl _ _ rfl rfl _ _ HR.out ?_)
      go_end0
      refine ⟨rfl, ?_⟩
      have hx : cellsOf .u8 zs ++ List.replicate k (Value.int .u8 0) = cellsOf .u8 (zs ++ List.replicate k 0) := by rw [cellsOf_append]; simp [cellsOf]
      rw [hx] at hown2
      exact wr_end h (Below.refl _ _) hg2 (by rw [List.length_append, List.length_replicate]; exact hown2) hat2

end Go.Proofs.Ytdajjkjpjhpnjaa
