/-
  LAYER 6: WHAT resized DOES: its contract; a step as 66 cells of the program's.
-/
import Derived.Test.YtdpoffedmafmhaaFileFn
set_option linter.unusedVariables false
set_option linter.unusedSimpArgs false
namespace Go.Proofs.Ytdpoffedmafmhaa
open Go.RowKit

theorem sizeL_more {zs : List Int} {n : Nat} (h : zs.length ≤ n) : cellsOf .u8 (sizeL zs n) = cellsOf .u8 zs ++ List.replicate (n - zs.length) (Value.int .u8 0) := by
  unfold sizeL
  rw [List.take_of_length_le h, cellsOf_append]
  simp [cellsOf]

theorem resized_any (A : Option Addr) (len cap n : Nat) (zs : List Int) (base : Nat) (w : World) (hown : w.ownsRow base 5 1 (.slice A len cap) len (cellsOf .u8 zs)) (hB : base ≤ w.heap.size) (hn : n ≤ 2147483647) (hl : len ≤ 2147483647) :
    Calls Try.prog 35 #[.slice A len cap, .int .i64 n] w (Reown base (.slice A len cap) (sizeL zs n) w) := by
  obtain ⟨i0, hi, hz0, hz1, hz2⟩ := info_parts byteInfo
  have hlen : zs.length = len := by have := hown.1; rw [cellsOf_length] at this; omega
  obtain ⟨A', c', e, hc1, hc2⟩ := own_form hown
  injection e with e1 _ e3
  subst e1; subst e3
  have hsl := sizeL_length zs n
  rcases Nat.lt_trichotomy n len with h | h | h
  · have HS := Lib.hid (size_any A len cap n zs w.heap.size w (Reads.of_own hown) (Nat.le_refl _) hn hc1)
    have HSL := Lib.hid hsl
    have HO := Lib.hid hown
    clear hown hsl
    have hlt : (n : Int) < (len : Int) := by omega
    go_enter Try.func35, Try.ntmps35
    go_wp2_with (go_at_call 27; refine HS.out.mono ?_; rintro e w1 ⟨g, hg, rfl, hb, hw⟩; rw [HSL.out])
    go_ret
    refine ⟨some ⟨g, 0, none⟩, n, by rw [HSL.out]; rfl, by rw [HSL.out]; exact own_of_blk hb (by rw [cellsOf_length]; exact HSL.out) (by omega) (by unfold maxLen; omega), Chg.of_below hw (Nat.le_refl _) _, .inr ⟨g, rfl, hg⟩⟩
  · subst h
    have hr := run_append_zero0 (P := Try.prog) w base 26 3 26 5 i0 (.int .u8 0) .i64 .i64 Try.underlying26 Try.underlying3 hi hz0 (.slice A n cap) n 1 _ hown
    have HR := Lib.hid hr
    have hself : sizeL zs n = zs := by rw [← hlen]; exact sizeL_self zs
    have HSELF := Lib.hid hself
    have HSL := Lib.hid hsl
    have HO := Lib.hid hown
    have HL := Lib.hid hlen
    clear hr hself hown hsl hlen
    go_enter Try.func35, Try.ntmps35
    go_wp2_with (at_builtin; refine Lib.wpList_append_run _ rfl _ _ _ _ rfl _ _ rfl rfl _ _ HR.out ?_)
    go_ret
    refine ⟨A, cap, by rw [HSELF.out, HL.out]; rfl, by rw [HSELF.out, HL.out]; exact HO.out, Chg.refl _ _, by rw [HSL.out]; exact Moved.refl _ _⟩
  · obtain ⟨k, hk⟩ : ∃ k, k = n - len := ⟨_, rfl⟩
    obtain ⟨v2, w2, hr, hown2, hg2, hat2⟩ := run_append_zeros_own (P := Try.prog) w base 26 3 26 5 i0 (.int .u8 0) .i64 .i64 Try.underlying26 Try.underlying3 hi hz0 hz1 hz2 rfl rfl (.slice A len cap) len _ hown k (by omega) (by omega) hB
    have hki : (k : Int) = (n : Int) - (len : Int) := by omega
    rw [hki] at hr
    have hx : cellsOf .u8 (sizeL zs n) = cellsOf .u8 zs ++ List.replicate k (Value.int .u8 0) := by rw [sizeL_more (by omega), hlen, hk]
    rw [← hx, show len + k = n by omega] at hown2
    have HR := Lib.hid hr
    have HSL := Lib.hid hsl
    have HO := Lib.hid hown
    have hlt : ¬ (n : Int) < (len : Int) := by omega
    have HMV := Lib.hid (show Moved w (.slice A len cap) v2 by
      rcases hat2 with e | e
      · exact .inl e
      · exact .inr ⟨_, e, Nat.le_refl _⟩)
    obtain ⟨A2, c2, rfl, _, _⟩ := own_form hown2
    clear hr hx hown hsl hlen hki hk hat2
    go_enter Try.func35, Try.ntmps35
    go_wp2_with (at_builtin; refine Lib.wpList_append_run _ rfl _ _ _ _ rfl _ _ rfl rfl _ _ HR.out ?_)
    go_ret
    exact ⟨A2, c2, by rw [HSL.out]; rfl, by rw [HSL.out]; exact hown2, Chg.of_grown hg2, by rw [HSL.out]; exact HMV.out⟩

/-! ### a step -/
def stepA (b : Bool) (n : Int) : Array Value := ⟨.bool b :: .int .i64 n :: List.replicate 64 (.int .u8 0)⟩
theorem run_step1 (n : Int) (w : World) : (Instr.build 57 #[(1, .int .i64 n)]).run Try.prog w = .ok (.agg (stepA false n)) w := by kernel_rfl
theorem run_step2 (n : Int) (w : World) : (Instr.build 57 #[(0, .bool true), (1, .int .i64 n)]).run Try.prog w = .ok (.agg (stepA true n)) w := by kernel_rfl
theorem run_zeroS (w : World) : Sem.run Try.prog (zeroValue 57) w = .ok (.agg (stepA false 0)) w := by kernel_rfl
theorem stepInfo : (Try.prog.info? 57).map (fun i => (i.zero, i.size, i.bytes)) = some (some (.agg (stepA false 0)), 66, 80) := by kernel_rfl
theorem stepSize : (Try.prog.info? 57).map (·.size) = some 66 := by kernel_rfl
theorem stepA_toList (b : Bool) (n : Int) : (stepA b n).toList = .bool b :: .int .i64 n :: cellsOf .u8 (List.replicate 64 0) := by
  unfold stepA; simp [cellsOf]
theorem stepA_size (b : Bool) (n : Int) : (stepA b n).size = 66 := by simp [stepA]
theorem stepC_size (n : Nat) : stepC ⟨true, n, []⟩ = (stepA true n).toList := by rw [stepA_toList]; unfold stepC sizeL; simp
theorem stepC_sec (n : Nat) (zs : List Int) (h : zs.length = 64) : stepC ⟨false, n, zs⟩ = splice (stepA false n).toList 2 (cellsOf .u8 zs) := by
  have e : sizeL zs 64 = zs := by rw [← h]; exact sizeL_self zs
  rw [stepA_toList]
  unfold stepC splice
  rw [e, cellsOf_length, h]
  simp [cellsOf]

end Go.Proofs.Ytdpoffedmafmhaa
