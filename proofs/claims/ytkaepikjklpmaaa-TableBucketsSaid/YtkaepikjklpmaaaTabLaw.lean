/-
  LAYER 13: what the statements share: a fresh image, the example.
-/
import Derived.Test.YtkaepikjklpmaaaTabState
set_option linter.unusedVariables false
set_option maxRecDepth 100000
set_option linter.unusedSimpArgs false
namespace Go.Proofs.Ytkaepikjklpmaaa
open Go.RowKit

theorem tfresh_any {base : Nat} (key data fields : Int) (lm : Nat) (w : World) (hk : IsU key) (hd : 0 ≤ data ∧ data < 256) (hf : 0 ≤ fields ∧ fields < 256) (hbas : base ≤ w.heap.size) (hlm : lm ≤ 1048576) :
    Calls Try.prog 7 #[.int .u64 key, .int .u8 data, .int .u8 fields, .int .i64 lm] w fun e w' => ∃ p, e = .returned (.pointer (some ⟨p, 0, none⟩)) ∧ Below w.heap.size w w' ∧
      TS w' base (fun j => w.heap.size ≤ j ∧ j < w'.heap.size) p key (1 + data % 6) (1 + fields % 6) lm [] (newK (1 + data % 6) (1 + fields % 6)) 0 := by
  have hr1 : Int.tmod data 6 = data % 6 := Int.tmod_eq_emod_of_nonneg hd.1
  have hr2 : Int.tmod fields 6 = fields % 6 := Int.tmod_eq_emod_of_nonneg hf.1
  obtain ⟨x, hx⟩ : ∃ x, data % 6 = x := ⟨_, rfl⟩
  obtain ⟨y, hy⟩ : ∃ y, fields % 6 = y := ⟨_, rfl⟩
  rw [hx] at hr1 ⊢
  rw [hy] at hr2 ⊢
  have hx2 : 0 ≤ x ∧ x < 6 := by omega
  have hy2 : 0 ≤ y ∧ y < 6 := by omega
  have e1 : IntKind.i64.wrap x = x := by rw [IntKind.wrap_i64]; omega
  have e2 : IntKind.i64.wrap y = y := by rw [IntKind.wrap_i64]; omega
  have e3 : IntKind.i64.wrap (1 + x) = 1 + x := by rw [IntKind.wrap_i64]; omega
  have e4 : IntKind.i64.wrap (1 + y) = 1 + y := by rw [IntKind.wrap_i64]; omega
  have e5 : IntKind.u8.wrap x = x := by rw [IntKind.wrap_u8]; omega
  have e6 : IntKind.u8.wrap y = y := by rw [IntKind.wrap_u8]; omega
  have NW := Lib.hid (fun G w1 (hb : base ≤ w1.heap.size) (ht : IsTable w1 G) => tnew_ts G key (1 + x) (1 + y) lm w1 hk (by omega) (by omega) ht hb hlm)
  clear hx hy hx2 hy2 hd hf
  go_enter Try.func7, Try.ntmps7
  go_wp2_with (first
    | (go_at_call 23; refine (crcMake_any _).mono ?_; rintro e w1 ⟨rfl, ht, hb1⟩; have HT := Lib.hid ht; clear ht)
    | (go_at_call 22; refine (NW.out _ _ (Nat.le_trans hbas hb1.size) HT.out).mono ?_; rintro e w2 ⟨p, rfl, hb2, h2⟩))
  go_ret
  exact ⟨p, rfl, hb1.trans (hb2.mono hb1.size), h2.mono (fun j hj => ⟨Nat.le_trans hb1.size hj.1, hj.2⟩) (fun j hj => ⟨Nat.le_trans hbas hj.1, hj.2⟩)⟩

/-- Three bytes, written out. -/
theorem reads_three (w : World) (a b c : Int) : Reads (w.alloc (.cells #[.int .u8 a, .int .u8 b, .int .u8 c] 5)) (w.alloc (.cells #[.int .u8 a, .int .u8 b, .int .u8 c] 5)).heap.size 1 (some ⟨w.heap.size, 0, none⟩) 3 (cellsOf .u8 [a, b, c]) :=
  Blk.bytes (Blk.new w _ _) rfl rfl

set_option maxHeartbeats 1000000 in
theorem awake_any (w : World) : Calls Try.prog 6 #[] w fun e w' => e = .returned (.bool true) ∧ Below w.heap.size w w' := by
  have FR := Lib.hid (tfresh_any (base := w.heap.size) 5 2 2 5000 w ⟨by omega, by omega⟩ (by omega) (by omega) (Nat.le_refl _) (by omega))
  have hr3 : rightN ((1 : Nat) : Int) (kwN ((1 : Nat) : Int)) 3 0 = true := by decide
  have hb1 : AreB [65, 61, 49] := by intro z hz; simp at hz; omega
  have hb2 : AreB [66, 61, 50] := by intro z hz; simp at hz; omega
  have hN : newK (1 + 2 % 6) (1 + 2 % 6) = 304 := by decide
  have hT : tlen 1 3 = 64 := by decide
  rw [hN] at FR
  have A1 := Lib.hid (fun (w1 : World) (S : Nat → Prop) (p : Nat) (h : TS w1 w.heap.size S p 5 (1 + 2 % 6) (1 + 2 % 6) 5000 [] 304 0) =>
    (tadd_ts (h.below (boxed w1 (.cells #[.int .u8 65, .int .u8 61, .int .u8 49] 5))) (by omega) 1 (.inl rfl) _ 3 3 [65, 61, 49] (reads_three w1 65 61 49) (Nat.le_refl _) hb1 (by omega) (by omega) (by omega) hr3).mono (fun e w' h => h.new rfl (by decide)))
  have A2 := Lib.hid (fun (w1 : World) (S : Nat → Prop) (p : Nat) (h : TS w1 w.heap.size S p 5 (1 + 2 % 6) (1 + 2 % 6) 5000 ([] ++ [⟨1, [65, 61, 49], 304⟩]) (304 + tlen 1 3) (0 + 1)) =>
    (tadd_ts (h.below (boxed w1 (.cells #[.int .u8 66, .int .u8 61, .int .u8 50] 5))) (by omega) 1 (.inl rfl) _ 3 3 [66, 61, 50] (reads_three w1 66 61 50) (Nat.le_refl _) hb2 (by omega) (by omega) (by omega) hr3).mono (fun e w' h => h.new rfl (by decide)))
  have A3 := Lib.hid (fun (w1 : World) (S : Nat → Prop) (p : Nat) (h : TS w1 w.heap.size S p 5 (1 + 2 % 6) (1 + 2 % 6) 5000 (([] ++ [⟨1, [65, 61, 49], 304⟩]) ++ [⟨1, [66, 61, 50], 304 + tlen 1 3⟩]) (304 + tlen 1 3 + tlen 1 3) (0 + 1 + 1)) =>
    (tadd_ts (h.below (boxed w1 (.cells #[.int .u8 65, .int .u8 61, .int .u8 49] 5))) (by omega) 1 (.inl rfl) _ 3 3 [65, 61, 49] (reads_three w1 65 61 49) (Nat.le_refl _) hb1 (by omega) (by omega) (by omega) hr3).mono (fun e w' h => h.old (a := 304) rfl))
  have HB := Lib.hid (fun (w1 w2 : World) (S : Nat → Prop) (o : Obj) (h1 : Below w.heap.size w w1) (hS : ∀ j, S j → w.heap.size ≤ j ∧ j < w1.heap.size) (h2 : Chg S (w1.alloc o) w2) => ((h1.alloc h1.size o).trans (h2.below (h1.alloc h1.size o).size (fun j _ hj => (hS j hj).1)) : Below w.heap.size w w2))
  clear hN hr3 hb1 hb2
  go_enter Try.func6, Try.ntmps6
  go_wp2_with (first
    | (go_at_call 7; refine FR.out.mono ?_; rintro e w1 ⟨p, rfl, hb1, T1⟩)
    | (go_at_call 12; refine (A1.out _ _ _ T1).mono ?_; rintro e w2 ⟨rfl, hc2, T2⟩; have hb2 := HB.out _ _ _ _ hb1 T1.foot hc2; clear T1 hb1 hc2)
    | (go_at_call 12; refine (A2.out _ _ _ T2).mono ?_; rintro e w3 ⟨rfl, hc3, T3⟩; have hb3 := HB.out _ _ _ _ hb2 T2.foot hc3; clear T2 hb2 hc3)
    | (go_at_call 12; refine (A3.out _ _ _ T3).mono ?_; rintro e w4 ⟨rfl, hb4⟩; have hb5 := (hb3.alloc hb3.size _).trans (hb4.mono (hb3.alloc hb3.size _).size); clear T3 hb4 hb3))
  go_ret
  exact ⟨rfl, hb5⟩

end Go.Proofs.Ytkaepikjklpmaaa
