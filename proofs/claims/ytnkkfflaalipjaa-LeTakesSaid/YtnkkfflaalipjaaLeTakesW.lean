/-
  LeTakes: the walk of the statement's own text.
-/
import Derived.Test.YtnkkfflaalipjaaLeTakesP
import Derived.Test.YtnkkfflaalipjaaLeAwake
set_option linter.unusedVariables false
set_option linter.unusedSimpArgs false
namespace Go.Proofs.Ytnkkfflaalipjaa
open Go.RowKit

theorem reads_zero (w : World) (B size : Nat) (A : Option Addr) : Reads w B size A 0 [] := ⟨by simp, fun h => absurd h (by omega)⟩

set_option maxRecDepth 100000 in
set_option maxHeartbeats 8000000 in
theorem takes_bad0 (A : Option Addr) (len cap : Nat) (bs : List Int) (pos0 : Int) (AL : Option Addr) (ln lc : Nat) (acts : List ActV) (w : World) (hin : InInts w .u8 A len cap bs) (hacts : InActs w AL ln lc acts) (hl2 : len ≤ 2000) (hp : pos0 < 0 ∨ (len : Int) < pos0) :
    Calls Try.prog 6 #[.slice A len cap, .int .i64 pos0, .slice AL ln lc] w fun e w' => e = .returned (.bool true) ∧ Below w.heap.size w w' := by
  have hlen := hin.reads.len
  have hbs : AreB bs := fun z hz => wf_u8_bd (hin.wf z hz)
  have hle := hin.le
  have hcap := hin.cap
  have hlle := hacts.le
  have hlcap := hacts.cap
  have hl0 : ln ≤ 9223372036854775807 := by omega
  have hll := hacts.length
  have HL := Lib.hid hll
  have h2000 : (len : Int) ≤ 2000 := by omega
  have hbl2 : bs.length ≤ 2000 := by omega
  have HLEN := Lib.hid hlen
  clear hll hlen
  rcases hp with hp | hp
  all_goals
    go_enter Try.func6, Try.ntmps6
    go_wp2_with (go_at_call 22; refine (read_badT A len cap bs pos0 w (by omega)).mono ?_; rintro e w1 ⟨g, B, rfl, hgg, T0⟩)
    go_loopw [1, 8, 9] (fun s1 s8 i wr => ∃ (k pos : Nat) (bad : Bool), bad = true ∧ k ≤ ln ∧ k ≤ 40 ∧ s1 = .int .i64 pos ∧ s8 = .bool bad ∧ i = .int .i64 k ∧ TS w B g bs pos bad wr) (fun _ _ i _ => 40 - (intOf i).toNat)
    case atStart => exact ⟨0, 0, true, rfl, Nat.zero_le _, by omega, rfl, rfl, rfl, T0⟩
    case round =>
      obtain ⟨k, pos, bad, rfl, hk, hk40, rfl, rfl, rfl, hts⟩ := hrel
      by_cases hlt : k < ln ∧ k < 40
      · obtain ⟨hlt1, hlt2⟩ := hlt
        obtain ⟨b, off, rfl, hbl, hcells⟩ := hacts.cells (by omega)
        have hk2 : k < acts.length := by rw [HL.out]; exact hlt1
        have hat := hcells k acts[k] (List.getElem?_eq_getElem hk2)
        have hok := hacts.ok acts[k] (List.getElem_mem hk2)
        generalize acts[k] = a at hat hok
        obtain ⟨g0, g1, g2, g3, g4⟩ := hat.below hts.bel hbl
        have hpl := hts.len
        have hwid := bounds_i64 hok.width
        have hw1 := hwid.1
        have hw2 := hwid.2
        have hn0 : 0 ≤ a.n := (wf_u64_bd hok.n).1
        have hlnc : a.ln ≤ 9223372036854775807 := by have := hok.l.le; have := hok.l.cap; omega
        clear hcells
        by_cases h1 : a.kind = 1
        · have k1 : (a.kind == 1) = true := by simpa using h1
          have k2 : (a.kind == 2) = false := by rw [h1]; rfl
          clear h1
          go_wp2_with (first
            | (go_at_call 23; refine (num_badT hgg a.width true hts (.inl rfl) hw1 hw2).mono ?_; rintro e w1 ⟨rfl, T1⟩; have T2 := (T1.below ((Below.refl _ _).alloc (Nat.le_refl _) (.cells #[] 24))).below ((Below.refl _ _).alloc (Nat.le_refl _) (.cells #[] 5)); obtain ⟨f0, f1, f2, f3, f4⟩ := hat.below T2.bel hbl)
            | (go_at_call 10; refine (rget_any A len cap (pos : Int) a.width bs _ (hin.reads.below T2.bel) hbs hle hcap (by omega) (by omega) hw1 hw2).mono ?_; rintro e w2 ⟨rfl, rfl⟩)
            | (go_at_call 24; refine (words_badT hgg hbl2 a.ln true T2 (.inl rfl)).mono ?_; rintro e w3 ⟨A3, c3, rfl, T3⟩; obtain ⟨e0, e1, e2, e3, e4⟩ := hat.below T3.bel hbl))
          by_cases hz : a.ln = 0
          · have hz' : (a.ln : Int) ≤ 0 := by omega
            refine wp_loop_rounds 1 ?_
            rw [rounds_succ]
            clear hz
            go_wp2_with (go_at_call 25; refine (rwsame_any A3 none 0 c3 0 [] _ (reads_zero _ 0 1 A3) (reads_zero _ 0 1 none) (by omega)).mono ?_; rintro e w4 ⟨rfl, hb4⟩; have T4 := T3.below hb4; obtain ⟨e0, e1, e2, e3, e4⟩ := hat.below T4.bel hbl)
            go_roundw
            case rel => exact ⟨k + 1, pos, true, rfl, by omega, by omega, rfl, rfl, by go_num, T4⟩
            case measure => simp [intOf]; omega
          · have hz' : (0 : Int) < (a.ln : Int) := by omega
            refine wp_loop_rounds 1 ?_
            rw [rounds_succ]
            clear hz
            go_wp2_with (go_at_call 25; refine (rwsame_any A3 none 0 c3 0 [] _ (reads_zero _ 0 1 A3) (reads_zero _ 0 1 none) (by omega)).mono ?_; rintro e w4 ⟨rfl, hb4⟩; have T4 := T3.below hb4; obtain ⟨e0, e1, e2, e3, e4⟩ := hat.below T4.bel hbl)
            go_roundw
            case rel => exact ⟨k + 1, pos, true, rfl, by omega, by omega, rfl, rfl, by go_num, T4⟩
            case measure => simp [intOf]; omega
        · have k1 : (a.kind == 1) = false := by simpa using h1
          by_cases h2 : a.kind = 2
          · have k2 : (a.kind == 2) = true := by simpa using h2
            clear h1 h2
            go_wp2_with (first
              | (go_at_call 23; refine (num_badT hgg a.width true hts (.inl rfl) hw1 hw2).mono ?_; rintro e w1 ⟨rfl, T1⟩; have T2 := (T1.below ((Below.refl _ _).alloc (Nat.le_refl _) (.cells #[] 24))).below ((Below.refl _ _).alloc (Nat.le_refl _) (.cells #[] 5)); obtain ⟨f0, f1, f2, f3, f4⟩ := hat.below T2.bel hbl)
              | (go_at_call 10; refine (rget_any A len cap (pos : Int) a.width bs _ (hin.reads.below T2.bel) hbs hle hcap (by omega) (by omega) hw1 hw2).mono ?_; rintro e w2 ⟨rfl, rfl⟩)
              | (go_at_call 26; refine (raw_badT hgg hbl2 _ (a.n % 100).toNat true T2 (by omega) (.inl rfl)).mono ?_; rintro e w3 ⟨A3, c3, rfl, T3⟩; obtain ⟨e0, e1, e2, e3, e4⟩ := hat.below T3.bel hbl))
            go_roundw
            case rel => exact ⟨k + 1, pos, true, rfl, by omega, by omega, rfl, rfl, by go_num, T3⟩
            case measure => simp [intOf]; omega
          · have k2 : (a.kind == 2) = false := by simpa using h2
            clear h1 h2
            go_wp2_with (first
              | (go_at_call 23; refine (num_badT hgg a.width true hts (.inl rfl) hw1 hw2).mono ?_; rintro e w1 ⟨rfl, T1⟩; have T2 := (T1.below ((Below.refl _ _).alloc (Nat.le_refl _) (.cells #[] 24))).below ((Below.refl _ _).alloc (Nat.le_refl _) (.cells #[] 5)); obtain ⟨f0, f1, f2, f3, f4⟩ := hat.below T2.bel hbl)
              | (go_at_call 10; refine (rget_any A len cap (pos : Int) a.width bs _ (hin.reads.below T2.bel) hbs hle hcap (by omega) (by omega) hw1 hw2).mono ?_; rintro e w2 ⟨rfl, rfl⟩))
            go_roundw
            case rel => exact ⟨k + 1, pos, true, rfl, by omega, by omega, rfl, rfl, by go_num, T2⟩
            case measure => simp [intOf]; omega
      · have hstop : (k : Int) < (ln : Int) → ¬ (k : Int) < 40 := fun h => by omega
        have hpl := hts.len
        clear hlt
        by_cases hkl : (k : Int) < (ln : Int)
        all_goals
          go_wp2_with (first
            | (go_at_call 27; refine (tat_any true hts).mono ?_; rintro e w1 ⟨rfl, hb1⟩; have T1 := hts.below hb1)
            | (go_at_call 8; refine (awake_any _).mono ?_; rintro e w5 ⟨rfl, hb5⟩; have T5 := T1.below hb5))
          go_ret
          exact ⟨rfl, T5.bel⟩

end Go.Proofs.Ytnkkfflaalipjaa
