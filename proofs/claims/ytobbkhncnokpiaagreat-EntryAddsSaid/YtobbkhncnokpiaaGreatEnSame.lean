/-
  LAYER 16: lists of texts compared (slices.Equal, the document's Texts); entries compared (Same, the document's Same, All): contracts.
-/
import Derived.Test.YtobbkhncnokpiaaGreatEnFp
set_option linter.unusedVariables false
set_option maxRecDepth 100000
set_option linter.unusedSimpArgs false
namespace Go.Proofs.YtobbkhncnokpiaaGreat
open Go.RowKit Go.Shelf

theorem lists_eq {xs ys : List ByteArray} {n : Nat} (hx : xs.length = n) (hy : ys.length = n) (h : ∀ i, i < n → nthT xs i = nthT ys i) : xs = ys := by
  refine List.ext_getElem (by omega) fun i h1 h2 => ?_
  have := h i (by omega)
  rwa [nthT_get h1, nthT_get h2] at this
theorem lists_ne {xs ys : List ByteArray} {i : Nat} (h : nthT xs i ≠ nthT ys i) : xs ≠ ys := fun e => h (by rw [e])
theorem lists_len {xs ys : List ByteArray} (h : xs.length ≠ ys.length) : xs ≠ ys := fun e => h (by rw [e])

set_option maxHeartbeats 1000000 in
theorem rtexts_any (A1 A2 : Option Addr) (n1 n2 c1 c2 : Nat) (xs ys : List ByteArray) (B1 B2 : Nat) (w : World) (h1 : Txt w B1 A1 n1 c1 xs) (h2 : Txt w B2 A2 n2 c2 ys) :
    Calls Tryz.prog 32 #[.slice A1 n1 c1, .slice A2 n2 c2] w fun e w' => e = .returned (.bool (decide (xs = ys))) ∧ Drew w w' := by
  have hle := h1.le
  have hcap := h1.cap
  have hle2 := h2.le
  have hcap2 := h2.cap
  have hl1 := h1.len
  have hl2 := h2.len
  by_cases hnm : n1 = n2
  · subst hnm
    have HL := Lib.hid (And.intro hl1 hl2)
    clear hl1 hl2
    go_enter Tryz.func32, Tryz.ntmps32
    go_wp2
    go_loopw [5] (fun i wr => ∃ k q : Nat, k ≤ n1 ∧ i = .int .i64 k ∧ wr = w.drewN q ∧ Hid (∀ j, j < k → nthT xs j = nthT ys j)) (fun i _ => n1 - (intOf i).toNat)
    case atStart => exact ⟨0, 0, Nat.zero_le _, rfl, rfl, Lib.hid (fun j hj => absurd hj (by omega))⟩
    case round =>
      obtain ⟨k, q, hk, rfl, rfl, HE⟩ := hrel
      have H1 := Lib.hid h1
      have H2 := Lib.hid h2
      by_cases hlt : k < n1
      · obtain ⟨b1, o1, rfl, hb1, hc1⟩ := h1.at_ (by omega)
        obtain ⟨b2, o2, rfl, hb2, hc2⟩ := h2.at_ (by omega)
        have e1 := hc1 k hlt
        have e2 := hc2 k hlt
        have hlti : (k : Int) < n1 := by omega
        have hk0 : (0 : Int) ≤ k := by omega
        by_cases hne : nthT xs k = nthT ys k
        · have HS := Lib.hid hne
          rw [← hne] at e2
          obtain ⟨s, hs⟩ : ∃ s, nthT xs k = s := ⟨_, rfl⟩
          rw [hs] at e1 e2
          clear hc1 hc2 h1 h2 hne hs
          go_wp2
          go_quiet (fail)
          go_wp2
          go_roundw
          case rel => exact ⟨k + 1, _, by omega, by go_num, by first | rfl | exact World.drewN_drewN _ _ _, Lib.hid (fun j hj => by
            rcases Nat.lt_or_ge j k with e | e
            · exact HE.out j e
            · obtain rfl : j = k := by omega
              exact HS.out)⟩
          case measure => simp [intOf]; omega
        · have HN : Hid (decide (xs = ys) = false) := Lib.hid (decide_eq_false (lists_ne hne))
          have d1 : ((nthT xs k).toList == (nthT ys k).toList) = false := by rw [beq_text]; exact decide_eq_false hne
          generalize nthT xs k = s at *
          generalize nthT ys k = t at *
          clear hc1 hc2 h1 h2 hne
          go_wp2
          go_quiet (fail)
          go_wp2
          go_ret
          exact ⟨by rw [HN.out]; rfl, _, by first | rfl | exact World.drewN_drewN _ _ _⟩
      · obtain rfl : k = n1 := by omega
        have HN : Hid (decide (xs = ys) = true) := Lib.hid (decide_eq_true (lists_eq HL.out.1 HL.out.2 HE.out))
        clear h1 h2
        go_wp2
        go_ret
        exact ⟨by rw [HN.out]; rfl, _, rfl⟩
  · have HN : Hid (decide (xs = ys) = false) := Lib.hid (decide_eq_false (lists_len (by omega)))
    have hni : ¬ (n1 : Int) = (n2 : Int) := by omega
    have d1 : ((n1 : Int) == (n2 : Int)) = false := by rw [beq_eq_false_iff_ne]; exact hni
    clear hl1 hl2 h1 h2 hnm
    go_enter Tryz.func32, Tryz.ntmps32
    go_wp2
    go_ret
    exact ⟨by rw [HN.out]; rfl, 0, rfl⟩

set_option maxHeartbeats 1000000 in
theorem sequal_any (A1 A2 : Option Addr) (n1 n2 c1 c2 : Nat) (xs ys : List ByteArray) (B1 B2 : Nat) (w : World) (h1 : Txt w B1 A1 n1 c1 xs) (h2 : Txt w B2 A2 n2 c2 ys) :
    Calls Tryz.prog 56 #[.slice A1 n1 c1, .slice A2 n2 c2] w fun e w' => e = .returned (.bool (decide (xs = ys))) ∧ Drew w w' := by
  have hle := h1.le
  have hcap := h1.cap
  have hle2 := h2.le
  have hcap2 := h2.cap
  have hl1 := h1.len
  have hl2 := h2.len
  by_cases hnm : n1 = n2
  · subst hnm
    have HL := Lib.hid (And.intro hl1 hl2)
    clear hl1 hl2
    go_enter Tryz.func56, Tryz.ntmps56
    go_wp2
    go_loopw [13] (fun i wr => ∃ k q : Nat, k ≤ n1 ∧ i = .int .i64 k ∧ wr = w.drewN q ∧ Hid (∀ j, j < k → nthT xs j = nthT ys j)) (fun i _ => n1 - (intOf i).toNat)
    case atStart => exact ⟨0, 0, Nat.zero_le _, rfl, rfl, Lib.hid (fun j hj => absurd hj (by omega))⟩
    case round =>
      obtain ⟨k, q, hk, rfl, rfl, HE⟩ := hrel
      have H1 := Lib.hid h1
      have H2 := Lib.hid h2
      by_cases hlt : k < n1
      · obtain ⟨b1, o1, rfl, hb1, hc1⟩ := h1.at_ (by omega)
        obtain ⟨b2, o2, rfl, hb2, hc2⟩ := h2.at_ (by omega)
        have e1 := hc1 k hlt
        have e2 := hc2 k hlt
        have hlti : (k : Int) < n1 := by omega
        have hk0 : (0 : Int) ≤ k := by omega
        by_cases hne : nthT xs k = nthT ys k
        · have HS := Lib.hid hne
          rw [← hne] at e2
          obtain ⟨s, hs⟩ : ∃ s, nthT xs k = s := ⟨_, rfl⟩
          rw [hs] at e1 e2
          clear hc1 hc2 h1 h2 hne hs
          go_wp2
          go_quiet (fail)
          go_wp2
          go_roundw
          case rel => exact ⟨k + 1, _, by omega, by go_num, by first | rfl | exact World.drewN_drewN _ _ _, Lib.hid (fun j hj => by
            rcases Nat.lt_or_ge j k with e | e
            · exact HE.out j e
            · obtain rfl : j = k := by omega
              exact HS.out)⟩
          case measure => simp [intOf]; omega
        · have HN : Hid (decide (xs = ys) = false) := Lib.hid (decide_eq_false (lists_ne hne))
          have d1 : ((nthT xs k).toList == (nthT ys k).toList) = false := by rw [beq_text]; exact decide_eq_false hne
          generalize nthT xs k = s at *
          generalize nthT ys k = t at *
          clear hc1 hc2 h1 h2 hne
          go_wp2
          go_quiet (fail)
          go_wp2
          go_ret
          exact ⟨by rw [HN.out]; rfl, _, by first | rfl | exact World.drewN_drewN _ _ _⟩
      · obtain rfl : k = n1 := by omega
        have HN : Hid (decide (xs = ys) = true) := Lib.hid (decide_eq_true (lists_eq HL.out.1 HL.out.2 HE.out))
        clear h1 h2
        go_wp2
        go_ret
        exact ⟨by rw [HN.out]; rfl, _, rfl⟩
  · have HN : Hid (decide (xs = ys) = false) := Lib.hid (decide_eq_false (lists_len (by omega)))
    have hni : ¬ (n1 : Int) = (n2 : Int) := by omega
    have d1 : ((n1 : Int) == (n2 : Int)) = false := by rw [beq_eq_false_iff_ne]; exact hni
    clear hl1 hl2 h1 h2 hnm
    go_enter Tryz.func56, Tryz.ntmps56
    go_wp2
    go_ret
    exact ⟨by rw [HN.out]; rfl, 0, rfl⟩

/-- Are two records the same? -/
def RC.same (a b : RC) : Bool := (decide (a.seq = b.seq) && decide (a.real = b.real) && decide (a.mono = b.mono) && decide (a.boot = b.boot)) && decide (a.its = b.its)

end Go.Proofs.YtobbkhncnokpiaaGreat
