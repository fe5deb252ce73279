/-
  LAYER 7: WHAT New, made, Right, Get, has AND Pending DO: contracts.
-/
import Derived.Test.YtakjiklpfddooaaDirGood
import Derived.Test.YtakjiklpfddooaaTexts
import Derived.WalkKit
import Derived.WalkSpells
import Derived.Lib.Hide
set_option linter.unusedVariables false
set_option linter.unusedSimpArgs false
namespace Go.Proofs.Ytakjiklpfddooaa
open Go.RowKit

/-! ### New -/
abbrev newW (w : World) : World := ((w.alloc (.map #[] 0)).alloc (.map #[] 0)).alloc (.cells #[.map (some w.heap.size), .map (some (w.heap.size + 1)), .slice none 0 0] 50)
theorem newW_size (w : World) : (newW w).heap.size = w.heap.size + 3 := by simp [newW]
theorem newW_below (w : World) : Below w.heap.size w (newW w) := (((Below.refl _ _).alloc (Nat.le_refl _) _).alloc (by simp) _).alloc (by simp; omega) _
theorem newW_CD (w : World) (base : Nat) (hb : base ≤ w.heap.size) : CD (newW w) base (fun k => w.heap.size ≤ k ∧ k < (newW w).heap.size) (w.heap.size + 2) newD w.heap.size (w.heap.size + 1) (.slice none 0 0) := by
  have hsz := newW_size w
  have h1 : (w.alloc (.map #[] 0)).heap.size = w.heap.size + 1 := by simp
  have h2 : ((w.alloc (.map #[] 0)).alloc (.map #[] 0)).heap.size = w.heap.size + 2 := by simp
  have m1 := ((MapAt.new w).below ((Below.refl _ _).alloc (Nat.le_refl _) (.map #[] 0))).below ((Below.refl _ _).alloc (Nat.le_refl _) (.cells #[.map (some w.heap.size), .map (some (w.heap.size + 1)), .slice none 0 0] 50))
  have m2 := (MapAt.new (w.alloc (.map #[] 0))).below ((Below.refl _ _).alloc (Nat.le_refl _) (.cells #[.map (some w.heap.size), .map (some (w.heap.size + 1)), .slice none 0 0] 50))
  rw [h1] at m2
  have hb3 := Blk.new ((w.alloc (.map #[] 0)).alloc (.map #[] 0)) 50 #[.map (some w.heap.size), .map (some (w.heap.size + 1)), .slice none 0 0]
  rw [h2] at hb3
  exact ⟨fun k hk => by omega, by omega, by omega, hb3, m1, m2, World.ownsRow_nil _ _ _ _, by omega, by omega, fun g hg => by simp [Value.ownBlock] at hg, by omega⟩

theorem dnew_any (w : World) : Calls Try.prog 6 #[] w fun e w' => e = .returned (.pointer (some ⟨w.heap.size + 2, 0, none⟩)) ∧ Hid (w' = newW w) := by
  have hmm := @run_makeMap Try.prog
  go_enter Try.func6, Try.ntmps6
  go_wp2
  go_ret
  exact ⟨by simp, Lib.hid (by simp [newW])⟩

/-! ### made, Get, has, Pending -/
theorem made_yes (p bn : Nat) (w : World) (h : w.cell? ⟨p, 0, none⟩ = some (.map (some bn))) :
    Calls Try.prog 27 #[.pointer (some ⟨p, 0, none⟩)] w fun e w' => e = .returned (.bool true) ∧ w = w' := by
  have qT : ∀ (r : Option Nat) (w : World), (binOp .neq 47 (.map r) (.map none)).run Try.prog w = .ok (.bool (!r.isNone)) w := fun r w => run_neq_map_nil w 47 9 3 r Try.underlying47
  go_enter Try.func27, Try.ntmps27
  go_wp2
  go_ret
  exact ⟨rfl, rfl⟩
theorem made_nil (w : World) :
    Calls Try.prog 27 #[.pointer none] w fun e w' => e = .returned (.bool false) ∧ w = w' := by
  go_enter Try.func27, Try.ntmps27
  go_wp2
  go_ret
  exact ⟨rfl, rfl⟩
theorem made_zero (p : Nat) (w : World) (h : w.cell? ⟨p, 0, none⟩ = some (.map none)) :
    Calls Try.prog 27 #[.pointer (some ⟨p, 0, none⟩)] w fun e w' => e = .returned (.bool false) ∧ w = w' := by
  have qT : ∀ (r : Option Nat) (w : World), (binOp .neq 47 (.map r) (.map none)).run Try.prog w = .ok (.bool (!r.isNone)) w := fun r w => run_neq_map_nil w 47 9 3 r Try.underlying47
  go_enter Try.func27, Try.ntmps27
  go_wp2
  go_ret
  exact ⟨rfl, rfl⟩

theorem dget_any (p bn : Nat) (l : NmL) (x : ByteArray) (w : World) (h : w.cell? ⟨p, 0, none⟩ = some (.map (some bn))) (hm : MapAt w bn l) (hx : x.size ≤ maxLen) :
    Calls Try.prog 22 #[.pointer (some ⟨p, 0, none⟩), .string x] w fun e w' => e = .returned (.tuple #[.int .i64 ((getN l x).getD 0), .bool (getN l x).isSome]) ∧ w = w' := by
  have HM := Lib.hid hm
  have HX := Lib.hid hx
  clear hm hx
  go_enter Try.func22, Try.ntmps22
  go_wp2_with (first
    | (go_at_call 27; refine (made_yes p bn w h).mono ?_; rintro e w9 ⟨rfl, rfl⟩)
    | (at_lookup; refine wpList_look _ rfl _ _ rfl bn l HM.out rfl x rfl HX.out ?_))
  go_ret2
  exact ⟨rfl, rfl⟩
theorem dhas_any (p bn : Nat) (l : NmL) (x : ByteArray) (w : World) (h : w.cell? ⟨p, 0, none⟩ = some (.map (some bn))) (hm : MapAt w bn l) (hx : x.size ≤ maxLen) :
    Calls Try.prog 32 #[.pointer (some ⟨p, 0, none⟩), .string x] w fun e w' => e = .returned (.bool (hasB l x)) ∧ w = w' := by
  have G := Lib.hid (dget_any p bn l x w h hm hx)
  clear h hm hx
  go_enter Try.func32, Try.ntmps32
  go_wp2_with (go_at_call 22; refine G.out.mono ?_; rintro e w9 ⟨rfl, rfl⟩)
  go_ret
  exact ⟨rfl, rfl⟩
theorem dpend_any (p bn n : Nat) (A : Option Addr) (c : Nat) (w : World) (h : w.cell? ⟨p, 0, none⟩ = some (.map (some bn))) (h2 : w.cell? ⟨p, 2, none⟩ = some (.slice A n c)) :
    Calls Try.prog 18 #[.pointer (some ⟨p, 0, none⟩)] w fun e w' => e = .returned (.int .i64 n) ∧ w = w' := by
  go_enter Try.func18, Try.ntmps18
  go_wp2_with (go_at_call 27; refine (made_yes p bn w h).mono ?_; rintro e w9 ⟨rfl, rfl⟩)
  go_ret
  exact ⟨rfl, rfl⟩

/-! ### Right -/
theorem right_any (s : ByteArray) (w : World) (hs : s.size ≤ maxLen) :
    Calls Try.prog 11 #[.string s] w fun e w' => e = .returned (.bool (rightB s)) ∧ w = w' := by
  unfold maxLen at hs
  by_cases h0 : s.size = 0
  · have hn : rightB s = false := rightB_no (by omega)
    rw [hn]
    clear hn
    have he : s.toList = [] := by rw [_root_.Go.ByteArray.toList_eq]; exact List.eq_nil_of_length_eq_zero (by simpa using h0)
    go_enter Try.func11, Try.ntmps11
    go_wp2
    go_ret
    exact ⟨rfl, rfl⟩
  have he1 : s.toList.isEmpty = false := by rw [_root_.Go.ByteArray.toList_eq, List.isEmpty_eq_false_iff]; intro e; exact h0 (by simpa using congrArg List.length e)
  have hp : 0 < s.size := by omega
  by_cases h64 : 100 < s.size
  · have hn : rightB s = false := rightB_no (by omega)
    rw [hn]
    have h64i : (100 : Int) < s.size := by omega
    clear hn h0
    go_enter Try.func11, Try.ntmps11
    go_wp2
    go_ret
    exact ⟨rfl, rfl⟩
  have hle : s.size ≤ 100 := by omega
  have h64i : ¬ (100 : Int) < s.size := by omega
  clear hs h64 h0
  go_enter Try.func11, Try.ntmps11
  go_wp2
  go_loop [3, 13] (fun _ i => ∃ k : Nat, k ≤ s.size ∧ Hid (∀ j, j < k → okR (nthB s j) = true) ∧ i = .int .i64 k) (fun _ i => s.size - (intOf i).toNat)
  case atStart => exact ⟨0, Nat.zero_le _, Lib.hid (fun j hj => absurd hj (by omega)), rfl⟩
  case round =>
    obtain ⟨k, hk, hall, rfl⟩ := hrel
    by_cases hlt : k < s.size
    · have nk := nthB_get s k hlt
      have hlti : (k : Int) < s.size := by omega
      rcases cls7 s[k].toNat with ⟨ho, d1, d2, d3⟩ | ⟨ho, hc⟩
      · have hok : okR (nthB s k) = true := by rw [nk]; exact ho
        have HK := Lib.hid hok
        clear ho hok nk
        go_wp2
        clear d1 d2 d3
        go_round
        case rel => exact ⟨k + 1, by omega, Lib.hid (fun j hj => by
          rcases Nat.lt_or_ge j k with e | e
          · exact hall.out j e
          · obtain rfl : j = k := by omega
            exact HK.out), by go_num⟩
        case measure => simp [intOf]; omega
      · have hn : rightB s = false := rightB_no fun hh => by
          have := hh.2.2 k hlt
          rw [nk, ho] at this
          cases this
        have HN := Lib.hid hn
        clear ho hn nk
        rcases hc with d1 | ⟨d1, d2⟩ | ⟨d1, d2, d3⟩
        all_goals
          go_wp2
          go_ret
          exact ⟨ret_bool HN.out.symm, rfl⟩
    · obtain rfl : k = s.size := by omega
      have hn := Lib.hid ((rightB_iff s).2 ⟨hp, hle, hall.out⟩)
      go_wp2
      go_ret
      exact ⟨ret_bool hn.out.symm, rfl⟩

theorem rright_any (s : ByteArray) (w : World) (hs : s.size ≤ maxLen) :
    Calls Try.prog 12 #[.string s] w fun e w' => e = .returned (.bool (rightB s)) ∧ w = w' := by
  unfold maxLen at hs
  go_enter Try.func12, Try.ntmps12
  go_wp2
  go_loop [3] (fun i => ∃ k : Nat, k ≤ s.size ∧ Hid (∀ j, j < k → okR (nthB s j) = true) ∧ i = .int .i64 k) (fun i => s.size - (intOf i).toNat)
  case atStart => exact ⟨0, Nat.zero_le _, Lib.hid (fun j hj => absurd hj (by omega)), rfl⟩
  case round =>
    obtain ⟨k, hk, hall, rfl⟩ := hrel
    by_cases hlt : k < s.size
    · have nk := nthB_get s k hlt
      have hlti : (k : Int) < s.size := by omega
      rcases cls7 s[k].toNat with ⟨ho, d1, d2, d3⟩ | ⟨ho, hc⟩
      · have hok : okR (nthB s k) = true := by rw [nk]; exact ho
        have HK := Lib.hid hok
        clear ho hok nk
        go_wp2
        clear d1 d2 d3
        go_round
        case rel => exact ⟨k + 1, by omega, Lib.hid (fun j hj => by
          rcases Nat.lt_or_ge j k with e | e
          · exact hall.out j e
          · obtain rfl : j = k := by omega
            exact HK.out), by go_num⟩
        case measure => simp [intOf]; omega
      · have hn : rightB s = false := rightB_no fun hh => by
          have := hh.2.2 k hlt
          rw [nk, ho] at this
          cases this
        have HN := Lib.hid hn
        clear ho hn nk
        rcases hc with d1 | ⟨d1, d2⟩ | ⟨d1, d2, d3⟩
        all_goals
          go_wp2
          go_ret
          exact ⟨ret_bool HN.out.symm, rfl⟩
    · obtain rfl : k = s.size := by omega
      by_cases h0 : s.size = 0
      · have hn := Lib.hid (rightB_no (s := s) (by omega))
        have h1 : ¬ 1 ≤ (s.size : Int) := by omega
        have H0 := Lib.hid h0
        clear h0
        go_wp2
        go_ret
        exact ⟨ret_bool hn.out.symm, rfl⟩
      · by_cases h64 : s.size ≤ 100
        · have hn := Lib.hid ((rightB_iff s).2 ⟨by omega, h64, hall.out⟩)
          have h1 : 1 ≤ (s.size : Int) := by omega
          have h2 : (s.size : Int) ≤ 100 := by omega
          go_wp2
          go_ret
          exact ⟨ret_bool hn.out.symm, rfl⟩
        · have hn := Lib.hid (rightB_no (s := s) (by omega))
          have h1 : 1 ≤ (s.size : Int) := by omega
          have h2 : ¬ (s.size : Int) ≤ 100 := by omega
          go_wp2
          go_ret
          exact ⟨ret_bool hn.out.symm, rfl⟩

end Go.Proofs.Ytakjiklpfddooaa
