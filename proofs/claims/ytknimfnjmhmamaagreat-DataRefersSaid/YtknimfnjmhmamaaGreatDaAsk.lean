/-
  LAYER 15: WHAT first, root, Count, Nth, Search AND Refer OF PACKAGE data DO: contracts.
-/
import Derived.Test.YtknimfnjmhmamaaGreatDaIs
import Derived.Test.YtknimfnjmhmamaaGreatDaIntM
set_option linter.unusedVariables false
set_option maxRecDepth 100000
set_option linter.unusedSimpArgs false
namespace Go.Proofs.YtknimfnjmhmamaaGreat
open Go.RowKit Go.Shelf

theorem rootD_any (q : Nat) (w : World) (hq : q ≤ 1099511627776) :
    Calls Tryz.prog 30 #[.int .i64 q] w fun e w' => e = .returned (.int .i64 (q + 48 : Nat)) ∧ w = w' := by
  have OA := Lib.hid (fun wx => oat_any 4 wx (by omega) (by omega))
  obtain ⟨r, hr⟩ : ∃ r, q + 48 = r := ⟨_, rfl⟩
  have hw0 : (q : Int) + 48 = (r : Int) := by omega
  have hw1 : IntKind.i64.wrap (r : Int) = (r : Int) := by rw [IntKind.wrap_i64]; omega
  rw [hr]
  clear hr
  go_enter Tryz.func30, Tryz.ntmps30
  go_wp2_with (go_at_call 27; refine (OA.out _).mono ?_; rintro e w1 ⟨rfl, rfl⟩)
  go_ret
  exact ⟨rfl, rfl⟩

/-- A place that is no datum's. -/
def NotD (p : Nat) (at_ : Int) (w : World) : Prop := ∀ wx, Below w.heap.size w wx → Calls Tryz.prog 26 #[.pointer (some ⟨p, 0, none⟩), .int .i64 at_] wx fun e w' => e = .returned (.bool false) ∧ Below wx.heap.size wx w'
/-- A place that is a datum's, and its first entry. -/
structure IsDat (p : Nat) (a : Nat) (x : Int) (w : World) : Prop where
  small : a ≤ 1099511627776
  is : ∀ wx, Below w.heap.size w wx → Calls Tryz.prog 26 #[.pointer (some ⟨p, 0, none⟩), .int .i64 a] wx fun e w' => e = .returned (.bool true) ∧ Below wx.heap.size wx w'
  word : ∀ wx, Below w.heap.size w wx → Calls Tryz.prog 28 #[.pointer (some ⟨p, 0, none⟩), .int .i64 (a + 40 : Nat)] wx fun e w' => e = .returned (.int .u64 x) ∧ wx = w'
theorem NotD.below {p : Nat} {at_ : Int} {w w' : World} (h : NotD p at_ w) (hb : Below w.heap.size w w') : NotD p at_ w' := fun wx hx => h wx (hb.trans (hx.mono hb.size))
theorem IsDat.below {p a : Nat} {x : Int} {w w' : World} (h : IsDat p a x w) (hb : Below w.heap.size w w') : IsDat p a x w' :=
  ⟨h.small, fun wx hx => h.is wx (hb.trans (hx.mono hb.size)), fun wx hx => h.word wx (hb.trans (hx.mono hb.size))⟩

theorem firstD_no (p : Nat) (at_ : Int) (w : World) (h : NotD p at_ w) :
    Calls Tryz.prog 31 #[.pointer (some ⟨p, 0, none⟩), .int .i64 at_] w fun e w' => e = .returned (.int .u64 0) ∧ Below w.heap.size w w' := by
  have IS := Lib.hid (h w (Below.refl _ _))
  clear h
  go_enter Tryz.func31, Tryz.ntmps31
  go_wp2_with (go_at_call 26; refine IS.out.mono ?_; rintro e w1 ⟨rfl, hb1⟩)
  go_ret
  exact ⟨rfl, hb1⟩
theorem firstD_yes (p a : Nat) (x : Int) (w : World) (h : IsDat p a x w) :
    Calls Tryz.prog 31 #[.pointer (some ⟨p, 0, none⟩), .int .i64 a] w fun e w' => e = .returned (.int .u64 x) ∧ Below w.heap.size w w' := by
  have hs := h.small
  have IS := Lib.hid (h.is w (Below.refl _ _))
  have WW := Lib.hid h.word
  have OA := Lib.hid (fun wx => oat_any 3 wx (by omega) (by omega))
  obtain ⟨r, hr⟩ : ∃ r, a + 40 = r := ⟨_, rfl⟩
  have hw0 : (a : Int) + 40 = (r : Int) := by omega
  have hw1 : IntKind.i64.wrap (r : Int) = (r : Int) := by rw [IntKind.wrap_i64]; omega
  rw [hr] at WW
  clear h hr
  go_enter Tryz.func31, Tryz.ntmps31
  go_wp2_with (first
    | (go_at_call 26; refine IS.out.mono ?_; rintro e w1 ⟨rfl, hb1⟩)
    | (go_at_call 27; refine (OA.out _).mono ?_; rintro e w2 ⟨rfl, rfl⟩)
    | (go_at_call 28; refine (WW.out _ hb1).mono ?_; rintro e w2 ⟨rfl, rfl⟩))
  go_ret
  exact ⟨rfl, hb1⟩

theorem countD_no (p : Nat) (at_ : Int) (w : World) (h : NotD p at_ w) :
    Calls Tryz.prog 13 #[.pointer (some ⟨p, 0, none⟩), .int .i64 at_] w fun e w' => e = .returned (.int .i64 0) ∧ Below w.heap.size w w' := by
  have FI := Lib.hid (firstD_no p at_ w h)
  clear h
  go_enter Tryz.func13, Tryz.ntmps13
  go_wp2_with (go_at_call 31; refine FI.out.mono ?_; rintro e w1 ⟨rfl, hb1⟩)
  go_ret
  exact ⟨rfl, hb1⟩
/-- The entries of a datum: its first one, and its list's. -/
def entsL (x : Int) (Ld : List Int) : List Int := if x = 0 then [] else x :: Ld
section
variable {base p : Nat} {S : Nat → Prop} {a : Nat} {x : Int} {its : List It} {Ld : List Int}
theorem countD_yes (w : World) (h : IsDat p a x w) (hL : ListAt w base p S ((a + 48 : Nat) : Int) its Ld) (hm : Ld.length ≤ 1000000) :
    Calls Tryz.prog 13 #[.pointer (some ⟨p, 0, none⟩), .int .i64 a] w fun e w' => e = .returned (.int .i64 ((entsL x Ld).length : Nat)) ∧ Below w.heap.size w w' := by
  have FI := Lib.hid (firstD_yes p a x w h)
  have hs := h.small
  by_cases hx : x = 0
  · subst hx
    clear h hL
    go_enter Tryz.func13, Tryz.ntmps13
    go_wp2_with (go_at_call 31; refine FI.out.mono ?_; rintro e w1 ⟨rfl, hb1⟩)
    go_ret
    exact ⟨rfl, hb1⟩
  · have RT := Lib.hid (fun wx => rootD_any a wx hs)
    have LE := Lib.hid (fun wx (hb : Below w.heap.size w wx) => clen_any wx (hL.below hb))
    have hl : (entsL x Ld).length = 1 + Ld.length := by unfold entsL; rw [if_neg hx, List.length_cons]; omega
    rw [hl]
    obtain ⟨n, hn⟩ : ∃ n, Ld.length = n := ⟨_, rfl⟩
    rw [hn] at LE hm ⊢
    obtain ⟨t, ht⟩ : ∃ t, 1 + n = t := ⟨_, rfl⟩
    have hx0 : (x == 0) = false := by simpa using hx
    have hw0 : (1 : Int) + (n : Int) = (t : Int) := by omega
    have hw1 : IntKind.i64.wrap (t : Int) = (t : Int) := by rw [IntKind.wrap_i64]; omega
    rw [ht]
    clear ht
    clear h hL hl hn
    go_enter Tryz.func13, Tryz.ntmps13
    go_wp2_with (first
      | (go_at_call 31; refine FI.out.mono ?_; rintro e w1 ⟨rfl, hb1⟩)
      | (go_at_call 30; refine (RT.out _).mono ?_; rintro e w2 ⟨rfl, rfl⟩)
      | (go_at_call 34; refine (LE.out _ hb1).mono ?_; rintro e w3 ⟨rfl, hb3⟩))
    go_ret
    exact ⟨rfl, hb1.trans (hb3.mono hb1.size)⟩

theorem nthD_yes (n : Int) (w : World) (h : IsDat p a x w) (hL : ListAt w base p S ((a + 48 : Nat) : Int) its Ld) (hn0 : -9223372036854775808 ≤ n) (hn1 : n ≤ 9223372036854775807) :
    Calls Tryz.prog 10 #[.pointer (some ⟨p, 0, none⟩), .int .i64 a, .int .i64 n] w fun e w' => e = .returned (.tuple #[.int .u64 (nthV (entsL x Ld) n), .bool (nthQ (entsL x Ld) n)]) ∧ Below w.heap.size w w' := by
  have FI := Lib.hid (firstD_yes p a x w h)
  have hs := h.small
  by_cases hx : x = 0
  · have e1 : nthV (entsL x Ld) n = 0 ∧ nthQ (entsL x Ld) n = false := nth_no (by unfold entsL; rw [if_pos hx, List.length_nil]; omega)
    rw [e1.1, e1.2]
    subst hx
    clear h hL e1
    go_enter Tryz.func10, Tryz.ntmps10
    go_wp2_with (go_at_call 31; refine FI.out.mono ?_; rintro e w1 ⟨rfl, hb1⟩)
    go_ret2
    exact ⟨rfl, hb1⟩
  · have hx0 : (x == 0) = false := by simpa using hx
    by_cases hneg : n < 0
    · have e1 : nthV (entsL x Ld) n = 0 ∧ nthQ (entsL x Ld) n = false := nth_no (.inl hneg)
      rw [e1.1, e1.2]
      clear h hL e1
      go_enter Tryz.func10, Tryz.ntmps10
      go_wp2_with (go_at_call 31; refine FI.out.mono ?_; rintro e w1 ⟨rfl, hb1⟩)
      go_ret2
      exact ⟨rfl, hb1⟩
    · by_cases hz : n = 0
      · subst hz
        have e1 : nthV (entsL x Ld) 0 = x ∧ nthQ (entsL x Ld) 0 = true := by unfold entsL; rw [if_neg hx]; exact nth_yes (L := x :: Ld) (q := 0) (by simp)
        rw [e1.1, e1.2]
        clear h hL e1
        go_enter Tryz.func10, Tryz.ntmps10
        go_wp2_with (go_at_call 31; refine FI.out.mono ?_; rintro e w1 ⟨rfl, hb1⟩)
        go_ret2
        exact ⟨rfl, hb1⟩
      · have RT := Lib.hid (fun wx => rootD_any a wx hs)
        have NT := Lib.hid (fun wx (hb : Below w.heap.size w wx) => cnth_any (n - 1) wx (hL.below hb) (by omega) (by omega))
        have e1 : nthV (entsL x Ld) n = nthV Ld (n - 1) ∧ nthQ (entsL x Ld) n = nthQ Ld (n - 1) := by
          unfold entsL
          rw [if_neg hx]
          by_cases hin : n < (Ld.length : Int) + 1
          · obtain ⟨q, hq⟩ : ∃ q : Nat, n = ((q + 1 : Nat) : Int) := ⟨(n - 1).toNat, by omega⟩
            subst hq
            have h1 := nth_yes (L := x :: Ld) (q := q + 1) (by simp; omega)
            have h2 := nth_yes (L := Ld) (q := q) (by omega)
            have h3 : ((q + 1 : Nat) : Int) - 1 = (q : Nat) := by omega
            rw [h3, h1.1, h1.2, h2.1, h2.2]
            exact ⟨rfl, rfl⟩
          · have h1 := nth_no (L := x :: Ld) (i := n) (.inr (by simp; omega))
            have h2 := nth_no (L := Ld) (i := n - 1) (.inr (by omega))
            rw [h1.1, h1.2, h2.1, h2.2]
            exact ⟨rfl, rfl⟩
        rw [e1.1, e1.2]
        obtain ⟨u, hu⟩ : ∃ u, nthV Ld (n - 1) = u := ⟨_, rfl⟩
        obtain ⟨v, hv⟩ : ∃ v, nthQ Ld (n - 1) = v := ⟨_, rfl⟩
        rw [hu, hv] at NT ⊢
        obtain ⟨n1, hn1'⟩ : ∃ n1, n - 1 = n1 := ⟨_, rfl⟩
        rw [hn1'] at NT
        have hw1 : IntKind.i64.wrap n1 = n1 := by rw [IntKind.wrap_i64]; omega
        have hz0 : (n == 0) = false := by simpa using hz
        clear h hL e1 hu hv
        go_enter Tryz.func10, Tryz.ntmps10
        go_wp2_with (first
          | (go_at_call 31; refine FI.out.mono ?_; rintro e w1 ⟨rfl, hb1⟩)
          | (go_at_call 30; refine (RT.out _).mono ?_; rintro e w2 ⟨rfl, rfl⟩)
          | (go_at_call 32; refine (NT.out _ hb1).mono ?_; rintro e w3 ⟨rfl, hb3⟩))
        go_ret2
        exact ⟨rfl, hb1.trans (hb3.mono hb1.size)⟩
end

end Go.Proofs.YtknimfnjmhmamaaGreat
