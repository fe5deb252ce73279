/-
  LAYER 15: WHAT Search AND Refer OF PACKAGE data DO: contracts.
-/
import Derived.Test.YtknimfnjmhmamaaGreatDaAsk
set_option linter.unusedVariables false
set_option maxRecDepth 100000
set_option linter.unusedSimpArgs false
namespace Go.Proofs.YtknimfnjmhmamaaGreat
open Go.RowKit Go.Shelf

/-- Is it at the place, or behind it? -/
def geQ (place : Int) (x : Int) : Bool := decide (place ≤ x)
theorem askD_any (place x : Int) (g : Nat) (w : World) (hc : w.cell? ⟨g, 0, none⟩ = some (.int .u64 place)) :
    Calls Tryz.prog 36 #[.int .u64 x, .pointer (some ⟨g, 0, none⟩)] w fun e w' => e = .returned (.bool (geQ place x)) ∧ w = w' := by
  obtain ⟨y, hy⟩ : ∃ y, decide (place ≤ x) = y := ⟨_, rfl⟩
  unfold geQ
  rw [hy]
  go_enter Tryz.func36, Tryz.ntmps36
  go_wp2
  go_ret
  first
    | exact ⟨rfl, rfl⟩
    | exact ⟨by rw [← hy], rfl⟩

section
variable {base p : Nat} {S : Nat → Prop} {a : Nat} {x : Int} {its : List It} {Ld : List Int}
theorem searchD_no (p : Nat) (at_ place : Int) (w : World) (h : NotD p at_ w) :
    Calls Tryz.prog 14 #[.pointer (some ⟨p, 0, none⟩), .int .i64 at_, .int .u64 place] w fun e w' => e = .returned (.int .i64 0) ∧ Below w.heap.size w w' := by
  have hb := boxed w (.cells #[.int .u64 place] 24)
  have FI := Lib.hid (firstD_no p at_ _ (h.below hb))
  have HB := Lib.hid hb
  clear h hb
  go_enter Tryz.func14, Tryz.ntmps14
  go_wp2_with (go_at_call 31; refine FI.out.mono ?_; rintro e w1 ⟨rfl, hb1⟩)
  go_ret
  exact ⟨rfl, HB.out.trans (hb1.mono HB.out.size)⟩
theorem searchD_yes (place : Int) (w : World) (h : IsDat p a x w) (hL : ListAt w base p S ((a + 48 : Nat) : Int) its Ld) (hm : MonoY (geQ place) Ld) (hln : Ld.length ≤ 1000000) :
    Calls Tryz.prog 14 #[.pointer (some ⟨p, 0, none⟩), .int .i64 a, .int .u64 place] w fun e w' => e = .returned (.int .i64 (firstY (geQ place) (entsL x Ld) : Nat)) ∧ Below w.heap.size w w' := by
  have hb := boxed w (.cells #[.int .u64 place] 24)
  have hbk := Blk.new w 24 #[.int .u64 place]
  have c0 := hbk.cell 0
  have FI := Lib.hid (firstD_yes p a x _ (h.below hb))
  have hs := h.small
  have HB := Lib.hid hb
  by_cases hx : x = 0
  · have e1 : firstY (geQ place) (entsL x Ld) = 0 := by unfold entsL; rw [if_pos hx]; rfl
    rw [e1]
    subst hx
    clear h hL hb hbk e1
    go_enter Tryz.func14, Tryz.ntmps14
    go_wp2_with (go_at_call 31; refine FI.out.mono ?_; rintro e w1 ⟨rfl, hb1⟩)
    go_ret
    exact ⟨rfl, HB.out.trans (hb1.mono HB.out.size)⟩
  · have hx0 : (x == 0) = false := by simpa using hx
    have hcb := Lib.hid (fun wx (hx : Below (w.alloc (.cells #[.int .u64 place] 24)).heap.size (w.alloc (.cells #[.int .u64 place] 24)) wx) => ((hx.cell (p := ⟨w.heap.size, 0, none⟩) (by simp)).trans c0 : wx.cell? ⟨w.heap.size, 0, none⟩ = some (.int .u64 place)))
    by_cases hge : place ≤ x
    · have e1 : firstY (geQ place) (entsL x Ld) = 0 := by
        unfold entsL firstY
        rw [if_neg hx, List.takeWhile_cons_of_neg (by simp [geQ, hge])]; rfl
      rw [e1]
      clear h hL hb hbk e1
      go_enter Tryz.func14, Tryz.ntmps14
      go_wp2_with (go_at_call 31; refine FI.out.mono ?_; rintro e w1 ⟨rfl, hb1⟩; have c1 := hcb.out _ hb1)
      go_ret
      exact ⟨rfl, HB.out.trans (hb1.mono HB.out.size)⟩
    · have e1 : firstY (geQ place) (entsL x Ld) = 1 + firstY (geQ place) Ld := by
        unfold entsL firstY
        rw [if_neg hx, List.takeWhile_cons_of_pos (by simp [geQ]; omega), List.length_cons]; omega
      have hfl := firstY_le (geQ place) Ld
      rw [e1]
      have RT := Lib.hid (fun wx => rootD_any a wx hs)
      have SE := Lib.hid (fun wx (hb9 : Below (w.alloc (.cells #[.int .u64 place] 24)).heap.size (w.alloc (.cells #[.int .u64 place] 24)) wx) => csearch_any (geQ place) 36 #[.pointer (some ⟨w.heap.size, 0, none⟩)] wx ((hL.below hb).below hb9) hm
        (fun W z hW => (askD_any place z w.heap.size W (hcb.out W (hb9.trans (hW.mono hb9.size)))).mono (fun e w' h => ⟨h.1, 0, h.2.symm⟩)) (enters_of Tryz.func36 (by kernel_rfl) rfl))
      obtain ⟨n, hn⟩ : ∃ n, firstY (geQ place) Ld = n := ⟨_, rfl⟩
      rw [hn] at SE hfl ⊢
      obtain ⟨t, ht⟩ : ∃ t, 1 + n = t := ⟨_, rfl⟩
      have hw0 : (1 : Int) + (n : Int) = (t : Int) := by omega
      have hw1 : IntKind.i64.wrap (t : Int) = (t : Int) := by rw [IntKind.wrap_i64]; omega
      have hgei : ¬ place ≤ x := hge
      rw [ht]
      clear h hL hb hbk e1 hn ht hge
      go_enter Tryz.func14, Tryz.ntmps14
      go_wp2_with (first
        | (go_at_call 31; refine FI.out.mono ?_; rintro e w1 ⟨rfl, hb1⟩; have c1 := hcb.out _ hb1)
        | (go_at_call 30; refine (RT.out _).mono ?_; rintro e w2 ⟨rfl, rfl⟩)
        | (go_at_call 35; refine (SE.out _ hb1).mono ?_; rintro e w3 ⟨rfl, hb3⟩))
      go_ret
      have h9 := HB.out.trans (hb1.mono HB.out.size)
      exact ⟨rfl, h9.trans (hb3.mono h9.size)⟩

/-! ### Refer -/
theorem referD_no (p : Nat) (at_ x : Int) (w : World) (h : NotD p at_ w) (hx : ¬ x = 0) :
    Calls Tryz.prog 9 #[.pointer (some ⟨p, 0, none⟩), .int .i64 at_, .int .u64 x] w fun e w' => e = .returned (.int .i64 1) ∧ Below w.heap.size w w' := by
  have IS := Lib.hid (h w (Below.refl _ _))
  have hx0 : (x == 0) = false := by simpa using hx
  clear h
  go_enter Tryz.func9, Tryz.ntmps9
  go_wp2_with (go_at_call 26; refine IS.out.mono ?_; rintro e w1 ⟨rfl, hb1⟩)
  go_ret
  exact ⟨rfl, hb1⟩
theorem referD_first {Q : World → World → Prop} (x : Int) (w : World) (h : IsDat p a 0 w) (hx : ¬ x = 0)
    (hS : ∀ wx, Below w.heap.size w wx → Calls Tryz.prog 23 #[.pointer (some ⟨p, 0, none⟩), .int .i64 (a + 40 : Nat), .int .u64 x] wx fun e w' => e = .returned (.int .i64 0) ∧ Q wx w') :
    Calls Tryz.prog 9 #[.pointer (some ⟨p, 0, none⟩), .int .i64 a, .int .u64 x] w fun e w' => e = .returned (.int .i64 0) ∧ ∃ wx, Below w.heap.size w wx ∧ Q wx w' := by
  have hs := h.small
  have IS := Lib.hid (h.is w (Below.refl _ _))
  have WW := Lib.hid h.word
  have SE := Lib.hid hS
  have OA := Lib.hid (fun wx => oat_any 3 wx (by omega) (by omega))
  have hx0 : (x == 0) = false := by simpa using hx
  obtain ⟨r, hr⟩ : ∃ r, a + 40 = r := ⟨_, rfl⟩
  have hw0 : (a : Int) + 40 = (r : Int) := by omega
  have hw1 : IntKind.i64.wrap (r : Int) = (r : Int) := by rw [IntKind.wrap_i64]; omega
  rw [hr] at WW SE
  clear h hr hS
  go_enter Tryz.func9, Tryz.ntmps9
  go_wp2_with (first
    | (go_at_call 26; refine IS.out.mono ?_; rintro e w1 ⟨rfl, hb1⟩)
    | (go_at_call 27; refine (OA.out _).mono ?_; rintro e w2 ⟨rfl, rfl⟩)
    | (go_at_call 28; refine (WW.out _ hb1).mono ?_; rintro e w2 ⟨rfl, rfl⟩)
    | (go_at_call 23; refine (SE.out _ hb1).mono ?_; rintro e w3 ⟨rfl, hq⟩))
  go_ret
  exact ⟨rfl, _, hb1, hq⟩
theorem referD_more {Q : World → World → Prop} (x y : Int) (w : World) (h : IsDat p a y w) (hx : ¬ x = 0) (hy : ¬ y = 0)
    (hS : ∀ wx, Below w.heap.size w wx → Calls Tryz.prog 29 #[.pointer (some ⟨p, 0, none⟩), .int .i64 (a + 48 : Nat), .int .u64 x] wx fun e w' => e = .returned (.int .i64 0) ∧ Q wx w') :
    Calls Tryz.prog 9 #[.pointer (some ⟨p, 0, none⟩), .int .i64 a, .int .u64 x] w fun e w' => e = .returned (.int .i64 0) ∧ ∃ wx, Below w.heap.size w wx ∧ Q wx w' := by
  have hs := h.small
  have IS := Lib.hid (h.is w (Below.refl _ _))
  have WW := Lib.hid h.word
  have SE := Lib.hid hS
  have OA := Lib.hid (fun wx => oat_any 3 wx (by omega) (by omega))
  have RT := Lib.hid (fun wx => rootD_any a wx hs)
  have hx0 : (x == 0) = false := by simpa using hx
  have hy0 : (y == 0) = false := by simpa using hy
  obtain ⟨r, hr⟩ : ∃ r, a + 40 = r := ⟨_, rfl⟩
  have hw0 : (a : Int) + 40 = (r : Int) := by omega
  have hw1 : IntKind.i64.wrap (r : Int) = (r : Int) := by rw [IntKind.wrap_i64]; omega
  obtain ⟨r2, hr2⟩ : ∃ r2, a + 48 = r2 := ⟨_, rfl⟩
  rw [hr] at WW
  rw [hr2] at SE RT
  clear h hr hS hr2
  go_enter Tryz.func9, Tryz.ntmps9
  go_wp2_with (first
    | (go_at_call 26; refine IS.out.mono ?_; rintro e w1 ⟨rfl, hb1⟩)
    | (go_at_call 27; refine (OA.out _).mono ?_; rintro e w2 ⟨rfl, rfl⟩)
    | (go_at_call 28; refine (WW.out _ hb1).mono ?_; rintro e w2 ⟨rfl, rfl⟩)
    | (go_at_call 30; refine (RT.out _).mono ?_; rintro e w2 ⟨rfl, rfl⟩)
    | (go_at_call 29; refine (SE.out _ hb1).mono ?_; rintro e w3 ⟨rfl, hq⟩))
  go_ret
  exact ⟨rfl, _, hb1, hq⟩
end

end Go.Proofs.YtknimfnjmhmamaaGreat
