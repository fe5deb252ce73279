/-
  LAYER 9: the walk of ObjSames.
-/
import Derived.Test.YtbgdaiecmpjcbaaObjLaw
import Derived.Test.YtbgdaiecmpjcbaaObjSame2
set_option linter.unusedVariables false
set_option linter.unusedSimpArgs false
set_option maxRecDepth 100000
namespace Go.Proofs.Ytbgdaiecmpjcbaa
open Go.RowKit

theorem sameO_self (k : Int) (ws rs is : List Int) : sameO k k ws ws rs rs is is = true := by simp [sameO]

set_option maxHeartbeats 4000000 in
theorem sames_law (k : Int) (A : Option Addr) (n c : Nat) (ws : List Int) (B : Option Addr) (m d : Nat) (rs : List Int) (C : Option Addr) (p q : Nat) (is : List Int)
    (k' : Int) (A' : Option Addr) (n' c' : Nat) (ws' : List Int) (B' : Option Addr) (m' d' : Nat) (rs' : List Int) (C' : Option Addr) (p' q' : Nat) (is' : List Int) (w : World)
    (ha : ObIn w k A n c ws B m d rs C p q is) (ha' : ObIn w k' A' n' c' ws' B' m' d' rs' C' p' q' is') :
    Calls Try.prog 6 #[obV k A n c B m d C p q, obV k' A' n' c' B' m' d' C' p' q'] w fun e w' => e = .returned (.bool true) ∧ Below w.heap.size w w' := by
  have b1 := ha.wi.cap
  have b2 := ha.wi.le
  have b3 := ha.ri.cap
  have b4 := ha.ri.le
  have b5 := ha.ii.cap
  have b6 := ha.ii.le
  have b1' := ha'.wi.cap
  have b2' := ha'.wi.le
  have b3' := ha'.ri.cap
  have b4' := ha'.ri.le
  have b5' := ha'.ii.cap
  have b6' := ha'.ii.le
  have LA := Lib.hid (fun w => light_any k A n c B m d C p q w (by omega) (by omega) (by omega))
  have LB := Lib.hid (fun w => light_any k' A' n' c' B' m' d' C' p' q' w (by omega) (by omega) (by omega))
  obtain ⟨la, hla⟩ : ∃ b, lightN n m p = b := ⟨_, rfl⟩
  obtain ⟨lb, hlb⟩ : ∃ b, lightN n' m' p' = b := ⟨_, rfl⟩
  rw [hla] at LA
  rw [hlb] at LB
  have hb0 : Below w.heap.size w ((w.alloc (.cells #[.int .i64 k, .slice A n c, .slice B m d, .slice C p q] 25)).alloc (.cells #[.int .i64 k', .slice A' n' c', .slice B' m' d', .slice C' p' q'] 25)) := ((Below.refl _ _).alloc (Nat.le_refl _) _).alloc (by simp) _
  have HBA := Lib.hid (fun wx (hx : Below ((w.alloc (.cells #[.int .i64 k, .slice A n c, .slice B m d, .slice C p q] 25)).alloc (.cells #[.int .i64 k', .slice A' n' c', .slice B' m' d', .slice C' p' q'] 25)).heap.size ((w.alloc (.cells #[.int .i64 k, .slice A n c, .slice B m d, .slice C p q] 25)).alloc (.cells #[.int .i64 k', .slice A' n' c', .slice B' m' d', .slice C' p' q'] 25)) wx) => (⟨obAt_of (((Below.refl _ _).alloc (Nat.le_refl _) _).trans (hx.mono (by simp))), by have h := obAt_of hx; rw [World.size_alloc] at h; exact h⟩ : ObAt wx w.heap.size k A n c B m d C p q ∧ ObAt wx (w.heap.size + 1) k' A' n' c' B' m' d' C' p' q'))
  cases la
  · clear ha ha' b1 b2 b3 b4 b5 b6 b1' b2' b3' b4' b5' b6' LB hla hlb
    go_enter Try.func6, Try.ntmps6
    go_wp2_with (first
      | (go_at_call 7; refine (LA.out _).mono ?_; rintro e w1 ⟨rfl, hb1⟩)
      | (go_at_call 8; refine (awake_any _).mono ?_; rintro e w5 ⟨rfl, hb5⟩))
    go_ret
    exact ⟨rfl, (hb0.trans (hb1.mono hb0.size)).trans (hb5.mono (hb0.trans (hb1.mono hb0.size)).size)⟩
  cases lb
  · clear ha ha' b1 b2 b3 b4 b5 b6 b1' b2' b3' b4' b5' b6' hla hlb
    go_enter Try.func6, Try.ntmps6
    have m1 : True := trivial
    go_wp2_with (first
      | (go_at_call 7; clear m1; refine (LA.out _).mono ?_; rintro e w1 ⟨rfl, hb1⟩; obtain ⟨⟨x0, x1, x2, x3⟩, y0, y1, y2, y3⟩ := HBA.out _ hb1; have hb2 := hb0.trans (hb1.mono hb0.size); clear hb1)
      | (go_at_call 7; refine (LB.out _).mono ?_; rintro e w2 ⟨rfl, hb1⟩; have hb3 := hb2.trans (hb1.mono hb2.size); clear hb1)
      | (go_at_call 8; refine (awake_any _).mono ?_; rintro e w5 ⟨rfl, hb5⟩))
    go_ret
    exact ⟨rfl, hb3.trans (hb5.mono hb3.size)⟩
  have l1 := lightN_len hla
  have l2 := lightN_len hlb
  have HA := Lib.hid (fun wx (hx : Below w.heap.size w wx) => ha.reads.below hx (Nat.le_refl _))
  have HB := Lib.hid (fun wx (hx : Below w.heap.size w wx) => ha'.reads.below hx (Nat.le_refl _))
  have ar := ha.bytes
  have ar' := ha'.bytes
  obtain ⟨sb, hsb⟩ : ∃ b, Hid (sameO k k' ws ws' rs rs' is is' = b) := ⟨_, rfl⟩
  have S1 := Lib.hid (fun wx (hx : Below w.heap.size w wx) => osame_any k k' A A' n n' c c' ws ws' B B' m m' d d' rs rs' C C' p p' q q' is is' wx (HA.out wx hx) (HB.out wx hx) hx.size ar ar' (by omega))
  have S2 := Lib.hid (fun wx (hx : Below w.heap.size w wx) => rosame_any k k' A A' n n' c c' ws ws' B B' m m' d d' rs rs' C C' p p' q q' is is' wx (HA.out wx hx) (HB.out wx hx) hx.size ar ar' (by omega))
  have S3 := Lib.hid (fun wx (hx : Below w.heap.size w wx) => osame_any k k A A n n c c ws ws B B m m d d rs rs C C p p q q is is wx (HA.out wx hx) (HA.out wx hx) hx.size ar ar (by omega))
  rw [sameO_self] at S3
  rw [hsb.out] at S1 S2
  have HB0 := Lib.hid hb0
  clear ha ha' b1 b2 b3 b4 b5 b6 b1' b2' b3' b4' b5' b6' hla hlb hb0 ar ar' HA HB l1 l2
  go_enter Try.func6, Try.ntmps6
  have m1 : True := trivial
  go_wp2_with (first
    | (go_at_call 7; clear m1; refine (LA.out _).mono ?_; rintro e w1 ⟨rfl, hb1⟩; obtain ⟨⟨x0, x1, x2, x3⟩, y0, y1, y2, y3⟩ := HBA.out _ hb1; have hb2 := hb1; clear hb1)
    | (go_at_call 7; refine (LB.out _).mono ?_; rintro e w2 ⟨rfl, hb1⟩; have hb3 := hb2.trans (hb1.mono hb2.size); clear hb1))
  clear x0 x1 x2 x3 y0 y1 y2 y3 hb2
  have hb := below_drewn hb3 1
  clear hb3
  have HK := Lib.hid (HBA.out _ hb)
  have m1 : True := trivial
  go_region_held3 (fun w' => ObAt w' w.heap.size k A n c B m d C p q ∧ ObAt w' (w.heap.size + 1) k' A' n' c' B' m' d' C' p' q')
    (first | assumption | exact HK.out | exact HBA.out _ hb)
    (first
      | (go_at_call 10; refine (to_any _ _ _ _ _ _ _ _ _ _ _).mono ?_; rintro e wx ⟨rfl, hbx⟩; have hb := hb.trans (hbx.mono hb.size); clear hbx)
      | (go_at_call 25; clear m1; refine (S1.out _ (HB0.out.trans (hb.mono HB0.out.size))).mono ?_; rintro e wx ⟨rfl, hbx⟩; have hb := hb.trans (hbx.mono hb.size); clear hbx)
      | (go_at_call 23; refine (S2.out _ (HB0.out.trans (hb.mono HB0.out.size))).mono ?_; rintro e wx ⟨rfl, hbx⟩; have hb := hb.trans (hbx.mono hb.size); clear hbx)
      | (go_at_call 25; refine (S3.out _ (HB0.out.trans (hb.mono HB0.out.size))).mono ?_; rintro e wx ⟨rfl, hbx⟩; have hb := hb.trans (hbx.mono hb.size); clear hbx)
      | (go_at_call 8; refine (awake_any _).mono ?_; rintro e wx ⟨rfl, hbx⟩; have hb := hb.trans (hbx.mono hb.size); clear hbx))
  go_wp2
  go_ret
  exact ⟨rfl, HB0.out.trans (hb.mono HB0.out.size)⟩

end Go.Proofs.Ytbgdaiecmpjcbaa
