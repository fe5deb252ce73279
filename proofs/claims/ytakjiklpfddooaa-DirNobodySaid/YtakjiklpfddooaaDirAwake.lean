/-
  LAYER 7: WHAT awake DOES: the chapter's example.
-/
import Derived.Test.YtakjiklpfddooaaDirCrash
import Derived.Test.YtakjiklpfddooaaDirNames
set_option linter.unusedVariables false
set_option linter.unusedSimpArgs false
namespace Go.Proofs.Ytakjiklpfddooaa
open Go.RowKit

/-! ### the example, as plain data -/
def awA : DB := doS newD ⟨0, ⟨#[65]⟩, ⟨#[]⟩, 1⟩
def awB : DB := doS awA ⟨1, ⟨#[65]⟩, ⟨#[66]⟩, 0⟩
theorem awE0 : doE newD.now ⟨0, ⟨#[65]⟩, ⟨#[]⟩, 1⟩ = 0 := by kernel_rfl
theorem awE1 : doE awA.now ⟨1, ⟨#[65]⟩, ⟨#[66]⟩, 0⟩ = 0 := by kernel_rfl
theorem awL : awB.ops.length = 2 := by kernel_rfl
theorem awC1 : (awB.crash cfT [false, true]).now = [] := by kernel_rfl
theorem awC2 : (awB.crash cfT [true, true]).now = [(⟨#[66]⟩, 1)] := by kernel_rfl
theorem awG : GoodD awA 1 := newD_good.do_ ⟨by decide, by decide, by decide, .inl rfl⟩
theorem awG2 : GoodD awB 2 := awG.do_ ⟨by decide, by decide, by decide, .inr (.inl rfl)⟩

theorem lit2b (w : World) (t : TypeId) (a b : Bool) : Reads (w.alloc (.cells #[.bool a, .bool b] t)) (w.heap.size + 1) 1 (some ⟨w.heap.size, 0, none⟩) 2 (cellsB [a, b]) := by
  have h := Reads.newN w t #[.bool a, .bool b]
  exact h
theorem lit1t (w : World) (t : TypeId) (s : ByteArray) (hs : s.size ≤ maxLen) : Txt (w.alloc (.cells #[.string s] t)) (w.heap.size + 1) (some ⟨w.heap.size, 0, none⟩) 1 1 [s] :=
  ⟨Reads.new1 w t (.string s), Nat.le_refl _, by omega, fun x hx => by simp at hx; subst hx; exact hs⟩

theorem CDT.below_of {w w' : World} {base p : Nat} {S : Nat → Prop} {s : DB} (hc : Chg S w w') (hb : base ≤ w.heap.size) (hS : ∀ k, S k → base ≤ k) : Below base w w' := hc.below hb (fun k _ hk => hS k hk)

set_option maxHeartbeats 4000000 in
set_option maxRecDepth 100000 in
theorem awake_any (w : World) : Calls Try.prog 7 #[] w fun e w' => e = .returned (.bool true) ∧ Below w.heap.size w w' := by
  have m1 : True := trivial
  have m2 : True := trivial
  go_enter Try.func7, Try.ntmps7
  go_wp2_with (first
    | (go_at_call 6; go_loud (refine (dnew_ex w w.heap.size (Nat.le_refl _)).mono ?_; rintro e w1 ⟨P0, b0, b1, rfl, hx⟩; have HCR := (dcreate_any P0 w.heap.size 0 _ newD b0 b1 _ ⟨#[65]⟩ ⟨#[]⟩ 1 w1 hx.out.cd newD_good (by omega) (by decide) (by decide) (by decide)); rw [awE0] at HCR; have HC := Lib.hid HCR; have HX := Lib.hid hx.out; clear HCR hx))
    | (go_at_call 19; go_loud (refine HC.out.mono ?_; rintro e w2 ⟨rfl, hch, bn2, bs2, pv2, hcd2⟩; have HRN := (drename_any P0 w.heap.size 1 _ awA bn2 bs2 _ ⟨#[65]⟩ ⟨#[66]⟩ 0 w2 hcd2 awG (by omega) (by decide) (by decide) (by decide)); rw [awE1] at HRN; have HR := Lib.hid HRN; have HC2 := Lib.hid (show Below w.heap.size w w2 from HX.out.below.trans (hch.below HX.out.below.size (fun k _ hk => hk.1))); have HF2 := Lib.hid hcd2.foot; clear HRN hch hcd2))
    | (go_at_call 20; go_loud (refine HR.out.mono ?_; rintro e w3 ⟨rfl, hch, bn3, bs3, pv3, hcd3⟩; obtain ⟨A3, c3, rfl, -, -⟩ := own_form hcd3.pend; obtain ⟨d0, -, d2, -⟩ := hcd3.cells (Below.refl _ _); rw [show (doS awA ⟨1, ⟨#[65]⟩, ⟨#[66]⟩, 0⟩).ops.length = 2 from awL] at d2; have HC3 := Lib.hid (show Below w.heap.size w w3 from HC2.out.trans (hch.below HC2.out.size (fun k _ hk => (HF2.out k hk).1))); have CRf := Lib.hid (fun (ks : List Bool) (Bk : Nat) (K : Option Addr) (wz : World) (hb : Below w3.heap.size w3 wz) (hr : Reads wz Bk 1 K 2 (cellsB ks)) (hB : Bk ≤ wz.heap.size) => dcrash_any P0 K 2 2 ks Bk w.heap.size 2 _ awB bn3 bs3 _ wz (hcd3.below hb) hr hB (Nat.le_refl _) (by omega) awG2 (by omega)); have PN := Lib.hid (dpend_any P0 bn3 2 A3 c3 w3 d0 d2); clear hch hcd3 d0 d2))
    | (go_at_call 18; go_loud (refine PN.out.mono ?_; rintro e w9 ⟨rfl, rfl⟩))
    | (go_at_call 14; clear m1; go_loud (refine (CRf.out [false, true] _ _ _ ((Below.refl _ _).alloc (Nat.le_refl _) _) (lit2b w3 _ false true) (by simp)).mono ?_; rintro e w4 ⟨p4, bn4, bs4, pv4, rfl, hb4, hcd4⟩; have hnm := hcd4.now; rw [awC1] at hnm; have NM1 := Lib.hid (dnames_any p4 bn4 [] w4 (hcd4.cells (Below.refl _ _)).1 hnm (by decide) (fun q hq => (List.not_mem_nil hq).elim)); have HC4 := Lib.hid (show Below w3.heap.size w3 w4 from ((Below.refl _ _).alloc (Nat.le_refl _) _).trans (hb4.mono (by simp))); clear hb4 hcd4 hnm))
    | (go_at_call 16; clear m2; go_loud (refine NM1.out.mono ?_; rintro e w5 ⟨A5, c5, rfl, -, hb5⟩; have HC5 := Lib.hid (show Below w3.heap.size w3 w5 from HC4.out.trans (hb5.mono HC4.out.size)); clear hb5))
    | (go_at_call 14; go_loud (refine (CRf.out [true, true] _ _ _ (HC5.out.alloc HC5.out.size _) (lit2b w5 _ true true) (by simp)).mono ?_; rintro e w6 ⟨p6, bn6, bs6, pv6, rfl, hb6, hcd6⟩; have hnm := hcd6.now; rw [awC2] at hnm; have NM2 := Lib.hid (dnames_any p6 bn6 [(⟨#[66]⟩, 1)] w6 (hcd6.cells (Below.refl _ _)).1 hnm (by decide) (fun q hq => by simp at hq; subst hq; exact ⟨by decide, by decide⟩)); have HC6 := Lib.hid (show Below w3.heap.size w3 w6 from (HC5.out.alloc HC5.out.size _).trans (hb6.mono (by have := HC5.out.size; simp; omega))); clear hb6 hcd6 hnm))
    | (go_at_call 16; go_loud (refine NM2.out.mono ?_; rintro e w7 ⟨A7, c7, rfl, hT7, hb7⟩; have HT7 := Lib.hid hT7; have HC7 := Lib.hid (show Below w3.heap.size w3 w7 from HC6.out.trans (hb7.mono HC6.out.size)); clear hb7 hT7))
    | (go_at_call 15; go_loud (refine (texts_same A7 _ 1 c7 1 [⟨#[66]⟩] _ _ _ (HT7.out.below ((Below.refl _ _).alloc (Nat.le_refl _) _)) (lit1t w7 _ ⟨#[66]⟩ (by decide))).mono ?_; rintro e w9 ⟨rfl, nq, rfl⟩)))
  go_ret
  exact ⟨rfl, below_drewn (HC3.out.trans ((HC7.out.alloc HC7.out.size _).mono HC3.out.size)) nq⟩

end Go.Proofs.Ytakjiklpfddooaa
