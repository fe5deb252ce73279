/-
  LAYER 17: the chapter's example, as the statements ask it.
-/
import Derived.Test.YtjpfbkhjhainpaaGreatScRef
set_option linter.unusedVariables false
set_option maxRecDepth 100000
set_option linter.unusedSimpArgs false
namespace Go.Proofs.YtjpfbkhjhainpaaGreat
open Go.RowKit Go.Shelf

/-- The example's bytes: an array of one number. -/
def zsE : List Int := [4, 0, 0, 0, 0, 0, 0, 0, 32, 0, 0, 0, 0, 0, 0, 0, 0, 0, 0, 0, 0, 0, 0, 0, 5, 0, 0, 0, 0, 0, 0, 0]
theorem encE : encR 4 [0] [] [5] = zsE := by decide
theorem zsE_bytes : AreB zsE := fun z hz => by
  simp [zsE] at hz
  omega
theorem isE : SR.Is zsE ⟨0, 4, 32⟩ := ⟨⟨by decide, by decide, by decide, by decide, by decide, by decide⟩, by decide⟩
theorem scanE : scanAt zsE 0 [⟨0, 4, 32⟩] := ⟨rfl, isE, fun j k s e hd => by
  have h1 := hd.room
  have e' : (32 : Int) = (j : Int) := e
  have : zsE.length = 32 := rfl
  omega⟩
theorem scanE8 : scanAt zsE 8 [] := fun j k s e hd => by
  have e' : (8 : Int) = (j : Int) := e
  have e2 : j = 8 := by omega
  subst e2
  have h1 := hd.kd
  have h2 : lev ((zsE.drop 8).take 8) = 32 := by decide
  have h3 := hd.kk
  omega
theorem scanNil : scanAt ([] : List Int) 0 [] := fun j k s e hd => by
  have h1 := hd.room
  simp at h1

theorem reads_nil (w : World) (B : Nat) : Reads w B 1 none 0 (cellsOf .u8 []) := ⟨rfl, fun h => by omega⟩

set_option maxHeartbeats 2000000 in
theorem scawake_any (w : World) : Calls Tryz.prog 4 #[] w fun e w' => e = .returned (.bool true) ∧ Below w.heap.size w w' := by
  have hb1 : Below w.heap.size w ((w.alloc (.cells #[.int .u64 0] 23)).alloc (.cells #[.int .u64 5] 23)) := ((Below.refl _ _).alloc (Nat.le_refl _) _).alloc (by simp) _
  have HR : Hid (ObR ((w.alloc (.cells #[.int .u64 0] 23)).alloc (.cells #[.int .u64 5] 23)) (w.heap.size + 2) (some ⟨w.heap.size, 0, none⟩) 1 1 [0] none 0 0 [] (some ⟨w.heap.size + 1, 0, none⟩) 1 1 [5]) := by
    have h1 : Reads (w.alloc (.cells #[.int .u64 0] 23)) (w.heap.size + 1) 1 (some ⟨w.heap.size, 0, none⟩) 1 (cellsOf .u64 [0]) := Reads.newN w _ _
    have h2 : Reads ((w.alloc (.cells #[.int .u64 0] 23)).alloc (.cells #[.int .u64 5] 23)) (w.heap.size + 2) 1 (some ⟨w.heap.size + 1, 0, none⟩) 1 (cellsOf .u64 [5]) := by
      have := Reads.newN (w.alloc (.cells #[.int .u64 0] 23)) 23 #[.int .u64 5]
      rw [World.size_alloc] at this
      exact this
    exact ⟨(h1.below ((boxed _ _).mono (by simp))).more (by omega), Reads.none_, h2, ⟨by omega, by omega⟩, ⟨by omega, by omega⟩, ⟨by omega, by omega⟩⟩
  have EN := Lib.hid (oenc_any 4 (some ⟨w.heap.size, 0, none⟩) 1 1 [0] none 0 0 [] (some ⟨w.heap.size + 1, 0, none⟩) 1 1 [5] _ HR.out (by simp))
  have hzE := zsE_bytes
  have RW := Lib.hid (fun (A : Option Addr) (c B : Nat) wx (hr : Reads wx B 1 A 32 (cellsOf .u8 zsE)) (hB : B ≤ wx.heap.size) (hl : 32 ≤ c) (hc : c ≤ 9223372036854775807) => rows_any A 32 c zsE 0 32 [⟨0, 4, 32⟩] wx hr hB hzE hl hc (by omega) (by omega) (by omega) (by omega) (by omega) scanE)
  have W1 := Lib.hid (fun (A : Option Addr) (c B : Nat) wx (hr : Reads wx B 1 A 32 (cellsOf .u8 zsE)) (hB : B ≤ wx.heap.size) (hl : 32 ≤ c) (hc : c ≤ 9223372036854775807) => scWhole_any A 32 c zsE 0 32 [⟨0, 4, 32⟩] wx hr hB hzE hl hc (by omega) (by omega) (by omega) (by omega) (by omega) scanE)
  have W2 := Lib.hid (fun (A : Option Addr) (c B : Nat) wx (hr : Reads wx B 1 A 32 (cellsOf .u8 zsE)) (hB : B ≤ wx.heap.size) (hl : 32 ≤ c) (hc : c ≤ 9223372036854775807) => scWhole_any A 32 c zsE 8 32 [] wx hr hB hzE hl hc (by omega) (by omega) (by omega) (by omega) (by omega) scanE8)
  have W3 := Lib.hid (fun wx => scWhole_any none 0 0 [] 0 0 [] wx (reads_nil wx 0) (Nat.zero_le _) (by intro z hz; cases hz) (by omega) (by omega) (by omega) (by omega) (by omega) (by omega) (by omega) scanNil)
  have e1 : wholeB 32 0 32 [⟨0, 4, 32⟩] = true := by decide
  have e2 : wholeB 32 8 32 [] = false := by decide
  have e3 : wholeB 0 0 0 [] = true := by decide
  rw [e1] at W1
  rw [e2] at W2
  rw [e3] at W3
  clear e1 e2 e3
  have m1 : True := trivial
  have m2 : True := trivial
  go_enter Tryz.func4, Tryz.ntmps4
  go_wp2_with (first
    | (go_at_call 16; refine EN.out.mono ?_; rintro e w1 ⟨A1, N, c1, rfl, hN, ho, hb, hn1, hc1⟩; rw [encE] at hN ho; (have hN2 : N = 32 := hN); subst hN2; have HO := Lib.hid (And.intro ho (And.intro hb (And.intro hn1 hc1))); clear ho hb hn1 hc1 hN)
    | (go_at_call 17; refine (RW.out A1 c1 _ w1 (Reads.of_own HO.out.1) (Nat.le_refl _) HO.out.2.2.1 HO.out.2.2.2).mono ?_; rintro e w2 ⟨v, l, rfl, hR, hlr, hb2⟩; have hll : l.length = 1 := (by have := congrArg List.length hlr; simpa using this); obtain ⟨b, off, cc, x, rfl, hc3, hc4, hx, -, hbl, hcl⟩ := hR.at_ (i := 0) (by omega); have hxr : x.r = ⟨0, 4, 32⟩ := (by have h9 := congrArg (fun z : List SR => z[0]?) hlr; simp [hx] at h9; exact h9); have q1 := hcl 1 _ rfl; rw [hxr] at q1; have q2 : w2.cell? ⟨b, off + 1, none⟩ = some (.int .i64 32) := q1; rw [hll] at hc3 ⊢; have HB2 := Lib.hid hb2; clear hR hlr hx hcl hxr q1 hb2)
    | (clear m1; go_at_call 15; refine (W1.out A1 c1 _ w2 ((Reads.of_own HO.out.1).below HB2.out) HB2.out.size HO.out.2.2.1 HO.out.2.2.2).mono ?_; rintro e w3 ⟨rfl, hb3⟩; have HB3 := Lib.hid (HB2.out.trans (hb3.mono HB2.out.size)); clear hb3)
    | (clear m2; go_at_call 15; refine (W2.out A1 c1 _ w3 ((Reads.of_own HO.out.1).below HB3.out) HB3.out.size HO.out.2.2.1 HO.out.2.2.2).mono ?_; rintro e w4 ⟨rfl, hb4⟩; have HB4 := Lib.hid (HB3.out.trans (hb4.mono HB3.out.size)); clear hb4)
    | (go_at_call 15; refine (W3.out w4).mono ?_; rintro e w5 ⟨rfl, hb5⟩; have HB5 := Lib.hid (HB4.out.trans (hb5.mono HB4.out.size)); clear hb5))
  go_ret
  exact ⟨rfl, hb1.trans ((HO.out.2.1.trans (HB5.out.mono HO.out.2.1.size)).mono hb1.size)⟩
end Go.Proofs.YtjpfbkhjhainpaaGreat
