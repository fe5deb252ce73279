/-
  LAYER 10: Encode OF PACKAGE head: its contract, for every input.
-/
import Derived.Test.YtjbkkimgiageaaaHeadFn
import Derived.Test.YtjbkkimgiageaaaCrcFn
import Derived.Test.YtjbkkimgiageaaaMade
import Derived.Lib.SmallJoins
set_option linter.unusedVariables false
set_option linter.unusedSimpArgs false
namespace Go.Proofs.Ytjbkkimgiageaaa
open Go.RowKit

/-- What Encode tells. -/
def encHR (i k d f m : Int) : List Int := if rightH d f then encH i k d f m else []

theorem encHR_bytes (i k d f m : Int) : AreB (encHR i k d f m) := by
  unfold encHR
  split
  · exact encH_bytes _ _ _ _ _
  · exact AreB.nil

theorem words5 (w : World) (t : TypeId) (a b c d e : Int) : Reads (w.alloc (.cells #[.int .u64 a, .int .u64 b, .int .u64 c, .int .u64 d, .int .u64 e] t)) (w.heap.size + 1) 1 (some ⟨w.heap.size, 0, none⟩) 5 (cellsOf .u64 [a, b, c, d, e]) := Reads.newN _ _ _

/-- A row with a mark behind it reads as one without. -/
theorem Reads.newF (w : World) (t : TypeId) (cs : Array Value) (fr : Nat × Nat) : Reads (w.alloc (.cells cs t fr)) (w.heap.size + 1) 1 (some ⟨w.heap.size, 0, none⟩) cs.size cs.toList := by
  refine ⟨by simp, fun _ => ⟨_, rfl, Nat.lt_succ_self _, fun j v hj => ?_⟩⟩
  have h := World.cell?_alloc_mark w cs t fr j
  have e : (⟨w.heap.size, 0, none⟩ : Addr).add j = ⟨w.heap.size, j, none⟩ := by unfold Addr.add; split <;> simp_all
  rw [e, h]; simpa using hj

/-- The eight bytes that a file begins with, as cells. -/
abbrev magicC : Array Value := #[.int .u8 76, .int .u8 79, .int .u8 71, .int .u8 66, .int .u8 79, .int .u8 79, .int .u8 75, .int .u8 49]
theorem magicReads (w : World) (t : TypeId) (fr : Nat × Nat) : Reads (w.alloc (.cells magicC t fr)) (w.heap.size + 1) 1 (some ⟨w.heap.size, 0, none⟩) 8 (cellsOf .u8 magicB) := Reads.newF w t magicC fr

/-- A block that a writer was made ahead of is none of its own. -/
theorem WB.apart {w0 wx : World} {g : Nat} {v : Value} {zs : List Int} (h : WB w0 g v zs wx) : ¬ (wx.heap.size = g ∨ v.ownBlock = some wx.heap.size) := by
  rintro (e | e)
  · have := h.wr.blk.lt; omega
  · have := (h.wr.own.lt _ e).2; omega

set_option maxRecDepth 100000 in
set_option maxHeartbeats 2000000 in
theorem henc_yes (G : Nat) (i k d f m : Int) (w : World) (hr : rightH d f = true) (ht : IsTable w G) :
    Calls Try.prog 9 #[hdV i k d f m, .pointer (some ⟨G, 0, none⟩)] w (Told (encH i k d f m) w) := by
  have hbd := rightH_bd hr
  have R1 := Lib.hid (hright_any i k d f m)
  rw [hr] at R1
  have hwd : IntKind.u64.wrap d = d := by rw [IntKind.wrap_u64]; omega
  have hwf : IntKind.u64.wrap f = f := by rw [IntKind.wrap_u64]; omega
  have L1 : Hid (([] ++ magicB).length = 8) := rfl
  have L2 : Hid ([] ++ magicB ++ wordsB [i, k, d, f, m] = wordsH i k d f m) := rfl
  have L3 := Lib.hid (wordsH_length i k d f m)
  have LB := Lib.hid (wordsH_bytes i k d f m)
  have HZ : Hid (∀ s : Nat, s = crcAdd 0 (wordsH i k d f m) → wordsH i k d f m ++ bts (s : Int) 4 ++ List.replicate (padn (wordsH i k d f m ++ bts (s : Int) 4).length 64) 0 = encH i k d f m) := fun s hs => by
    subst hs
    rw [List.length_append, wordsH_length, bts_length]
    rfl
  have HL : Hid (∀ s : Int, (wordsH i k d f m ++ bts s 4).length = 52) := fun s => by rw [List.length_append, wordsH_length, bts_length]; rfl
  have HE := Lib.hid (encH_length i k d f m)
  have HS := Lib.hid (crcAdd_lt (s := 0) (zs := wordsH i k d f m) (by omega) (wordsH_bytes i k d f m))
  obtain ⟨s, hs⟩ : ∃ s, Hid (s = crcAdd 0 (wordsH i k d f m)) := ⟨_, rfl⟩
  rw [← hs.out] at HS
  have hs32 := HS.out
  have hws : IntKind.u64.wrap (s : Int) = s := by rw [IntKind.wrap_u64]; omega
  have T4 : (64 : Int) ≤ 4096 := by omega
  have HTB := Lib.hid (fun wx (hx : Below w.heap.size w wx) => (IsTable.below ht hx ht.lt : IsTable wx G))
  have m1 : True := trivial
  clear ht hr
  go_enter Try.func9, Try.ntmps9
  go_wp2_with (first
    | (go_at_call 11; refine (R1.out _).mono ?_; rintro e wR ⟨rfl, hbR⟩; have HbR : Below w.heap.size w wR := (boxed _ _).trans (hbR.mono (by simp)); have HO := Lib.hid (fun wx (hx : Below wR.heap.size wR wx) => hdAt_of (hbR.trans (hx.mono hbR.size))); have hg : wR.heap.size ≤ wR.heap.size := Nat.le_refl _; have kc := Joins.run_convert_bytes_const_at (P := Try.prog) (wR.alloc (.cells #[.slice none 0 0] 52)) 30 5 magicC 8 8 (wR.heap.size + 1) (by simp) Try.underlying30 Try.underlying5; have W0 := (nob wR).below (boxed _ (.cells magicC 5 (8, 9))); have q0 := magicReads (wR.alloc (.cells #[.slice none 0 0] 52)) 5 (8, 9); rw [World.size_alloc] at q0; clear hbR)
    | (go_at_call 23; refine (raw_any _ _ _ _ 8 8 magicB _ W0.wr q0 (by simp)).mono ?_; rintro e w1 ⟨rfl, hp1⟩; obtain ⟨v1, W1⟩ := W0.step hg hp1; obtain ⟨k10, k11, k12, k13, k14⟩ := HO.out _ W1.bel; have W2 := W1.below (boxed _ (.cells #[.int .u64 i, .int .u64 k, .int .u64 d, .int .u64 f, .int .u64 m] 22)); have hap := W1.apart; clear hp1)
    | (go_at_call 24; refine (words_any _ v1 _ _ 5 5 [i, k, d, f, m] _ W2.wr (words5 w1 22 i k d f m) (by simp) (fun _ ad e => by (injection e with e); subst e; exact hap) (by rw [L1.out]; omega)).mono ?_; rintro e w3 ⟨rfl, hp3⟩; rw [L2.out] at hp3; obtain ⟨v3, W3⟩ := W2.step hg hp3; clear hp3 hap)
    | (go_at_call 27; clear m1; refine (wdone_n _ 48 v3 _ _ W3.wr L3.out (by omega)).mono ?_; rintro e w4 ⟨A4, c4, rfl, hr4, hb4, hc41, hc42⟩; have W4 := W3.below hb4; have ht4 := HTB.out w4 (HbR.trans (W4.bel.mono HbR.size)))
    | (go_at_call 26; refine (crcSum_any G A4 48 c4 _ w4 ht4 hr4 LB.out hc41 hc42).mono ?_; rintro e w5 ⟨rfl, rfl⟩; rw [← hs.out])
    | (go_at_call 25; refine (num_any _ v3 _ s 4 _ W4.wr (by rw [L3.out]; omega)).mono ?_; rintro e w6 ⟨rfl, hp6⟩; obtain ⟨v6, W6⟩ := W4.step hg hp6; clear hp6)
    | (go_at_call 28; refine (pad_any _ v6 _ 64 _ W6.wr T4 (by omega) (by rw [HL.out]; omega)).mono ?_; rintro e w7 ⟨rfl, hp7⟩; rw [HZ.out s hs.out] at hp7; obtain ⟨v7, W7⟩ := W6.step hg hp7; clear hp7)
    | (go_at_call 27; refine (wdone_any _ v7 _ _ W7.wr (by rw [HE.out]; omega)).mono ?_; rintro e w8 ⟨A', c', rfl, ho, hb, h1, h2⟩))
  go_ret
  have hb9 := HbR.trans (W7.bel.mono HbR.size)
  exact ⟨A', _, c', rfl, rfl, own_base ho hb9.size, hb9.trans (hb.mono hb9.size), h1, by unfold maxLen at h2; omega⟩

theorem henc_no (v : Value) (i k d f m : Int) (w : World) (hr : rightH d f = false) :
    Calls Try.prog 9 #[hdV i k d f m, v] w (Told [] w) := by
  have R1 := Lib.hid (hright_any i k d f m)
  rw [hr] at R1
  clear hr
  go_enter Try.func9, Try.ntmps9
  go_wp2_with (go_at_call 11; refine (R1.out _).mono ?_; rintro e wR ⟨rfl, hbR⟩)
  go_ret
  exact Told.nil _ _ ((boxed _ _).trans (hbR.mono (by simp)))

/-- Encode: the header's bytes; none, if it may not be. -/
theorem henc_any (G : Nat) (i k d f m : Int) (w : World) (ht : IsTable w G) :
    Calls Try.prog 9 #[hdV i k d f m, .pointer (some ⟨G, 0, none⟩)] w (Told (encHR i k d f m) w) := by
  unfold encHR
  by_cases hr : rightH d f = true
  · rw [if_pos hr]; exact henc_yes G i k d f m w hr ht
  · rw [if_neg hr]; exact henc_no _ i k d f m w (by simpa using hr)

end Go.Proofs.Ytjbkkimgiageaaa
