/-
  LAYER 11: Encode OF PACKAGE slot: its contract, for every input.
-/
import Derived.Test.YtdajjkjpjhpnjaaSlotFn
import Derived.Test.YtdajjkjpjhpnjaaHeadEnc
set_option linter.unusedVariables false
set_option maxRecDepth 100000
set_option linter.unusedSimpArgs false
namespace Go.Proofs.Ytdajjkjpjhpnjaa
open Go.RowKit

theorem rows6 (w : World) (ty : TypeId) (a b c d e f : Int) : Reads (w.alloc (.cells (sC a b c d e f) ty)) (w.heap.size + 1) 1 (some ⟨w.heap.size, 0, none⟩) 6 (cellsOf .u64 [a, b, c, d, e, f]) := Reads.newN _ _ _

set_option maxHeartbeats 2000000 in
theorem senc_yes (G : Nat) (a b c d e f : Int) (w : World) (hr : rightS a b f = true) (ht : IsTable w G) (ha : 0 ≤ a) (hb : 0 ≤ b) :
    Calls Try.prog 8 #[sV a b c d e f, .pointer (some ⟨G, 0, none⟩)] w (Told (encW [a, b, c, d, e, f]) w) := by
  have R1 := Lib.hid (fun wx => sright_any a b c d e f wx ha hb)
  rw [hr] at R1
  have L2 : Hid (([] : List Int) ++ wordsB [a, b, c, d, e, f] = wordsB [a, b, c, d, e, f]) := rfl
  have L3 : Hid ((wordsB [a, b, c, d, e, f]).length = 48) := wordsB_length _
  have LB := Lib.hid (wordsB_bytes [a, b, c, d, e, f])
  have HZ : Hid (∀ s : Nat, s = crcAdd 0 (wordsB [a, b, c, d, e, f]) → wordsB [a, b, c, d, e, f] ++ bts (s : Int) 4 ++ List.replicate (padn (wordsB [a, b, c, d, e, f] ++ bts (s : Int) 4).length 64) 0 = encW [a, b, c, d, e, f]) := fun s hs => by
    subst hs
    rw [List.length_append, wordsB_length, bts_length]
    rfl
  have HL : Hid (∀ s : Int, (wordsB [a, b, c, d, e, f] ++ bts s 4).length = 52) := fun s => by rw [List.length_append, wordsB_length, bts_length]; rfl
  have HE := Lib.hid (encW_length (l := [a, b, c, d, e, f]) rfl)
  have HS := Lib.hid (crcAdd_lt (s := 0) (zs := wordsB [a, b, c, d, e, f]) (by omega) (wordsB_bytes [a, b, c, d, e, f]))
  generalize encW [a, b, c, d, e, f] = en at *
  obtain ⟨X, hX⟩ : ∃ X, X = wordsB [a, b, c, d, e, f] := ⟨_, rfl⟩
  have HX := Lib.hid hX
  rw [← hX] at L2 L3 LB HZ HL HS
  obtain ⟨s, hs⟩ : ∃ s, Hid (s = crcAdd 0 X) := ⟨_, rfl⟩
  rw [← hs.out] at HS
  have hs32 := HS.out
  have hws : IntKind.u64.wrap (s : Int) = s := by rw [IntKind.wrap_u64]; omega
  have T4 : (64 : Int) ≤ 4096 := by omega
  have HTB := Lib.hid (fun wx (hx : Below w.heap.size w wx) => (IsTable.below ht hx ht.lt : IsTable wx G))
  have m1 : True := trivial
  clear ht hr ha hb hX
  go_enter Try.func8, Try.ntmps8
  go_wp2_with (first
    | (go_at_call 11; refine (R1.out _).mono ?_; rintro en0 wR ⟨rfl, hbR⟩; have HbR : Below w.heap.size w wR := (boxed _ _).trans (hbR.mono (by simp)); have HO := Lib.hid (fun wx (hx : Below wR.heap.size wR wx) => slAt_of (hbR.trans (hx.mono hbR.size))); have hg : wR.heap.size ≤ wR.heap.size := Nat.le_refl _; obtain ⟨k10, k11, k12, k13, k14, k15⟩ := HO.out _ (boxed wR (.cells #[.slice none 0 0] 45)); have W2 := (nob wR).below (boxed _ (.cells (sC a b c d e f) 22)); have hap := (nob wR).apart; have q0 := rows6 (wR.alloc (.cells #[.slice none 0 0] 45)) 22 a b c d e f; rw [World.size_alloc] at q0 hap; clear hbR)
    | (go_at_call 20; refine (words_any _ _ _ _ 6 6 [a, b, c, d, e, f] _ W2.wr q0 (by simp) (fun _ ad h0 => by (injection h0 with h0); subst h0; exact hap) (by simp)).mono ?_; rintro en0 w3 ⟨rfl, hp3⟩; rw [← HX.out, L2.out] at hp3; obtain ⟨v3, W3⟩ := W2.step hg hp3; clear hp3 hap)
    | (go_at_call 23; clear m1; refine (wdone_n _ 48 v3 _ _ W3.wr L3.out (by omega)).mono ?_; rintro en0 w4 ⟨A4, c4, rfl, hr4, hb4, hc41, hc42⟩; have W4 := W3.below hb4; have ht4 := HTB.out w4 (HbR.trans (W4.bel.mono HbR.size)))
    | (go_at_call 22; refine (crcSum_any G A4 48 c4 _ w4 ht4 hr4 LB.out hc41 hc42).mono ?_; rintro en0 w5 ⟨rfl, rfl⟩; rw [← hs.out])
    | (go_at_call 21; refine (num_any _ v3 _ s 4 _ W4.wr (by rw [L3.out]; omega)).mono ?_; rintro en0 w6 ⟨rfl, hp6⟩; obtain ⟨v6, W6⟩ := W4.step hg hp6; clear hp6)
    | (go_at_call 24; refine (pad_any _ v6 _ 64 _ W6.wr T4 (by omega) (by rw [HL.out]; omega)).mono ?_; rintro en0 w7 ⟨rfl, hp7⟩; rw [HZ.out s hs.out] at hp7; obtain ⟨v7, W7⟩ := W6.step hg hp7; clear hp7)
    | (go_at_call 23; refine (wdone_any _ v7 _ _ W7.wr (by rw [HE.out]; omega)).mono ?_; rintro en0 w8 ⟨A', c', rfl, ho, hb, h1, h2⟩))
  go_ret
  have hb9 := HbR.trans (W7.bel.mono HbR.size)
  exact ⟨A', _, c', rfl, rfl, own_base ho hb9.size, hb9.trans (hb.mono hb9.size), h1, by unfold maxLen at h2; omega⟩

theorem senc_no (v : Value) (a b c d e f : Int) (w : World) (hr : rightS a b f = false) (ha : 0 ≤ a) (hb : 0 ≤ b) :
    Calls Try.prog 8 #[sV a b c d e f, v] w (Told [] w) := by
  have R1 := Lib.hid (fun wx => sright_any a b c d e f wx ha hb)
  rw [hr] at R1
  clear hr ha hb
  go_enter Try.func8, Try.ntmps8
  go_wp2_with (go_at_call 11; refine (R1.out _).mono ?_; rintro en0 wR ⟨rfl, hbR⟩)
  go_ret
  exact Told.nil _ _ ((boxed _ _).trans (hbR.mono (by simp)))

/-- What Encode tells of six words. -/
def encS (a b c d e f : Int) : List Int := if rightS a b f then encW [a, b, c, d, e, f] else []
theorem encS_list (a b c d e f : Int) : encS a b c d e f = encSR [a, b, c, d, e, f] := rfl
theorem encS_bytes (a b c d e f : Int) : AreB (encS a b c d e f) := encSR_bytes [a, b, c, d, e, f]

/-- Encode: the slot's bytes; none, if it may not be. -/
theorem senc_any (G : Nat) (a b c d e f : Int) (w : World) (ht : IsTable w G) (ha : 0 ≤ a) (hb : 0 ≤ b) :
    Calls Try.prog 8 #[sV a b c d e f, .pointer (some ⟨G, 0, none⟩)] w (Told (encS a b c d e f) w) := by
  unfold encS
  by_cases hr : rightS a b f = true
  · rw [if_pos hr]; exact senc_yes G a b c d e f w hr ht ha hb
  · rw [if_neg hr]; exact senc_no _ a b c d e f w (by simpa using hr) ha hb

end Go.Proofs.Ytdajjkjpjhpnjaa
