/-
  LAYER 9: Encode OF PACKAGE obj: its contract, for every input.
-/
import Derived.Test.YtbgdaiecmpjcbaaObjRight
import Derived.Test.YtbgdaiecmpjcbaaObjSame
import Derived.Test.YtbgdaiecmpjcbaaLeBackP
import Derived.Deep.RegionHeld3
set_option linter.unusedVariables false
set_option linter.unusedSimpArgs false
namespace Go.Proofs.Ytbgdaiecmpjcbaa
open Go.RowKit

/-- An object's bytes, without those that fill it up. -/
def headO (k : Int) (ws rs is : List Int) : List Int := (((wordsB [k, (bareN k rs.length is.length : Nat)]) ++ wordsB ws) ++ rs) ++ wordsB is
/-- An object's bytes. -/
def encO (k : Int) (ws rs is : List Int) : List Int := headO k ws rs is ++ List.replicate (padn (headO k ws rs is).length 8) 0
/-- What Encode tells. -/
def encR (k : Int) (ws rs is : List Int) : List Int := if rightN k ws.length rs.length is.length then encO k ws rs is else []

theorem headO_length (k : Int) (ws rs is : List Int) : (headO k ws rs is).length = 16 + 8 * ws.length + rs.length + 8 * is.length := by
  simp only [headO, List.length_append, wordsB_length, List.length_cons, List.length_nil]
theorem headO_bytes {k : Int} {ws rs is : List Int} (h : AreB rs) : AreB (headO k ws rs is) := (((wordsB_bytes _).append (wordsB_bytes _)).append h).append (wordsB_bytes _)
theorem encO_bytes {k : Int} {ws rs is : List Int} (h : AreB rs) : AreB (encO k ws rs is) := (headO_bytes h).append (AreB.zeros _)
theorem encR_bytes {k : Int} {ws rs is : List Int} (h : AreB rs) : AreB (encR k ws rs is) := by
  unfold encR
  split
  · exact encO_bytes h
  · exact AreB.nil
theorem padn_eight (n : Nat) : padn n 8 = (8 - n % 8) % 8 := by
  unfold padn
  rw [if_neg (by omega)]
  split <;> omega

/-- Bytes that a function has told: in a row of their own. -/
def Told (zs : List Int) (w : World) (e : Ending) (w' : World) : Prop :=
  ∃ A N c, e = .returned (.slice A N c) ∧ N = zs.length ∧ w'.ownsRow w.heap.size 5 1 (.slice A N c) N (cellsOf .u8 zs) ∧ Below w.heap.size w w' ∧ N ≤ c ∧ c ≤ 9223372036854775807

theorem Told.nil (w w' : World) (h : Below w.heap.size w w') : Told [] w (.returned (.slice none 0 0)) w' := ⟨none, 0, 0, rfl, rfl, World.ownsRow_nil _ _ _ _, h, Nat.le_refl _, by omega⟩

/-- The cells of a boxed object. -/
abbrev ObAt (w : World) (g : Nat) (k : Int) (A : Option Addr) (n c : Nat) (B : Option Addr) (m d : Nat) (C : Option Addr) (p q : Nat) : Prop :=
  w.cell? ⟨g, 0, none⟩ = some (.int .i64 k) ∧ w.cell? ⟨g, 1, none⟩ = some (.slice A n c) ∧ w.cell? ⟨g, 2, none⟩ = some (.slice B m d) ∧ w.cell? ⟨g, 3, none⟩ = some (.slice C p q)

theorem obAt_of {w w' : World} {t : TypeId} {k : Int} {A : Option Addr} {n c : Nat} {B : Option Addr} {m d : Nat} {C : Option Addr} {p q : Nat}
    (h : Below (w.alloc (.cells #[.int .i64 k, .slice A n c, .slice B m d, .slice C p q] t)).heap.size (w.alloc (.cells #[.int .i64 k, .slice A n c, .slice B m d, .slice C p q] t)) w') : ObAt w' w.heap.size k A n c B m d C p q := by
  have hb := (Blk.new w t #[.int .i64 k, .slice A n c, .slice B m d, .slice C p q]).below h (by simp)
  exact ⟨by rw [hb.cell]; rfl, by rw [hb.cell]; rfl, by rw [hb.cell]; rfl, by rw [hb.cell]; rfl⟩

theorem WB.below {w0 wx wy : World} {g : Nat} {v : Value} {zs : List Int} (h : WB w0 g v zs wx) (hb : Below wx.heap.size wx wy) : WB w0 g v zs wy :=
  ⟨h.wr.chg (Chg.of_below hb (Nat.le_refl _) (fun _ => False)) (fun h => h) (fun _ _ h => h), h.bel.trans (hb.mono h.bel.size), h.low⟩
theorem WB.dis {w0 wx wy : World} {g : Nat} {v : Value} {zs : List Int} {L n : Nat} {A : Option Addr} {xs : List Value} (h : WB w0 g v zs wx) (hg : w0.heap.size ≤ g) (hr : Reads wy L 1 A n xs) (hL : L ≤ w0.heap.size) :
    0 < n → ∀ ad, A = some ad → ¬ (ad.block = g ∨ v.ownBlock = some ad.block) := fun hn ad e => by
  obtain ⟨ad', e', hb', _⟩ := hr.2 hn
  rw [e] at e'; injection e' with e'
  subst e'
  rintro (e2 | e2)
  · omega
  · have := h.low _ e2; omega

theorem nob (w : World) : WB w w.heap.size (.slice none 0 0) [] (w.alloc (.cells #[.slice none 0 0] 50)) :=
  ⟨⟨Blk.new _ _ _, World.ownsRow_nil _ _ _ _⟩, (Below.refl _ _).alloc (Nat.le_refl _) _, fun j hj => by simp [Value.ownBlock] at hj⟩

set_option maxRecDepth 100000 in
set_option maxHeartbeats 2000000 in
theorem oenc_yes {L : Nat} (k : Int) (A : Option Addr) (n c : Nat) (ws : List Int) (B : Option Addr) (m d : Nat) (rs : List Int) (C : Option Addr) (p q : Nat) (is : List Int) (w : World) (h : ObR w L A n c ws B m d rs C p q is) (hL : L ≤ w.heap.size) (hr : rightN k n m p = true) :
    Calls Try.prog 9 #[obV k A n c B m d C p q] w (Told (encO k ws rs is) w) := by
  have hk := rightN_kind hr
  obtain ⟨-, l2, l3, l4⟩ := rightN_len hr
  have R1 := Lib.hid (oright_any k A n c B m d C p q)
  rw [hr] at R1
  have HB := Lib.hid (fun w => obare_any k A n c B m d C p q w (by omega) (by omega))
  have HBN : bareN k m p ≤ 10000 := by have := frontN_le k; unfold bareN; omega
  obtain ⟨s, hs⟩ : ∃ s, Hid (bareN k m p = s) := ⟨_, rfl⟩
  rw [hs.out] at HB HBN
  have hlw := h.wr.len
  have hlr := h.rr.len
  have hli := h.ir.len
  have L1 : Hid (([] ++ wordsB [k, (s : Int)]).length = 16) := by show _ = _; simp [wordsB_length]
  have L2 : Hid (([] ++ wordsB [k, (s : Int)] ++ wordsB ws).length = 16 + 8 * n) := by show _ = _; rw [List.length_append, L1.out, wordsB_length, hlw]
  have L3 : Hid (([] ++ wordsB [k, (s : Int)] ++ wordsB ws ++ rs).length = 16 + 8 * n + m) := by show _ = _; rw [List.length_append, L2.out, hlr]
  have L4 : Hid (([] ++ wordsB [k, (s : Int)] ++ wordsB ws ++ rs ++ wordsB is).length = 16 + 8 * n + m + 8 * p) := by show _ = _; rw [List.length_append, L3.out, wordsB_length, hli]
  have HZ : Hid ([] ++ wordsB [k, (s : Int)] ++ wordsB ws ++ rs ++ wordsB is ++ List.replicate (padn ([] ++ wordsB [k, (s : Int)] ++ wordsB ws ++ rs ++ wordsB is).length 8) 0 = encO k ws rs is) := by
    show _ = _
    unfold encO headO
    rw [hlr, hli, hs.out]
    rfl
  have H0 := Lib.hid h
  clear h hr hlw hlr hli
  have hwk : IntKind.u64.wrap k = k := by rw [IntKind.wrap_u64]; omega
  have hws : IntKind.u64.wrap (s : Int) = s := by rw [IntKind.wrap_u64]; omega
  have T8 : (8 : Int) ≤ 4096 := by omega
  go_enter Try.func9, Try.ntmps9
  go_wp2_with (go_at_call 13; go_loud (refine (R1.out _ (by omega) (by omega) (by omega)).mono ?_; rintro e wR ⟨rfl, hbR⟩; have HbR : Below w.heap.size w wR := ((Below.refl _ _).alloc (Nat.le_refl _) _).trans (hbR.mono (by simp)); have HO := Lib.hid (fun wx (hx : Below wR.heap.size wR wx) => obAt_of (hbR.trans (hx.mono hbR.size))); have W0 := (nob wR).below (below_drewn (Below.refl _ _) 1); have HK := Lib.hid (HO.out _ W0.bel); have H1 := Lib.hid (H0.out.below HbR hL); have hL2 : L ≤ wR.heap.size := Nat.le_trans hL HbR.size; clear hbR))
  have hg : wR.heap.size ≤ wR.heap.size := Nat.le_refl _
  go_region_held3 (fun w' => ObAt w' w.heap.size k A n c B m d C p q)
    (first | assumption | exact HK.out | exact HO.out _ (W3.bel.alloc W3.bel.size _))
    (first
      | (go_at_call 27; go_loud (refine (HB.out _).mono ?_; rintro e w3 ⟨rfl, hb3⟩; have W3 := W0.below hb3; have hk3 := HO.out _ W3.bel; clear hb3))
      | (go_at_call 26; go_loud (have W4 := W3.below ((Below.refl _ _).alloc (Nat.le_refl _) (.cells #[.int .u64 k, .int .u64 s] 48)); have hr4 : Reads (w3.alloc (.cells #[.int .u64 k, .int .u64 s] 48)) (w3.heap.size + 1) 1 (some ⟨w3.heap.size, 0, none⟩) 2 (cellsOf .u64 [k, (s : Int)]) := Reads.newN _ _ _; refine (words_any _ _ _ _ 2 2 [k, (s : Int)] _ W4.wr hr4 (by simp) (fun _ ad e => by (injection e with e); subst e; rintro (e2 | e2); (have h9 := W3.wr.blk.lt; have e3 : w3.heap.size = wR.heap.size := e2; omega); (simp [Value.ownBlock] at e2)) (by simp)).mono ?_; rintro e w5 ⟨rfl, hp5⟩; obtain ⟨v5, W5⟩ := W4.step hg hp5; have hk5 := HO.out _ W5.bel; clear hp5 hr4)))
  clear W0 W3 W4 HK hk3
  have m1 : True := trivial
  go_wp2_with (first
    | (go_at_call 26; clear m1; refine (words_any _ v5 _ A n c ws _ W5.wr (H1.out.below W5.bel hL2).wr (Nat.le_trans hL2 W5.bel.size) (W5.dis hg H0.out.wr hL2) (by rw [L1.out]; omega)).mono ?_; rintro e w6 ⟨rfl, hp6⟩; obtain ⟨v6, W6⟩ := W5.step hg hp6; obtain ⟨k60, k61, k62, k63⟩ := HO.out _ W6.bel; clear hp6)
    | (go_at_call 28; refine (raw_any _ v6 _ B m d rs _ W6.wr (H1.out.below W6.bel hL2).rr (by rw [L2.out]; omega)).mono ?_; rintro e w7 ⟨rfl, hp7⟩; obtain ⟨v7, W7⟩ := W6.step hg hp7; obtain ⟨k70, k71, k72, k73⟩ := HO.out _ W7.bel; clear hp7)
    | (go_at_call 26; refine (words_any _ v7 _ C p q is _ W7.wr (H1.out.below W7.bel hL2).ir (Nat.le_trans hL2 W7.bel.size) (W7.dis hg H0.out.ir hL2) (by rw [L3.out]; omega)).mono ?_; rintro e w8 ⟨rfl, hp8⟩; obtain ⟨v8, W8⟩ := W7.step hg hp8; clear hp8)
    | (go_at_call 29; refine (pad_any _ v8 _ 8 _ W8.wr T8 (by omega) (by rw [L4.out]; omega)).mono ?_; rintro e w9 ⟨rfl, hp9⟩; rw [HZ.out] at hp9; obtain ⟨v9, W9⟩ := W8.step hg hp9; clear hp9)
    | (go_at_call 30; refine (wdone_any _ v9 _ _ W9.wr (by rw [← HZ.out, List.length_append, L4.out, List.length_replicate]; have := padn_lt (16 + 8 * n + m + 8 * p) T8; omega)).mono ?_; rintro e w10 ⟨A', c', rfl, ho, hb, h1, h2⟩))
  go_ret
  have hb9 := HbR.trans (W9.bel.mono HbR.size)
  exact ⟨A', _, c', rfl, rfl, own_base ho hb9.size, hb9.trans (hb.mono hb9.size), h1, by unfold maxLen at h2; omega⟩

theorem oenc_no {L : Nat} (k : Int) (A : Option Addr) (n c : Nat) (ws : List Int) (B : Option Addr) (m d : Nat) (rs : List Int) (C : Option Addr) (p q : Nat) (is : List Int) (w : World) (h : ObR w L A n c ws B m d rs C p q is) (hr : rightN k n m p = false) :
    Calls Try.prog 9 #[obV k A n c B m d C p q] w (Told [] w) := by
  have h1 := h.wc
  have h2 := h.rc
  have h3 := h.ic
  have R1 := Lib.hid (oright_any k A n c B m d C p q)
  rw [hr] at R1
  clear h hr
  go_enter Try.func9, Try.ntmps9
  go_wp2_with (go_at_call 13; refine (R1.out _ (by omega) (by omega) (by omega)).mono ?_; rintro e wR ⟨rfl, hbR⟩)
  go_ret
  exact Told.nil _ _ (((Below.refl _ _).alloc (Nat.le_refl _) _).trans (hbR.mono (by simp)))

/-- Encode: the object's bytes; none, if it may not be. -/
theorem oenc_any {L : Nat} (k : Int) (A : Option Addr) (n c : Nat) (ws : List Int) (B : Option Addr) (m d : Nat) (rs : List Int) (C : Option Addr) (p q : Nat) (is : List Int) (w : World) (h : ObR w L A n c ws B m d rs C p q is) (hL : L ≤ w.heap.size) :
    Calls Try.prog 9 #[obV k A n c B m d C p q] w (Told (encR k ws rs is) w) := by
  have e1 := h.wr.len
  have e2 := h.rr.len
  have e3 := h.ir.len
  by_cases hr : rightN k n m p = true
  · have e : encR k ws rs is = encO k ws rs is := by unfold encR; rw [e1, e2, e3, hr]; rfl
    rw [e]
    exact oenc_yes k A n c ws B m d rs C p q is w h hL hr
  · have hr : rightN k n m p = false := by simpa using hr
    have e : encR k ws rs is = [] := by unfold encR; rw [e1, e2, e3, hr]; rfl
    rw [e]
    exact oenc_no k A n c ws B m d rs C p q is w h hr

end Go.Proofs.Ytbgdaiecmpjcbaa
