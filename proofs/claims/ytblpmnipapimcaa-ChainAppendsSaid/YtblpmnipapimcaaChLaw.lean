/-
  LAYER 14: what the statements share: a fresh image, the example.
-/
import Derived.Test.YtblpmnipapimcaaChState
set_option linter.unusedVariables false
set_option maxRecDepth 100000
set_option linter.unusedSimpArgs false
namespace Go.Proofs.Ytblpmnipapimcaa
open Go.RowKit Go.Shelf

theorem nz_newC {k d f : Int} {j : Nat} (hj : 64 ≤ j) : nz (newB 0 k d f 0) j = 0 := by
  unfold newB
  rw [nz_append, encH_length, if_neg (by omega)]
  exact nz_of_all (fun z hz => (List.mem_replicate.1 hz).2) _

theorem cfresh_any {base : Nat} (lm : Nat) (w : World) (hbas : base ≤ w.heap.size) (hlm : lm ≤ 1048576) :
    Calls Try.prog 7 #[.int .i64 lm] w fun e w' => ∃ p, e = .returned (.pointer (some ⟨p, 0, none⟩)) ∧ Below w.heap.size w w' ∧
      CS w' base (fun j => w.heap.size ≤ j ∧ j < w'.heap.size) p lm (fun _ => []) (fun _ => 0) 288 0 := by
  have hr : rightH 2 2 = true := by decide
  have hlen : (newB 0 0 2 2 0).length = 288 := by rw [newB_length hr]; decide
  have NW := Lib.hid (fun G w1 (hb : base ≤ w1.heap.size) (ht : IsTable w1 G) => inew_yes (base := base) G 0 0 2 2 0 lm w1 hr ht hb)
  have CN : Hid (CB 288 roots2 2 (newB 0 0 2 2 0) []) := Lib.hid (CB.nothing hlen (by decide) (by decide) (roots2_rt (by decide)) roots2_ap (fun j hj => nz_newC (by omega)))
  have HL := Lib.hid hlen
  clear hr hlen
  go_enter Try.func7, Try.ntmps7
  go_wp2_with (first
    | (go_at_call 25; refine (crcMake_any _).mono ?_; rintro e w1 ⟨rfl, ht, hb1⟩; have HT := Lib.hid ht; clear ht)
    | (go_at_call 24; refine (NW.out _ _ (Nat.le_trans hbas hb1.size) HT.out).mono ?_; rintro e w2 ⟨p, bv, sv, rfl, hb2, H2⟩))
  go_ret
  have hb := hb1.trans (hb2.mono hb1.size)
  refine ⟨p, rfl, hb, ⟨⟨0, _, bv, sv, [], H2.mono (fun j hj => ⟨Nat.le_trans hb1.size hj.1, hj.2⟩) (fun j hj => ⟨Nat.le_trans hbas hj.1, hj.2⟩), CN.out, newB_bytes _ _ _ _ _, rfl, HL.out, by simp, by show (newB 0 0 2 2 0).length ≤ _; rw [HL.out]; omega, fun t ht => ⟨LI.nil_, rfl⟩⟩, ⟨hlm, by omega⟩, fun t ht => ⟨by simp, by omega⟩⟩⟩

/-- Where the example stands ahead of number i. -/
def AwI (i : Nat) (Ls : Nat → List Int) (As : Nat → Nat) (tl : Nat) : Prop := (Ls 0).length = i - 1 ∧ ((i = 1 ∧ As 0 = 0 ∧ tl = 288) ∨ (2 ≤ i ∧ i ≤ 5 ∧ As 0 = 1 ∧ tl = 344) ∨ (i = 6 ∧ As 0 = 2 ∧ tl = 432))
structure AwS (w wr : World) (p i : Nat) : Prop where
  ex : ∃ S Ls As tl, CS wr w.heap.size S p 5000 Ls As tl (i - 1) ∧ AwI i Ls As tl
  bel : Below w.heap.size w wr
theorem aw_next {w wr : World} {p i : Nat} (h : AwS w wr p i) (h1 : 1 ≤ i ∧ i ≤ 5) : Calls Try.prog 9 #[.pointer (some ⟨p, 0, none⟩), .int .i64 192, .int .u64 (8 * i : Nat)] wr fun e w' => e = .returned (.int .i64 0) ∧ AwS w w' p (i + 1) := by
  obtain ⟨⟨S, Ls, As, tl, hC, hI1, hI2⟩, hb⟩ := h
  refine (cappend_cs hC (by omega) (t := 0) (by omega) (8 * i : Nat) ⟨by omega, by omega⟩).mono ?_
  have r0 : roomC 0 = 0 := rfl
  have r1 : roomC 1 = 4 := by decide
  have s0 : sizeC 0 = 4 := by decide
  have s1 : sizeC 1 = 8 := by decide
  have hbel : ∀ {w' : World}, Chg S wr w' → Below w.heap.size w w' := fun hc => hb.trans (hc.below hb.size (fun j _ hj => (hC.foot j hj).1))
  rintro e w' (⟨h0, -⟩ | ⟨-, hlt, rfl, hc, hC'⟩ | ⟨-, heq, hfull, -, -⟩ | ⟨-, heq, hfit, rfl, hc, hC'⟩)
  · omega
  · refine ⟨rfl, ⟨⟨_, _, _, _, by rw [show i + 1 - 1 = i - 1 + 1 by omega]; exact hC', ?_, ?_⟩, hbel hc⟩⟩
    · simp only [updL, if_true, List.length_append, List.length_singleton]; omega
    · rcases hI2 with ⟨e1, e2, e3⟩ | ⟨e1, e2, e3, e4⟩ | ⟨e1, e2, e3⟩
      · rw [e2, r0] at hlt; omega
      · rw [e3, r1] at hlt; exact .inr (.inl ⟨by omega, by omega, e3, e4⟩)
      · omega
  · rcases hI2 with ⟨e1, e2, e3⟩ | ⟨e1, e2, e3, e4⟩ | ⟨e1, e2, e3⟩
    · rw [e2, s0, e3] at hfull; unfold alen at hfull; omega
    · rw [e3, s1, e4] at hfull; unfold alen at hfull; omega
    · omega
  · refine ⟨rfl, ⟨⟨_, _, _, _, by rw [show i + 1 - 1 = i - 1 + 1 by omega]; exact hC', ?_, ?_⟩, hbel hc⟩⟩
    · simp only [updL, if_true, List.length_append, List.length_singleton]; omega
    · rcases hI2 with ⟨e1, e2, e3⟩ | ⟨e1, e2, e3, e4⟩ | ⟨e1, e2, e3⟩
      · refine .inr (.inl ⟨by omega, by omega, ?_, ?_⟩)
        · simp [updN, e2]
        · rw [e2, s0, e3]; rfl
      · rw [e3, r1] at heq
        refine .inr (.inr ⟨by omega, ?_, ?_⟩)
        · simp [updN, e3]
        · rw [e3, s1, e4]; rfl
      · omega

set_option maxHeartbeats 2000000 in
theorem awake_any (w : World) : Calls Try.prog 6 #[] w fun e w' => e = .returned (.bool true) ∧ Below w.heap.size w w' := by
  have FR := Lib.hid (cfresh_any (base := w.heap.size) 5000 w (Nat.le_refl _) (by omega))
  go_enter Try.func6, Try.ntmps6
  go_wp2_with (go_at_call 7; refine FR.out.mono ?_; rintro e w1 ⟨p, rfl, hb1, C1⟩)
  go_loopw [2] (fun i wr => ∃ k : Nat, i = .int .i64 k ∧ (1 ≤ k ∧ k ≤ 6) ∧ Hid (AwS w wr p k)) (fun i _ => 6 - (intOf i).toNat)
  case atStart => exact ⟨1, rfl, by omega, Lib.hid ⟨⟨_, _, _, _, C1, rfl, .inl ⟨rfl, rfl, rfl⟩⟩, hb1⟩⟩
  case round =>
    obtain ⟨k, rfl, hk, hA⟩ := hrel
    clear C1 hb1 FR
    by_cases hlt : k ≤ 5
    · have AP := Lib.hid (aw_next hA.out (by omega))
      have e1 : ((8 * k : Nat) : Int) = 8 * (k : Int) := by omega
      rw [e1] at AP
      have i1 : (k : Int) ≤ 5 := by omega
      have hw : IntKind.i64.wrap (8 * (k : Int)) = 8 * (k : Int) := wrap_i64_of (by omega) (by omega)
      have hw2 : IntKind.u64.wrap (8 * (k : Int)) = 8 * (k : Int) := wrap_u64_of (by omega) (by omega)
      go_wp2_with (go_at_call 9; refine AP.out.mono ?_; rintro e w2 ⟨rfl, hA2⟩)
      go_roundw
      case rel => exact ⟨k + 1, by go_num, by omega, Lib.hid hA2⟩
      case measure => simp [intOf]; omega
    · have e : k = 6 := by omega
      subst e
      obtain ⟨⟨S, Ls, As, tl, hC, hI1, hI2⟩, hb⟩ := hA.out
      have hA0 : As 0 = 2 := by omega
      obtain ⟨its, hL, hn, hsz⟩ := hC.list (t := 0) (by omega)
      have hr : roots2 0 = 192 := rfl
      rw [hr] at hL
      rw [hA0] at hn hsz
      have hsz2 : (its.map fun u => (u.is.length : Int)) = [4, 8] := by rw [hsz]; decide
      have SZ := Lib.hid (sizes_any wr hL)
      rw [hsz2, hn] at SZ
      have LN := Lib.hid (fun w2 (hb2 : Below wr.heap.size wr w2) => clen_any w2 (hL.below hb2))
      rw [hI1] at LN
      have HB := Lib.hid hb
      clear hL hC hsz hsz2 hn hb hA hI1 hI2 hA0
      go_wp2_with (first
        | (go_at_call 11; refine SZ.out.mono ?_; rintro e w2 ⟨v, rfl, hown, hb2⟩; obtain ⟨A, c, rfl, -, -⟩ := own_form hown; have hrd := Reads.of_own hown; obtain ⟨b, off, hAe, _, h1c⟩ := hrd.plain (by omega); subst hAe; have q0 : w2.cell? ⟨b, off, none⟩ = some (.int .i64 4) := h1c 0 (by omega); have q1 : w2.cell? ⟨b, off + 1, none⟩ = some (.int .i64 8) := h1c 1 (by omega))
        | (go_at_call 14; refine (LN.out _ hb2).mono ?_; rintro e w3 ⟨rfl, hb3⟩))
      go_ret
      exact ⟨rfl, HB.out.trans ((hb2.trans (hb3.mono hb2.size)).mono HB.out.size)⟩

end Go.Proofs.Ytblpmnipapimcaa
