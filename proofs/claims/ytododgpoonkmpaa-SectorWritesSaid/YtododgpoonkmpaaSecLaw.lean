/-
  LAYER 5: what the statements share: pieces as a reader has them, awake; the walk of SectorCuts.
-/
import Derived.Test.YtododgpoonkmpaaSecPcR
import Derived.Test.YtododgpoonkmpaaSame
import Derived.Test.YtododgpoonkmpaaFrame
import Derived.Deep.QuietTactic
import Derived.BigQuiet
set_option linter.unusedVariables false
set_option linter.unusedSimpArgs false
namespace Go.Proofs.Ytododgpoonkmpaa
open Go.RowKit

/-- Pieces as a reader has them. -/
def Pcs (w : World) (A : Option Addr) (S f : Nat) (bs : List Int) (k : Nat) : Prop :=
  ∀ j, j < k → ∃ g A' n c, A = some ⟨g, 0, none⟩ ∧ g < w.heap.size ∧ w.cell? ⟨g, j * 3, none⟩ = some (.int .i64 ((S : Int) + (j : Int))) ∧ w.cell? ⟨g, j * 3 + 1, none⟩ = some (.int .i64 (f - 64 * j : Nat)) ∧
    w.cell? ⟨g, j * 3 + 2, none⟩ = some (.slice A' n c) ∧ Reads w w.heap.size 1 A' n (cellsOf .u8 (pcD f bs j)) ∧ n ≤ c ∧ c ≤ maxLen

theorem GivesP.pcs {t : TypeId} {S f k : Nat} {bs : List Int} {w w' : World} {e : Ending} (h : GivesP t S f bs k w e w') : ∃ A c, e = .returned (.slice A k c) ∧ k ≤ c ∧ c ≤ maxLen ∧ Pcs w' A S f bs k ∧ Below w.heap.size w w' := by
  obtain ⟨A, c, xs, rfl, hown, hp, hb⟩ := h
  obtain ⟨A1, c1, e1, h1, h2⟩ := own_form hown
  injection e1 with e1 _ e3
  subst e1; subst e3
  refine ⟨A, c, rfl, h1, h2, fun j hj => ?_, hb⟩
  obtain ⟨g, c2, e4, _, hl⟩ := hown.form (by omega)
  injection e4 with e4 _ e5
  subst e4; subst e5
  obtain ⟨A', n, c', a1, a2, a3, a4, a5, a6⟩ := hp.at_ j hj
  exact ⟨g, A', n, c', rfl, hl, by rw [hown.cellAt _ (by omega)]; exact a1, by rw [hown.cellAt _ (by omega)]; exact a2, by rw [hown.cellAt _ (by omega)]; exact a3, a4, a5, a6⟩
theorem Pcs.below {w w' : World} {A : Option Addr} {S f k : Nat} {bs : List Int} (h : Pcs w A S f bs k) (hb : Below w.heap.size w w') : Pcs w' A S f bs k := fun j hj => by
  obtain ⟨g, A', n, c, h1, h2, h3, h4, h5, h6, h7, h8⟩ := h j hj
  exact ⟨g, A', n, c, h1, Nat.lt_of_lt_of_le h2 hb.size, (hb.cell (p := ⟨g, _, none⟩) h2).trans h3, (hb.cell (p := ⟨g, _, none⟩) h2).trans h4, (hb.cell (p := ⟨g, _, none⟩) h2).trans h5, (h6.below hb).more hb.size, h7, h8⟩

/-- How many pieces, whatever the place. -/
def pcI (at_ : Int) (len : Nat) : Nat := if at_ < 0 then 0 else pcN (at_.toNat % 64) len
theorem pcI_le (at_ : Int) (len : Nat) : pcI at_ len ≤ len / 64 + 2 := by
  unfold pcI; split
  · omega
  · exact pcN_le _ _ (by omega)

theorem pieces_any (at_ : Int) (A : Option Addr) (len cap : Nat) (bs : List Int) (B : Nat) (w : World) (hr : Reads w B 1 A len (cellsOf .u8 bs)) (hB : B ≤ w.heap.size) (hl : len ≤ cap) (hcap : cap ≤ 9223372036854775807) (hn : len ≤ 1073741824) (hat : at_ ≤ 4611686018427387904) :
    Calls Try.prog 7 #[.int .i64 at_, .slice A len cap] w (GivesP 30 (at_.toNat / 64) (at_.toNat % 64) bs (pcI at_ len) w) := by
  by_cases h : at_ < 0
  · refine (pieces_neg at_ A len cap w h).mono fun e w' ⟨he, hw⟩ => ?_
    subst he; subst hw
    rw [show pcI at_ len = 0 by unfold pcI; rw [if_pos h]]
    exact GivesP.none_ _ _ _ _ _
  · obtain ⟨n, rfl⟩ : ∃ n : Nat, at_ = n := ⟨at_.toNat, by omega⟩
    rw [show pcI n len = pcN (n % 64) len by unfold pcI; rw [if_neg h]; rfl]
    exact pieces_nat n A len cap bs B w hr hB hl hcap hn (by omega)
theorem rpieces_any (at_ : Int) (A : Option Addr) (len cap : Nat) (bs : List Int) (B : Nat) (w : World) (hr : Reads w B 1 A len (cellsOf .u8 bs)) (hB : B ≤ w.heap.size) (hl : len ≤ cap) (hcap : cap ≤ 9223372036854775807) (hn : len ≤ 1073741824) (hat : at_ ≤ 4611686018427387904) :
    Calls Try.prog 8 #[.int .i64 at_, .slice A len cap] w (GivesP 31 (at_.toNat / 64) (at_.toNat % 64) bs (pcI at_ len) w) := by
  by_cases h : at_ < 0
  · refine (rpieces_neg at_ A len cap w h).mono fun e w' ⟨he, hw⟩ => ?_
    subst he; subst hw
    rw [show pcI at_ len = 0 by unfold pcI; rw [if_pos h]]
    exact GivesP.none_ _ _ _ _ _
  · obtain ⟨n, rfl⟩ : ∃ n : Nat, at_ = n := ⟨at_.toNat, by omega⟩
    rw [show pcI n len = pcN (n % 64) len by unfold pcI; rw [if_neg h]; rfl]
    exact rpieces_nat n A len cap bs B w hr hB hl hcap hn (by omega)

theorem awake_any (w : World) : Calls Try.prog 6 #[] w fun e w' => e = .returned (.bool true) ∧ Below w.heap.size w w' := by
  have hp := fun w1 : World => pieces_any 63 (some ⟨w.heap.size, 0, none⟩) 3 3 [1, 2, 3] (w.heap.size + 1) (w.alloc (.cells (cellsOf .u8 [1, 2, 3]).toArray 5)) (litReads w _ [1, 2, 3]) (by simp) (by omega) (by omega) (by omega) (by omega)
  have HP := Lib.hid (hp w)
  clear hp
  go_enter Try.func6, Try.ntmps6
  go_wp2_with (go_at_call 7; refine HP.out.mono ?_; rintro e w1 hg; obtain ⟨A, c, rfl, hc1, hc2, hpc, hb⟩ := hg.pcs; rw [show pcI 63 3 = 2 from rfl]; obtain ⟨g, A0, n0, c0, rfl, x0, x1, x2, x3, x4, x5, x6⟩ := hpc 0 (by decide); obtain ⟨g', A1, n1, c1, y00, y0, y1, y2, y3, y4, y5, y6⟩ := hpc 1 (by decide); injection y00 with y00; injection y00 with y00; subst y00; obtain rfl : n0 = 1 := (by have := x4.len; exact this.symm); obtain rfl : n1 = 2 := (by have := y4.len; exact this.symm); clear hg hpc x4 y4; simp at x1 x2 x3 y1 y2 y3)
  go_ret
  exact ⟨rfl, (Below.refl _ _).alloc (Nat.le_refl _) _ |>.trans (hb.mono (by simp))⟩

theorem same_self {B B' : Nat} (A A' : Option Addr) (n n' c c' : Nat) (xs : List Int) (w : World) (hx : Reads w B 1 A n (cellsOf .u8 xs)) (hy : Reads w B' 1 A' n' (cellsOf .u8 xs)) (bx : AreB xs) :
    Calls Try.prog 11 #[.slice A n c, .slice A' n' c'] w fun e w' => e = .returned (.bool true) ∧ w = w' := same_yes A A' n n' c c' xs xs w hx hy bx (Lib.hid rfl)

theorem in_bytes {w : World} {A : Option Addr} {len cap : Nat} {zs : List Int} (h : InInts w .u8 A len cap zs) : AreB zs := fun z hz => wf_u8_bd (h.wf z hz)

set_option maxHeartbeats 1000000 in
theorem cuts_law (at_ : Int) (A : Option Addr) (len cap : Nat) (bs : List Int) (size : Int) (w : World) (h0 : (Lit.int .i64 at_).wf = true) (hin : InInts w .u8 A len cap bs) (h2 : (Lit.int .i64 size).wf = true) :
    Calls Try.prog 3 #[.int .i64 at_, .slice A len cap, .int .i64 size] w fun e w' => e = .returned (.bool true) ∧ Below w.heap.size w w' := by
  have hb1 := bounds_i64 h0
  have hb2 := bounds_i64 h2
  have hl := hin.le
  have hc := hin.cap
  have hr := hin.reads
  have hby := in_bytes hin
  clear hin h0 h2
  by_cases g1 : len ≤ 2000
  · by_cases g2 : at_ ≤ 1099511627776
    · by_cases g3 : size ≤ 1099511627776
      · obtain ⟨K, hK⟩ : ∃ K, K = pcI at_ len := ⟨_, rfl⟩
        obtain ⟨S, hS⟩ : ∃ S, S = at_.toNat / 64 := ⟨_, rfl⟩
        obtain ⟨f, hf⟩ : ∃ f, f = at_.toNat % 64 := ⟨_, rfl⟩
        have hK2 : K ≤ 40 := by have := pcI_le at_ len; omega
        have P1 := Lib.hid (pieces_any at_ A len cap bs w.heap.size w hr (Nat.le_refl _) hl hc (by omega) (by omega))
        have P2 := Lib.hid (fun (w1 : World) (hb : Below w.heap.size w w1) => rpieces_any at_ A len cap bs w.heap.size w1 (hr.below hb) hb.size hl hc (by omega) (by omega))
        rw [← hK, ← hS, ← hf] at P1 P2
        have C1 := Lib.hid (fun w1 : World => count_any size w1 (by omega) (by omega))
        have C2 := Lib.hid (fun w1 : World => rcount_any size w1 (by omega) (by omega))
        have hsm : S ≤ 17179869184 := by omega
        have hpb : ∀ j, AreB (pcD f bs j) := fun j => pcD_bytes hby f j
        have HPB := Lib.hid hpb
        clear hK hS hf hr hpb hby
        have m1 : True := trivial
        go_enter Try.func3, Try.ntmps3
        go_wp2_with (first
          | (go_at_call 7; clear m1; refine P1.out.mono ?_; rintro e w1 hg; obtain ⟨A1, c1, rfl, hc11, hc12, hp1, hb1⟩ := hg.pcs; clear hg)
          | (go_at_call 8; refine (P2.out _ hb1).mono ?_; rintro e w2 hg; obtain ⟨A2, c2, rfl, hc21, hc22, hp2, hb2⟩ := hg.pcs; replace hp1 := hp1.below hb2; replace hb2 := hb1.trans (hb2.mono hb1.size); clear hg hb1)
          | (go_at_call 9; refine (C1.out _).mono ?_; rintro e w3 ⟨rfl, rfl⟩)
          | (go_at_call 10; refine (C2.out _).mono ?_; rintro e w3 ⟨rfl, rfl⟩))
        go_loopw [9] (fun i wr => ∃ k q : Nat, k ≤ K ∧ i = .int .i64 k ∧ wr = w2.drewN q) (fun i _ => K - (intOf i).toNat)
        case atStart => exact ⟨0, 0, Nat.zero_le _, rfl, rfl⟩
        case round =>
          obtain ⟨k, q, hk, rfl, rfl⟩ := hrel
          replace hp1 : Pcs (w2.drewN q) A1 S f bs K := hp1
          replace hp2 : Pcs (w2.drewN q) A2 S f bs K := hp2
          replace hb2 : Below w.heap.size w (w2.drewN q) := below_drewn hb2 q
          obtain ⟨w3, hw3⟩ : ∃ w3, w3 = w2.drewN q := ⟨_, rfl⟩
          rw [← hw3] at hp1 hp2 hb2 ⊢
          have HW3 := Lib.hid hw3
          clear hw3
          by_cases hlt : k < K
          · obtain ⟨ga, Aa, na, ca, rfl, xa0, xa1, xa2, xa3, xa4, xa5, xa6⟩ := hp1 k hlt
            obtain ⟨gb, Ab, nb, cb, rfl, xb0, xb1, xb2, xb3, xb4, xb5, xb6⟩ := hp2 k hlt
            have hlti : (k : Int) < (K : Int) := by omega
            have hk0 : (0 : Int) ≤ (k : Int) := by omega
            obtain ⟨fr, hfr⟩ : ∃ fr, fr = f - 64 * k := ⟨_, rfl⟩
            rw [← hfr] at xa2 xb2
            have XA := Lib.hid xa4
            have XB := Lib.hid xb4
            clear hfr hp1 hp2 xa4 xb4
            go_wp2
            go_quiet ((go_at_call 11; exact Calls.quiet_of_same ((same_self Aa Ab na nb ca cb _ _ (XA.out.drewN _) (XB.out.drewN _) (HPB.out k)).mono fun _ _ ⟨he, hw⟩ => ⟨he, hw.symm⟩)))
            go_wp2
            go_roundw
            case rel => exact ⟨k + 1, _, by omega, by go_num, by rw [HW3.out]; exact World.drewN_drewN _ _ _⟩
            case measure => simp [intOf]; omega
          · obtain rfl : k = K := by omega
            clear hp1 hp2
            go_wp2_with (go_at_call 6; refine (awake_any _).mono ?_; rintro e w5 ⟨rfl, hb5⟩)
            go_ret
            exact ⟨rfl, hb2.trans (hb5.mono hb2.size)⟩
      · clear hr hby
        go_enter Try.func3, Try.ntmps3
        go_wp2_with (go_at_call 6; refine (awake_any _).mono ?_; rintro e w5 ⟨rfl, hb5⟩)
        go_ret
        exact ⟨rfl, hb5⟩
    · clear hr hby
      go_enter Try.func3, Try.ntmps3
      go_wp2_with (go_at_call 6; refine (awake_any _).mono ?_; rintro e w5 ⟨rfl, hb5⟩)
      go_ret
      exact ⟨rfl, hb5⟩
  · clear hr hby
    go_enter Try.func3, Try.ntmps3
    go_wp2_with (go_at_call 6; refine (awake_any _).mono ?_; rintro e w5 ⟨rfl, hb5⟩)
    go_ret
    exact ⟨rfl, hb5⟩

end Go.Proofs.Ytododgpoonkmpaa
