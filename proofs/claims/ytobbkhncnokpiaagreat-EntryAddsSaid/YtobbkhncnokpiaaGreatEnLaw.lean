/-
  LAYER 16: what the statements share: a file made anew, which lists are light.
-/
import Derived.Test.YtobbkhncnokpiaaGreatEnDoc
set_option linter.unusedVariables false
set_option maxRecDepth 100000
set_option linter.unusedSimpArgs false
namespace Go.Proofs.YtobbkhncnokpiaaGreat
open Go.RowKit Go.Shelf

theorem efresh_any {base : Nat} (lm : Nat) (w : World) (hbas : base ≤ w.heap.size) :
    Calls Tryz.prog 9 #[.int .i64 lm] w (IXnew base 0 3 4 2 0 (freshM lm) w) := by
  have NW := Lib.hid (fun G w1 (hb : base ≤ w1.heap.size) (ht : IsTable w1 G) => inew_yes (base := base) G 0 3 4 2 0 lm w1 (by decide) ht hb)
  go_enter Tryz.func9, Tryz.ntmps9
  go_wp2_with (first
    | (go_at_call 34; refine (crcMake_any _).mono ?_; rintro e w1 ⟨rfl, ht, hb1⟩; have HT := Lib.hid ht; clear ht)
    | (go_at_call 33; refine (NW.out _ _ (Nat.le_trans hbas hb1.size) HT.out).mono ?_; rintro e w2 ⟨p, bv, sv, rfl, hb2, H2⟩))
  go_ret
  exact ⟨p, bv, sv, rfl, hb1.trans (hb2.mono hb1.size), H2.mono (fun j hj => ⟨Nat.le_trans hb1.size hj.1, hj.2⟩) (fun j hj => ⟨Nat.le_trans hbas hj.1, hj.2⟩)⟩
theorem fresh_ed {base : Nat} (lm : Nat) (w : World) (hbas : base ≤ w.heap.size) (hlm : lm ≤ 1048576) :
    Calls Tryz.prog 9 #[.int .i64 lm] w fun e w' => ∃ p, e = .returned (.pointer (some ⟨p, 0, none⟩)) ∧ Below w.heap.size w w' ∧ ∃ bs, ED 3 4 2 w' base (fun j => w.heap.size ≤ j ∧ j < w'.heap.size) p lm bs [] [] [] 304 := by
  refine (efresh_any (base := base) lm w hbas).mono ?_
  rintro e w' ⟨p, bv, sv, rfl, hb, H⟩
  have hlen := freshM_len lm
  exact ⟨p, rfl, hb, (freshM lm).b, ⟨⟨freshM lm, bv, sv, [], H, EV.nothing (by decide) (by decide) (freshM_db lm), freshM_good lm, rfl, rfl, rfl, rfl⟩, ⟨hlm, by omega, by omega⟩, ⟨by omega, by omega⟩⟩⟩

/-- What light tells: true only of short lists of short records. -/
def LightT (n : Nat) (l : List RC) (w : World) (e : Ending) (w' : World) : Prop := ∃ q, e = .returned (.bool q) ∧ w = w' ∧ (q = true → n ≤ 40 ∧ ∀ r ∈ l, r.n ≤ 70)

set_option maxHeartbeats 2000000 in
theorem light_any {A : Option Addr} {n c : Nat} {l : List RC} (w : World) (h : InRC w A n c l) :
    Calls Tryz.prog 8 #[.slice A n c] w (LightT n l w) := by
  have hle := h.le
  have hcap := h.cap
  have HH := Lib.hid h
  clear h
  go_enter Tryz.func8, Tryz.ntmps8
  go_wp2
  go_loopw [3, 4] (fun v i wr => ∃ k N : Nat, k ≤ n ∧ k ≤ 40 ∧ i = .int .i64 k ∧ v = .int .i64 N ∧ N ≤ 350000 * k ∧ Hid (∀ j (r : RC), j < k → l[j]? = some r → r.n ≤ 70) ∧ w = wr) (fun _ i _ => 200 - (intOf i).toNat)
  case atStart => exact ⟨0, 0, Nat.zero_le _, Nat.zero_le _, rfl, rfl, Nat.zero_le _, Lib.hid (fun j r hj => absurd hj (by omega)), rfl⟩
  case round =>
    obtain ⟨k, N, hk, hk40, rfl, rfl, hN, HR, rfl⟩ := hrel
    by_cases hmore : k < n ∧ k < 40
    · obtain ⟨hlt, h40⟩ := hmore
      obtain ⟨b, off, r, rfl, hb, hr, hok, x0, x1, x2, x3, x4⟩ := HH.out.at_ (Below.refl _ _) hlt
      have ht := hok.txt
      have hlti : (k : Int) < (n : Int) := by omega
      have h40i : (k : Int) < 40 := by omega
      have htl := ht.len
      have htc := ht.cap
      have hte := ht.le
      have HT := Lib.hid ht
      have HRR := Lib.hid hr
      obtain ⟨rA, hrA⟩ : ∃ x, r.A = x := ⟨_, rfl⟩
      obtain ⟨rn, hrn⟩ : ∃ x, r.n = x := ⟨_, rfl⟩
      obtain ⟨rc, hrc⟩ : ∃ x, r.c = x := ⟨_, rfl⟩
      rw [hrA, hrn, hrc] at HT x4
      rw [hrn] at hte htl
      rw [hrc] at htc hte
      have HRN := Lib.hid hrn
      clear hok ht x0 x1 x2 x3 hr hrA hrn hrc htl
      by_cases h70 : 70 < rn
      · have h70i : (70 : Int) < (rn : Int) := by omega
        clear h70
        go_wp2
        go_ret
        exact ⟨false, rfl, rfl, fun h => by cases h⟩
      · have h70i : ¬ (70 : Int) < (rn : Int) := by omega
        go_wp2
        go_loopw [3, 5] (fun v i wr => ∃ q M : Nat, q ≤ rn ∧ i = .int .i64 q ∧ v = .int .i64 M ∧ M ≤ 350000 * k + 5000 * q ∧ w = wr) (fun _ i _ => 200 - (intOf i).toNat)
        case atStart => exact ⟨0, N, Nat.zero_le _, rfl, rfl, by omega, rfl⟩
        case round =>
          obtain ⟨q, M, hq, rfl, rfl, hM, rfl⟩ := hrel
          by_cases hqlt : q < rn
          · obtain ⟨b2, off2, rfl, hb2, hc2⟩ := HT.out.at_ (by omega)
            have y := hc2 q hqlt
            have hz : (nthT r.its q).size ≤ maxLen := HT.out.size hqlt
            unfold maxLen at hz
            obtain ⟨s, hs⟩ : ∃ s, nthT r.its q = s := ⟨_, rfl⟩
            rw [hs] at y hz
            clear hc2 hs
            go_wp2
            go_roundw
            case rel => exact ⟨q + 1, M + min s.size 5000, by omega, by go_num, by congr 1; omega, by omega, by first | rfl | trivial⟩
            case measure => simp [intOf]; omega
          · have HR2 : Hid (∀ j (r : RC), j < k + 1 → l[j]? = some r → r.n ≤ 70) := Lib.hid (fun j r' hj hr' => by
              rcases Nat.lt_or_ge j k with e | e
              · exact HR.out j r' e hr'
              · obtain rfl : j = k := by omega
                have := HRR.out
                rw [this] at hr'
                injection hr' with hr'
                subst hr'
                rw [HRN.out]; omega)
            go_wp2
            go_roundw
            case rel => exact ⟨k + 1, M, by omega, by omega, by go_num, rfl, by omega, HR2, by first | rfl | trivial⟩
            case measure => simp [intOf]; omega
    · have hend : ¬ (k : Int) < (n : Int) ∨ ((k : Int) < (n : Int) ∧ ¬ (k : Int) < 40) := by omega
      by_cases hn40 : n ≤ 40
      · have h40i : (n : Int) ≤ 40 := by omega
        have hkn : k = n := by omega
        have HAL : Hid (∀ r ∈ l, r.n ≤ 70) := Lib.hid (fun r hr => by
          obtain ⟨j, hj⟩ := List.getElem?_of_mem hr
          exact HR.out j r (by have := (List.getElem?_eq_some_iff.1 hj).1; rw [HH.out.length] at this; omega) hj)
        obtain ⟨t, ht⟩ : ∃ t, decide ((N : Int) ≤ 12000) = t := ⟨_, rfl⟩
        clear hmore
        rcases hend with hend | ⟨hend1, hend⟩
        all_goals
          go_wp2
          go_ret
          exact ⟨_, rfl, rfl, fun _ => ⟨hn40, HAL.out⟩⟩
      · have h40i : ¬ (n : Int) ≤ 40 := by omega
        clear hmore
        rcases hend with hend | ⟨hend1, hend⟩
        all_goals
          go_wp2
          go_ret
          exact ⟨false, rfl, rfl, fun h => by cases h⟩

def tB1 : ByteArray := ⟨#[66, 61, 49]⟩
def tA1 : ByteArray := ⟨#[65, 61, 49]⟩
theorem aw_chk : chkE [tB1, tA1] = 0 ∧ chkL [tB1, tA1] = [tA1, tB1] := by
  have o1 : spOk tB1 = true := by kernel_rfl
  have o2 : spOk tA1 = true := by kernel_rfl
  have k1 : okB tB1 = true := by unfold okB; rw [o1]; rfl
  have k2 : okB tA1 = true := by unfold okB; rw [o2]; rfl
  have hE : chkE [tB1, tA1] = 0 := chk_good (by decide) (by decide) (fun j hj => by
    have : j = 0 ∨ j = 1 := by simp at hj; omega
    rcases this with rfl | rfl
    · exact k1
    · exact k2) (by decide)
  refine ⟨hE, ?_⟩
  unfold chkL
  rw [if_pos hE, once_put cfT_tot]
  kernel_rfl

theorem OneR.txt {O : List GO} {Z : List (List ByteArray)} {W : World} {F : Nat → Prop} {i : Nat} {r : RC} (h : OneR O Z W F i r) : Txt W W.heap.size r.A r.n r.c r.its := by
  obtain ⟨o, zs, h1, h2, h3, h4, -⟩ := h.ex
  rw [h3]; exact h4
/-- What All tells, as rows of records. -/
theorem recs_of {O : List GO} {Z : List (List ByteArray)} {W : World} {base : Nat} {v : Value} {l : List RC} (ho : W.ownsRow base 36 5 v l.length (cellsR5 l)) (he : ∀ i r, l[i]? = some r → OneR O Z W (fun q => v.ownBlock = some q) i r) : ∃ A c, v = .slice A l.length c ∧ RecsR W W.heap.size A l.length c l :=
  RecsR.of_own ho (fun r hr => by
    obtain ⟨i, hi⟩ := List.getElem?_of_mem hr
    exact (he i r hi).txt)
theorem aw_all {o : GO} {W : World} {base : Nat} {v : Value} {l : List RC} (ho : W.ownsRow base 36 5 v l.length (cellsR5 l)) (hl : l.length = 1) (h0 : o.ws.getD 0 0 = 1) (he : ∀ i r, l[i]? = some r → OneR [o] [[tA1, tB1]] W (fun q => v.ownBlock = some q) i r) :
    ∃ b off c A4, v = .slice (some ⟨b, off, none⟩) 1 c ∧ 1 ≤ c ∧ c ≤ 9223372036854775807 ∧ b < W.heap.size ∧ W.cell? ⟨b, off, none⟩ = some (.int .u64 1) ∧ W.cell? ⟨b, off + 4, none⟩ = some (.slice A4 2 2) ∧ Txt W W.heap.size A4 2 2 [tA1, tB1] := by
  obtain ⟨A, c, rfl, hR⟩ := recs_of ho he
  rw [hl] at hR
  obtain ⟨b, off, r, rfl, hb, hr, ht, x0, -, -, -, x4⟩ := hR.at_ (i := 0) (by omega)
  obtain ⟨o', zs, h1, h2, h3, h4, -⟩ := (he 0 r hr).ex
  have e1 : o = o' := by simpa using h1
  have e2 : [tA1, tB1] = zs := by simpa using h2
  subst e1; subst e2
  rw [h3] at x0 x4
  rw [Nat.zero_mul, Nat.add_zero] at x0 x4
  refine ⟨b, off, c, r.A, by rw [hl], hR.le, hR.cap, hb, ?_, x4, h4⟩
  rw [x0]
  show some (Value.int .u64 (o.ws.getD 0 0)) = _
  rw [h0]

set_option maxHeartbeats 2000000 in
theorem eawake_any (w : World) : Calls Tryz.prog 7 #[] w fun e w' => e = .returned (.bool true) ∧ Below w.heap.size w w' := by
  have FR := Lib.hid (fresh_ed (base := w.heap.size) 5000 w (Nat.le_refl _) (by omega))
  have HC := Lib.hid aw_chk
  have AD := Lib.hid (fun (w1 : World) (S : Nat → Prop) (p : Nat) (bs : List Int) (hD : ED 3 4 2 w1 w.heap.size S p 5000 bs [] [] [] 304) =>
    (show Calls Tryz.prog 11 #[.pointer (some ⟨p, 0, none⟩), .agg #[.int .u64 1, .int .u64 0, .int .u64 0, .int .u64 0, .slice (some ⟨w1.heap.size, 0, none⟩) 2 2]] (w1.alloc (.cells #[.string tB1, .string tA1] 9)) fun e w2 => ∃ (a : Nat) (S2 : Nat → Prop) (R' : List DR) (o : GO) (Lr : List Int), e = .returned (.tuple #[.int .i64 a, .int .i64 0]) ∧ Below w.heap.size w1 w2 ∧ EX 3 4 2 w2 w.heap.size S2 p 5000 bs R' [o] Lr 300000 300 ∧ EL R' [o] Lr [[tA1, tB1].map nums] ∧ o.ws.getD 0 0 = 1 from by
      have hD2 := hD.below (boxed w1 (.cells #[.string tB1, .string tA1] 9))
      refine (eadd_any (B := w1.heap.size + 1) ⟨1, 0, 0, 0, some ⟨w1.heap.size, 0, none⟩, 2, 2, [tB1, tA1]⟩ ⟨show (0 : Int) ≤ 1 ∧ (1 : Int) < 18446744073709551616 by decide, show (0 : Int) ≤ 0 ∧ (0 : Int) < 18446744073709551616 by decide, show (0 : Int) ≤ 0 ∧ (0 : Int) < 18446744073709551616 by decide, show (0 : Int) ≤ 0 ∧ (0 : Int) < 18446744073709551616 by decide, txt_two w1 9 tB1 tA1 (by decide) (by decide)⟩ (by simp) (by show 2 ≤ 1000; omega) hD2 EL.nothing (by decide) (by omega)).mono ?_
      have hbud : budE [] [] ((chkL [tB1, tA1]).map nums) ≤ 3000 := by rw [HC.out.2]; decide
      rintro e w2 (⟨h1, -⟩ | ⟨-, a, R', ps, rfl, ha1, ha2, hc2, hx2, hE2, -⟩ | ⟨-, hlm, -⟩)
      · exact absurd HC.out.1 h1
      · have hb2 := (boxed w1 (.cells #[.string tB1, .string tA1] 9))
        refine ⟨a, _, R', _, _, rfl, ?_, hx2.more (by have := hbud; show 304 + budE [] [] ((chkL [tB1, tA1]).map nums) ≤ 300000; omega) (Nat.le_refl _) (by omega), ?_, rfl⟩
        · exact (hb2.mono hD.bas).trans (hc2.below (by have := hD.bas; have := hb2.size; omega) (fun q _ hq => (hD2.foot q hq).1))
        · have e2 : chkL [tB1, tA1] = [tA1, tB1] := HC.out.2
          rw [show (⟨1, 0, 0, 0, some ⟨w1.heap.size, 0, none⟩, 2, 2, [tB1, tA1]⟩ : RC).its = [tB1, tA1] from rfl, e2] at hE2
          exact hE2
      · exfalso
        have : 5000 < 304 + budE [] [] ((chkL [tB1, tA1]).map nums) := hlm
        omega))
  have TX := Lib.hid (fun (A : Option Addr) (c B : Nat) (wx : World) (hx : Txt wx B A 2 c [tA1, tB1]) (hB : B ≤ wx.heap.size) => texts_same A (some ⟨wx.heap.size, 0, none⟩) 2 c 2 [tA1, tB1] B (wx.heap.size + 1) (wx.alloc (.cells #[.string tA1, .string tB1] 9)) (hx.below ((boxed wx _).mono hB)) (txt_two wx 9 tA1 tB1 (by decide) (by decide)))
  clear HC
  go_enter Tryz.func7, Tryz.ntmps7
  go_wp2_with (first
    | (go_at_call 9; refine FR.out.mono ?_; rintro e w1 ⟨p, rfl, hb1, bs, hD⟩; have HD := Lib.hid hD; have HB1 := Lib.hid hb1; clear hD hb1)
    | (go_at_call 11; refine (AD.out _ _ p bs HD.out).mono ?_; rintro e w2 ⟨a, S2, R', o, Lr, rfl, hb2, hx2, hE2, ho0⟩; have HX2 := Lib.hid (And.intro hx2 (And.intro hE2 ho0)); have HB2 := Lib.hid (HB1.out.trans (hb2.mono (Nat.le_refl _))); clear hx2 hE2 ho0 hb2)
    | (go_at_call 32; (refine (TX.out A4 2 _ w3 HT4.out.1 (Nat.le_refl _)).mono ?_; rintro e w4 ⟨rfl, nn, rfl⟩))
    | (go_at_call 22; (refine (eall_any (Z := [[tA1, tB1]]) HX2.out.1 HX2.out.2.1 rfl (fun zs hz s hs => by simp at hz; subst hz; simp at hs; rcases hs with rfl | rfl <;> decide) (by simp)).mono ?_; rintro e w3 ⟨v, l, rfl, hown, hlen, hone, hb3⟩; obtain ⟨b, off, c, A4, rfl, hc1, hc2, hbl, y0, y4, ht4⟩ := aw_all hown hlen HX2.out.2.2 hone; have HT4 := Lib.hid (And.intro ht4 (And.intro hbl (HB2.out.trans (hb3.mono HB2.out.size)))); have y4' : (w3.alloc (.cells #[.string tA1, .string tB1] 9)).cell? ⟨b, off + 4, none⟩ = some (.slice A4 2 2) := ((boxed w3 _).cell (p := ⟨b, off + 4, none⟩) hbl).trans y4; clear hown hlen hone ht4 hb3)))
  go_ret
  exact ⟨rfl, below_drewn (HT4.out.2.2.alloc HT4.out.2.2.size _) nn⟩

end Go.Proofs.YtobbkhncnokpiaaGreat
