/-
  LAYER 5: the walk of SectorWrites.
-/
import Derived.Test.YtododgpoonkmpaaSecLays
set_option linter.unusedVariables false
set_option linter.unusedSimpArgs false
namespace Go.Proofs.Ytododgpoonkmpaa
open Go.RowKit

/-- At the head of each round: the first k pieces have been written. -/
structure WrAt (w wr : World) (A1 Ao : Option Addr) (S f : Nat) (xs : List Int) (K k : Nat) (L : List Int) (a M co : Nat) : Prop where
  pcs : Pcs wr A1 S f xs K
  out : Reads wr wr.heap.size 1 Ao M (cellsOf .u8 (wrL L a (xs.take (64 * k - f))))
  le : M ≤ co
  cap : co ≤ maxLen
  below : Below w.heap.size w wr

theorem WrAt.drewN {w wr : World} {A1 Ao : Option Addr} {S f K k a M co : Nat} {xs L : List Int} (h : WrAt w wr A1 Ao S f xs K k L a M co) (q : Nat) : WrAt w (wr.drewN q) A1 Ao S f xs K k L a M co := ⟨h.pcs, h.out, h.le, h.cap, below_drewn h.below q⟩

theorem cells3 {w w' : World} {g o : Nat} {u0 u1 u2 : Value} (h : w.cell? ⟨g, o, none⟩ = some u0 ∧ w.cell? ⟨g, o + 1, none⟩ = some u1 ∧ w.cell? ⟨g, o + 2, none⟩ = some u2) (hg : g < w.heap.size) (hb : Below w.heap.size w w') :
    w'.cell? ⟨g, o, none⟩ = some u0 ∧ w'.cell? ⟨g, o + 1, none⟩ = some u1 ∧ w'.cell? ⟨g, o + 2, none⟩ = some u2 :=
  ⟨(hb.cell (p := ⟨g, o, none⟩) hg).trans h.1, (hb.cell (p := ⟨g, o + 1, none⟩) hg).trans h.2.1, (hb.cell (p := ⟨g, o + 2, none⟩) hg).trans h.2.2⟩

set_option maxHeartbeats 1600000 in
theorem writes_law (A : Option Addr) (len cap : Nat) (zs : List Int) (at_ : Int) (A2 : Option Addr) (m c : Nat) (xs : List Int) (w : World) (hin : InInts w .u8 A len cap zs) (h1 : (Lit.int .i64 at_).wf = true) (hin2 : InInts w .u8 A2 m c xs) :
    Calls Try.prog 5 #[.slice A len cap, .int .i64 at_, .slice A2 m c] w fun e w' => e = .returned (.bool true) ∧ Below w.heap.size w w' := by
  have hb1 := bounds_i64 h1
  have hl := hin.le
  have hc := hin.cap
  have hl2 := hin2.le
  have hc2 := hin2.cap
  have hr := hin.reads
  have hr2 := hin2.reads
  have hby := in_bytes hin
  have hby2 := in_bytes hin2
  have hlen := hr.len
  have hlen2 := hr2.len
  clear hin hin2 h1
  by_cases g1 : len ≤ 600
  · by_cases g2 : m ≤ 600
    · by_cases g3 : 0 ≤ at_
      · by_cases g4 : at_ ≤ 600
        · obtain ⟨a, rfl⟩ : ∃ a : Nat, at_ = a := ⟨at_.toNat, by omega⟩
          have ga : a ≤ 600 := by omega
          obtain ⟨M, hM⟩ : ∃ M, M = max len (a + m) := ⟨_, rfl⟩
          obtain ⟨L, hL⟩ : ∃ L, L = sizeL zs M := ⟨_, rfl⟩
          have hLl : L.length = M := by rw [hL, sizeL_length]
          have hLb : AreB L := by rw [hL]; exact sizeL_bytes hby M
          obtain ⟨K, hK⟩ : ∃ K, K = pcI a m := ⟨_, rfl⟩
          obtain ⟨S, hS⟩ : ∃ S, S = a / 64 := ⟨_, rfl⟩
          obtain ⟨f, hf⟩ : ∃ f, f = a % 64 := ⟨_, rfl⟩
          have hK1 : K = pcN f m := by rw [hK, hf]; unfold pcI; rw [if_neg (by omega)]; rfl
          have hK2 : K ≤ 40 := by have := pcI_le a m; omega
          have hMs : M ≤ 1200 := by omega
          have n7 : (if (len : Int) < (a : Int) + (m : Int) then (a : Int) + (m : Int) else (len : Int)) = (M : Int) := by split <;> omega
          have SZ := Lib.hid (by have := size_any A len cap M zs w.heap.size w hr (Nat.le_refl _) (by omega) hl; rw [← hL] at this; exact this)
          have PC := Lib.hid (fun (w1 : World) (hb : Below w.heap.size w w1) => by
            have := pieces_any a A2 m c xs w.heap.size w1 (hr2.below hb) hb.size hl2 hc2 (by omega) (by omega)
            rw [← hK, Int.toNat_natCast, ← hS, ← hf] at this
            exact this)
          have WT := Lib.hid (fun (w1 : World) (hb : Below w.heap.size w w1) => rwritten_any A len cap a zs A2 m c xs w.heap.size w1 (hr.below hb) (hr2.below hb) hb.size hl hc (by omega) hl2 hc2 (by omega) (by omega))
          have RS := Lib.hid (fun (w1 : World) (hb : Below w.heap.size w w1) => rsize_any A len cap (max len a : Nat) zs w.heap.size w1 (hr.below hb) hb.size (by omega) hl hc)
          have HFS := Lib.hid (show ∀ k, k < K → setL (wrL L a (xs.take (64 * k - f))) ((S : Int) + (k : Int)) (layL (secL (wrL L a (xs.take (64 * k - f))) ((S : Int) + (k : Int))) ((f - 64 * k : Nat) : Int) (pcD f xs k)) = wrL L a (xs.take (64 * (k + 1) - f)) from fun k hk => by
            have := wrL_step (zs := L) (xs := xs) (a := a) (i := k) (by rw [hLl, hlen2]; omega) (by rw [hlen2, ← hf, ← hK1]; exact hk)
            rw [← hS, ← hf, Int.natCast_add] at this
            exact this)
          have HEND := Lib.hid (show xs.take (64 * K - f) = xs from List.take_of_length_le (by have := fun hh => (pcN_lt (f := f) (len := m) (i := K) (by omega)).2 hh; rw [← hK1] at this; omega))
          have HWT := Lib.hid (show (m ≠ 0 → wrtL zs a xs = wrL L a xs) ∧ (m = 0 → sizeL zs (max len a) = wrL L a xs) by
            constructor
            · intro h
              unfold wrtL
              rw [if_neg (by omega), hL, hM, hlen, hlen2]
            · intro h
              obtain rfl : xs = [] := List.eq_nil_of_length_eq_zero (by omega)
              rw [wrL_none, hL, hM, h, Nat.add_zero])
          have BYP := Lib.hid (show ∀ k, AreB (wrL L a (xs.take k)) from fun k => wrL_bytes hLb (hby2.take k) a)
          have BYW : AreB (wrL L a xs) := wrL_bytes hLb hby2 a
          have HLN := Lib.hid (show ∀ k, (wrL L a (xs.take k)).length = M from fun k => by rw [wrL_length (by rw [List.length_take, hLl]; omega)]; exact hLl)
          have hwl0 : wrL L a (xs.take (64 * 0 - f)) = L := by rw [show 64 * 0 - f = 0 by omega, List.take_zero]; exact wrL_none L a
          have hSs : S ≤ 10 := by omega
          clear hK hS hf hK1 hM hL hr hr2 hby hby2
          go_enter Try.func5, Try.ntmps5
          go_wp2_with (first
            | (go_at_call 12; refine SZ.out.mono ?_; rintro e w1 ⟨g, hg, rfl, hbk, hb1⟩; rw [hLl])
            | (go_at_call 7; refine (PC.out _ hb1).mono ?_; rintro e w2 hg; obtain ⟨A1, c1, rfl, hc11, hc12, hp1, hbx⟩ := hg.pcs; have H0 : WrAt w w2 A1 (some ⟨g, 0, none⟩) S f xs K 0 L a M M := ⟨hp1, by rw [hwl0]; exact ((hbk.reads (by rw [cellsOf_length, hLl])).below hbx).more hbx.size, Nat.le_refl _, by unfold maxLen; omega, hb1.trans (hbx.mono hb1.size)⟩; clear hg hp1 hbk hbx))
          go_loopw [7, 9] (fun v i wr => ∃ (k co : Nat) (Ao : Option Addr), k ≤ K ∧ i = .int .i64 k ∧ v = .slice Ao M co ∧ Hid (WrAt w wr A1 Ao S f xs K k L a M co)) (fun _ i _ => K - (intOf i).toNat)
          case atStart => exact ⟨0, M, _, Nat.zero_le _, rfl, rfl, Lib.hid H0⟩
          case round =>
            clear H0
            obtain ⟨k, co, Ao, hk, rfl, rfl, H⟩ := hrel
            have hwl := HLN.out (64 * k - f)
            have hbyc := BYP.out (64 * k - f)
            have hle := H.out.le
            have hco := H.out.cap
            have hco2 : co ≤ 9223372036854775807 := by unfold maxLen at hco; omega
            have hwsz := H.out.below.size
            by_cases hlt : k < K
            · have HF := Lib.hid (HFS.out k hlt)
              obtain ⟨cur, hcur⟩ : ∃ cur, cur = wrL L a (xs.take (64 * k - f)) := ⟨_, rfl⟩
              have HO := H.out.out
              rw [← hcur] at HF HO hwl hbyc
              obtain ⟨gp, Ap, np, cp, rfl, xp0, xp1, xp2, xp3, xp4, xp5, xp6⟩ := H.out.pcs k hlt
              obtain ⟨fr, hfr⟩ : ∃ fr, fr = f - 64 * k := ⟨_, rfl⟩
              obtain ⟨pc, hpc⟩ : ∃ pc, pc = pcD f xs k := ⟨_, rfl⟩
              obtain ⟨nw, hnw⟩ : ∃ nw, nw = wrL L a (xs.take (64 * (k + 1) - f)) := ⟨_, rfl⟩
              rw [← hfr] at xp2
              rw [← hpc] at xp4
              rw [← hpc, ← hfr, ← hnw] at HF
              have hlti : (k : Int) < (K : Int) := by omega
              have hk0 : (0 : Int) ≤ (k : Int) := by omega
              have CE := Lib.hid (And.intro xp1 (And.intro xp2 xp3))
              have XP := Lib.hid xp4
              have HOH := Lib.hid HO
              have hnl : Hid (nw.length ≤ maxLen) := Lib.hid (by rw [hnw, HLN.out]; unfold maxLen; omega)
              have hnl2 : Hid (nw.length = M) := Lib.hid (by rw [hnw, HLN.out])
              have HNW := Lib.hid hnw
              have hb0 : Below wr.heap.size wr wr.drew := below_drewn (Below.refl _ _) 1
              clear hcur hfr hpc hnw HO xp4
              go_wp2
              go_region_held3 (fun w' => w'.cell? ⟨gp, k * 3, none⟩ = some (.int .i64 ((S : Int) + (k : Int))) ∧ w'.cell? ⟨gp, k * 3 + 1, none⟩ = some (.int .i64 (fr : Int)) ∧ w'.cell? ⟨gp, k * 3 + 2, none⟩ = some (.slice Ap np cp))
                (first | assumption | exact cells3 CE.out xp0 (by assumption))
                (first
                  | (go_at_call 14; refine (at_any Ao M co ((S : Int) + (k : Int)) cur wr.heap.size wr.drew HOH.out (Nat.le_refl _) hle hco2 (by omega)).mono ?_; rintro e wA hg; obtain ⟨Aa, na, ca, rfl, -, ra, hca, -, hbx⟩ := hg.reads (by rw [secL_length]; decide); have hbA := hb0.trans hbx; clear hg hbx)
                  | (go_at_call 18; refine (lay_any Aa na ca ((S : Int) + (k : Int)) fr (secL cur ((S : Int) + (k : Int))) Ap np cp pc wA.heap.size wA ra ((XP.out.below hbA).more hbA.size) (Nat.le_refl _) hca xp5).mono ?_; rintro e wB hg; obtain ⟨Ab, nb, cb, rfl, -, rb, hcb, hcb2, hbx⟩ := hg.reads (by rw [layL_length]; decide); have hbB := hbA.trans (hbx.mono hbA.size); clear hg hbx)
                  | (go_at_call 16; refine (set_any Ao M co ((S : Int) + (k : Int)) cur Ab nb cb (layL (secL cur ((S : Int) + (k : Int))) fr pc) wB.heap.size wB ((HOH.out.below hbB).more hbB.size) rb (Nat.le_refl _) hle (by omega) hcb (by unfold maxLen at hcb2; omega)).mono ?_; rintro e wC hg; rw [HF.out] at hg; obtain ⟨Ac, nc, cc, rfl, hnc, rc, hcc, hcc2, hbx⟩ := hg.reads hnl.out; have hbC := hbB.trans (hbx.mono hbB.size); rw [hnl2.out] at hnc; subst hnc; clear hg hbx))
              have HN := Lib.hid (show WrAt w wC (some ⟨gp, 0, none⟩) Ac S f xs K (k + 1) L a nc cc from ⟨H.out.pcs.below hbC, by rw [← HNW.out]; exact rc, hcc, hcc2, H.out.below.trans (hbC.mono hwsz)⟩)
              clear hbA hbB hbC rc rb ra H HOH CE XP hb0
              go_wp2
              go_roundw
              case rel => exact ⟨k + 1, cc, Ac, by omega, by go_num, rfl, HN⟩
              case measure => simp [intOf]; omega
            · obtain rfl : k = K := by omega
              have HO := H.out.out
              rw [HEND.out] at HO hwl
              have hbw := H.out.below
              have HOH := Lib.hid HO
              have m1 : True := trivial
              by_cases h0 : m = 0
              · subst h0
                have e0 := HWT.out.2 rfl
                have RS2 := Lib.hid (fun w1 hb => by have := RS.out w1 hb; rw [Int.toNat_natCast, e0] at this; exact this)
                have n8 : (if len < a then (a : Int) else (len : Int)) = ((max len a : Nat) : Int) := by split <;> omega
                obtain ⟨M2, hM2⟩ : ∃ M2, M2 = max len a := ⟨_, rfl⟩
                rw [← hM2] at n8 RS2
                clear HO H e0 hM2 RS n7
                go_wp2_with (first
                  | (go_at_call 20; refine (WT.out _ hbw).mono ?_; rintro e w3 hg; obtain ⟨Aw, nw, cw, rfl, -, rw_, -, -, hbx⟩ := hg.reads; have hb3 := hbw.trans (hbx.mono hwsz); have HO3 := Lib.hid ((HOH.out.below hbx).more hbx.size); clear hg hbx)
                  | (go_at_call 13; refine (RS2.out _ hb3).mono ?_; rintro e w4 hg; obtain ⟨Az, nz_, cz, rfl, -, rz, -, -, hbx⟩ := hg.reads; have hb4 := hb3.trans (hbx.mono hb3.size); have HO4 := Lib.hid ((HO3.out.below hbx).more hbx.size); clear hg hbx)
                  | (go_at_call 11; clear m1; refine (same_self Ao Az M nz_ co cz (wrL L a xs) w4 HO4.out rz BYW).mono ?_; rintro e w9 ⟨rfl, rfl⟩)
                  | (go_at_call 6; refine (awake_any _).mono ?_; rintro e w5 ⟨rfl, hb5⟩))
                go_ret
                exact ⟨rfl, hb4.trans (hb5.mono hb4.size)⟩
              · have e0 := HWT.out.1 h0
                have WT2 := Lib.hid (fun w1 hb => by have := WT.out w1 hb; rw [e0] at this; exact this)
                have h0' : ¬ (m : Int) = 0 := by omega
                clear HO H e0 WT n7
                go_wp2_with (first
                  | (go_at_call 20; refine (WT2.out _ hbw).mono ?_; rintro e w3 hg; obtain ⟨Aw, nw, cw, rfl, -, rw_, -, -, hbx⟩ := hg.reads; have hb3 := hbw.trans (hbx.mono hwsz); have HO3 := Lib.hid ((HOH.out.below hbx).more hbx.size); clear hg hbx)
                  | (go_at_call 11; clear m1; refine (same_self Ao Aw M nw co cw (wrL L a xs) w3 HO3.out rw_ BYW).mono ?_; rintro e w9 ⟨rfl, rfl⟩)
                  | (go_at_call 6; refine (awake_any _).mono ?_; rintro e w5 ⟨rfl, hb5⟩))
                go_ret
                exact ⟨rfl, hb3.trans (hb5.mono hb3.size)⟩
        · clear hr hr2 hby hby2
          go_enter Try.func5, Try.ntmps5
          go_wp2_with (go_at_call 6; refine (awake_any _).mono ?_; rintro e w5 ⟨rfl, hb5⟩)
          go_ret
          exact ⟨rfl, hb5⟩
      · clear hr hr2 hby hby2
        go_enter Try.func5, Try.ntmps5
        go_wp2_with (go_at_call 6; refine (awake_any _).mono ?_; rintro e w5 ⟨rfl, hb5⟩)
        go_ret
        exact ⟨rfl, hb5⟩
    · clear hr hr2 hby hby2
      go_enter Try.func5, Try.ntmps5
      go_wp2_with (go_at_call 6; refine (awake_any _).mono ?_; rintro e w5 ⟨rfl, hb5⟩)
      go_ret
      exact ⟨rfl, hb5⟩
  · clear hr hr2 hby hby2
    go_enter Try.func5, Try.ntmps5
    go_wp2_with (go_at_call 6; refine (awake_any _).mono ?_; rintro e w5 ⟨rfl, hb5⟩)
    go_ret
    exact ⟨rfl, hb5⟩

end Go.Proofs.Ytododgpoonkmpaa
