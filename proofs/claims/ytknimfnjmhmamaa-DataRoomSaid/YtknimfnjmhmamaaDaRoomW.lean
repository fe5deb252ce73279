/-
  LAYER 15: the walk of DataRoom.
-/
import Derived.Test.YtknimfnjmhmamaaDaAwake
import Derived.Test.YtknimfnjmhmamaaDaBack
set_option linter.unusedVariables false
set_option maxRecDepth 100000
set_option linter.unusedSimpArgs false
namespace Go.Proofs.Ytknimfnjmhmamaa
open Go.RowKit Go.Shelf

/-- At the head of each round: nothing is changed since Done. -/
structure RmAt (w wr : World) (S : Nat → Prop) (p lim : Nat) (m : IM) (bv sv : Value) (l : List GO) (R : List DR) (j : Nat) : Prop where
  ix : IX wr w.heap.size S p 0 3 4 2 0 m bv sv
  db : DB fldI 3 4 2 0 0 m.b l
  rows : Rows l R
  good : m.Good
  words : m.words = []
  was : m.was = m.b
  lim_ : m.lim = lim
  below : Below w.heap.size w wr
  len : m.b.length ≤ 304 + 1200 * j
theorem RmAt.done {w wr w3 w4 : World} {S T : Nat → Prop} {p lim : Nat} {m m' : IM} {bv sv : Value} {l l' : List GO} {R R' : List DR} {j : Nat} (H : RmAt w wr S p lim m bv sv l R j) (hT : ∀ j, T j → w.heap.size ≤ j) (hb3 : Below w.heap.size w w3) (hX : IXT w.heap.size T p 0 3 4 2 0 m'.done w3 w4) (hd : DB fldI 3 4 2 0 0 m'.b l') (hr : Rows l' R') (hg : m'.Good) (hl : m'.lim = m.lim) (hlen : m'.b.length ≤ m.b.length + 1200) :
    ∃ bv' sv', RmAt w w4 (grow T w3 w4) p lim m'.done bv' sv' l' R' (j + 1) := by
  obtain ⟨c, bv', sv', h4⟩ := hX
  exact ⟨bv', sv', h4, hd, hr, hg.done, rfl, rfl, hl.trans H.lim_, hb3.trans (c.below hb3.size (fun j _ hj => hT j hj)), by have := H.len; show m'.b.length ≤ _; omega⟩
theorem back_same {m m' : IM} (hw : m.words = []) (hs : m.was = m.b) (h1 : m'.was = m.was) (h2 : m'.lim = m.lim) : m'.back = m := by
  obtain ⟨b, was, words, lim⟩ := m
  obtain ⟨b', was', words', lim'⟩ := m'
  simp only at hw hs h1 h2
  subst hw hs h1 h2
  rfl

set_option maxHeartbeats 4000000 in
theorem room_law (A : Option Addr) (n c : Nat) (zs : List ByteArray) (lm : Int) (w : World) (hT : Txt w w.heap.size A n c zs) (h1 : (Lit.int .u16 lm).wf = true) :
    Calls Try.prog 4 #[.slice A n c, .int .u16 lm] w fun e w' => e = .returned (.bool true) ∧ Below w.heap.size w w' := by
  have hlm : 0 ≤ lm ∧ lm < 65536 := by have := bounds_u16 h1; omega
  have hr1 : Int.tmod lm 2000 = lm % 2000 := Int.tmod_eq_emod_of_nonneg hlm.1
  obtain ⟨x, hx⟩ : ∃ x : Nat, lm % 2000 = x := ⟨(lm % 2000).toNat, by omega⟩
  rw [hx] at hr1
  have hx2 : x < 2000 := by omega
  have e1 : IntKind.u16.wrap (x : Int) = x := by rw [IntKind.wrap_u16]; omega
  have e2 : IntKind.i64.wrap (x : Int) = x := by rw [IntKind.wrap_i64]; omega
  obtain ⟨lim, hlim⟩ : ∃ lim, 304 + x = lim := ⟨_, rfl⟩
  have e3 : (304 : Int) + (x : Int) = (lim : Int) := by omega
  have e4 : IntKind.i64.wrap (lim : Int) = lim := by rw [IntKind.wrap_i64]; omega
  have hl2 : lim ≤ 1048576 := by omega
  have AW := Lib.hid lawake_any
  have NI := Lib.hid (fun wx => intern_nil sA1 wx)
  have FR := Lib.hid (fun wx (hb : w.heap.size ≤ wx.heap.size) => dfresh_any (base := w.heap.size) lim wx hb)
  have hcap := hT.cap
  have hle := hT.le
  have HTX := Lib.hid hT
  clear hlim hx hlm h1 hT
  go_enter Try.func4, Try.ntmps4
  go_wp2_with (first
    | (go_at_call 5; refine (AW.out _).mono ?_; rintro e w1 ⟨rfl, hb1⟩)
    | (go_at_call 6; refine (FR.out _ hb1.size).mono ?_; rintro e w2 ⟨p, bv, sv, rfl, hb2, H2⟩))
  have HR0 : Hid (RmAt w w2 _ p lim (freshM lim) bv sv [] [] 0) := Lib.hid ⟨H2.mono (fun j hj => hj) (fun j hj => ⟨Nat.le_trans hb1.size hj.1, hj.2⟩), freshM_db lim, Rows.nothing, freshM_good lim, rfl, rfl, rfl, hb1.trans (hb2.mono hb1.size), by rw [freshM_len]; omega⟩
  clear H2 hb1 hb2
  go_loopw [6] (fun i wr => ∃ (j : Nat) (S : Nat → Prop) (m : IM) (bv sv : Value) (l : List GO) (R : List DR), i = .int .i64 j ∧ j ≤ n ∧ Hid (RmAt w wr S p lim m bv sv l R j)) (fun i _ => n - (intOf i).toNat)
  case atStart => exact ⟨0, _, _, _, _, _, _, rfl, Nat.zero_le _, HR0⟩
  case round =>
    clear HR0
    obtain ⟨j, S, m, bv, sv, l, R, rfl, hj, HA⟩ := hrel
    have HBL := Lib.hid HA.out.below
    by_cases hlt : j < n
    · by_cases h40 : j < 40
      · obtain ⟨b, off, rfl, hb, hcell⟩ := HTX.out.at_ (by omega)
        have c0 := hcell j hlt
        have hsz := HTX.out.size hlt
        obtain ⟨s, hs⟩ : ∃ s, nthT zs j = s := ⟨_, rfl⟩
        rw [hs] at c0 hsz
        have CS := Lib.hid (fun wx (hx : Below w.heap.size w wx) => ((hx.cell (p := ⟨b, off + j, none⟩) hb).trans c0 : wx.cell? ⟨b, off + j, none⟩ = some (.string s)))
        have cr := CS.out wr HBL.out
        have SP := Lib.hid (rsplit_any s wr hsz)
        have hlti : (j : Int) < (n : Int) := by omega
        have h40i : (j : Int) < 40 := by omega
        clear hcell c0 hs
        cases ho : spOk s with
        | false =>
          rw [ho] at SP
          clear ho hsz
          go_wp2_with (first
            | (go_at_call 8; refine SP.out.mono ?_; rintro e w1 ⟨rfl, n1, rfl⟩)
            | (go_at_call 5; refine (AW.out _).mono ?_; rintro e w3 ⟨rfl, hb3⟩))
          go_ret
          have h9 := below_drewn HBL.out n1
          exact ⟨rfl, h9.trans (hb3.mono h9.size)⟩
        | true =>
          rw [ho] at SP
          by_cases h300 : 300 < s.size
          · have h300i : (300 : Int) < (s.size : Int) := by omega
            have cr1 : ∀ q, (wr.drewN q).cell? ⟨b, off + j, none⟩ = some (.string s) := fun q => cr
            clear ho hsz h300
            go_wp2_with (first
              | (go_at_call 8; refine SP.out.mono ?_; rintro e w1 ⟨rfl, n1, rfl⟩)
              | (go_at_call 5; refine (AW.out _).mono ?_; rintro e w3 ⟨rfl, hb3⟩))
            go_ret
            have h9 := below_drewn HBL.out n1
            exact ⟨rfl, h9.trans (hb3.mono h9.size)⟩
          · have h300i : ¬ (300 : Int) < (s.size : Int) := by omega
            have cr1 : ∀ q, (wr.drewN q).cell? ⟨b, off + j, none⟩ = some (.string s) := fun q => cr
            have hmost := HA.out.db.gb.most
            have BY := Lib.hid (fun q => ibytes_any (wr.drewN q) (HA.out.ix.drewN q) (by omega))
            have IT := Lib.hid (fun q w2 (hb2 : Below (wr.drewN q).heap.size (wr.drewN q) w2) => intern_any s w2 HA.out.db HA.out.rows ((HA.out.ix.drewN q).below hb2) HA.out.good.bb ⟨by omega, by omega⟩ (by rw [HA.out.lim_]; exact hl2) (by rw [HA.out.words]; simp) (by rw [HA.out.was]; exact hmost) ho (by omega))
            have HFT := Lib.hid (And.intro HA.out.ix.foot HA.out.ix.bas)
            clear hsz ho h300
            go_wp2_with (first
              | (go_at_call 8; refine SP.out.mono ?_; rintro e w1 ⟨rfl, n1, rfl⟩)
              | (go_at_call 17; refine (BY.out _).mono ?_; rintro e w2 ⟨A7, N7, c7, rfl, rfl, hown7, hb2, hle7, hcap7⟩; have hB2 := (below_drewn HBL.out n1).trans (hb2.mono (below_drewn HBL.out n1).size); have cr2 := CS.out w2 hB2))
            have hs2 := hB2.size
            have hs2r := hb2.size
            refine (IT.out n1 w2 hb2).mono ?_
            rintro e w3 (⟨a, -, rfl, hb3⟩ | ⟨hno, rfl, -, m', hX, hw', hl', hB', hlen', hwd', hg'⟩ | ⟨-, rfl, m', l', hX, hC⟩)
            · have hB3 := hB2.trans (hb3.mono hs2)
              have DN := Lib.hid (idone_any w3 (((HA.out.ix.drewN n1).below hb2).below hb3))
              have HB3 := Lib.hid hB3
              clear hb2 hB2 hb3 hB3 hown7
              go_wp2_with (go_at_call 18; refine DN.out.mono ?_; rintro e w4 ⟨rfl, hX4⟩)
              go_roundw
              case rel =>
                obtain ⟨bv', sv', h⟩ := HA.out.done (fun j hj => (HFT.out.1 j hj).1) HB3.out hX4 HA.out.db HA.out.rows HA.out.good rfl (by omega)
                exact ⟨j + 1, _, _, bv', sv', l, R, by go_num, by omega, Lib.hid h⟩
              case measure => simp [intOf]; omega
            · obtain ⟨c3, bv3, sv3, H3⟩ := hX
              have hB3 := hB2.trans (c3.below hs2 (fun j _ hj => (HFT.out.1 j hj).1))
              have hs3 := c3.size
              have BK := Lib.hid (iback_any w3 H3 (hg' HA.out.good) (by have := HA.out.len; omega) (by rw [HA.out.words] at hwd'; simp at hwd'; omega))
              have HME := Lib.hid (back_same HA.out.words HA.out.was hw' hl')
              have FD := Lib.hid (fun (w4 : World) (T : Nat → Prop) (bv4 sv4 : Value) (H4 : IX w4 w.heap.size T p 0 3 4 2 0 m bv4 sv4) => dfind_any s w4 HA.out.db H4 HA.out.good.bb ⟨by omega, by omega⟩ (by omega))
              simp only [hno, Option.getD_none, Option.isSome_none] at FD
              have BY2 := Lib.hid (fun (w4 w5 : World) (T : Nat → Prop) (bv4 sv4 : Value) (H4 : IX w4 w.heap.size T p 0 3 4 2 0 m bv4 sv4) (hb5 : Below w4.heap.size w4 w5) => ibytes_any w5 (H4.below hb5) (by omega))
              have HOW := Lib.hid (show ∀ w4 w5 w6, Chg (grow S w2 w3) w3 w4 → Below w4.heap.size w4 w5 → Below w5.heap.size w5 w6 → Reads w6 w6.heap.size 1 A7 m.b.length (cellsOf .u8 m.b) from fun w4 w5 w6 c4 hb5 hb6 => by
                have hnS : ∀ g, (Value.slice A7 m.b.length c7).ownBlock = some g → ¬ S g ∧ g < w2.heap.size := fun g hg => by
                  have h9 := hown7.lt g hg
                  exact ⟨fun e => by have := (HFT.out.1 g e).2; have h8 : wr.heap.size ≤ g := h9.1; omega, h9.2⟩
                have o3 := own_chg hown7 c3 (fun g hg => (hnS g hg).1)
                have o4 := own_chg o3 c4 (fun g hg e => e.elim (hnS g hg).1 (fun e => by have := (hnS g hg).2; omega))
                exact Reads.of_own (own_below (own_below o4 hb5) hb6))
              have SM := Lib.hid (fun (w6 : World) (A8 : Option Addr) (c8 : Nat) (h8 : Reads w6 w6.heap.size 1 A8 m.b.length (cellsOf .u8 m.b)) (h7 : Reads w6 w6.heap.size 1 A7 m.b.length (cellsOf .u8 m.b)) => same_yes A8 A7 m.b.length m.b.length c8 c7 m.b m.b w6 h8 h7 HA.out.good.bb (Lib.hid rfl))
              have HB3 := Lib.hid hB3
              have HC3 := Lib.hid c3
              clear hb2 hB2 hB3 hown7 H3 hw' hl' hB' hlen' hwd' hg' hno c3
              have cr3 := CS.out w3 HB3.out
              have m1 : True := trivial
              go_wp2_with (first
                | (go_at_call 19; refine BK.out.mono ?_; rintro e w4 ⟨rfl, hX4⟩; rw [HME.out] at hX4; obtain ⟨c4, bv4, sv4, H4⟩ := hX4; have hB4 := HB3.out.trans (c4.below HB3.out.size (fun j _ hj => hj.elim (fun e => (HFT.out.1 j e).1) (fun e => by omega))); have cr4 := CS.out w4 hB4)
                | (go_at_call 15; refine (FD.out _ _ _ _ H4).mono ?_; rintro e w5 ⟨rfl, hb5⟩)
                | (go_at_call 17; refine (BY2.out _ _ _ _ _ H4 hb5).mono ?_; rintro e w6 ⟨A8, N8, c8, rfl, rfl, hown8, hb6, -, -⟩; have h7 := HOW.out _ _ _ c4 hb5 hb6; have h8 := Reads.of_own hown8)
                | (go_at_call 20; refine (SM.out _ _ _ h8 h7).mono ?_; rintro e w7 ⟨rfl, rfl⟩))
              go_roundw
              case rel =>
                exact ⟨j + 1, _, m, bv4, sv4, l, R, by go_num, by omega, Lib.hid ⟨(H4.below hb5).below hb6, HA.out.db, HA.out.rows, HA.out.good, HA.out.words, HA.out.was, HA.out.lim_, (hB4.trans (hb5.mono hB4.size)).trans (hb6.mono (hB4.trans (hb5.mono hB4.size)).size), by have := HA.out.len; omega⟩⟩
              case measure => simp [intOf]; omega
            · obtain ⟨c3, bv3, sv3, H3⟩ := hX
              have hB3 := hB2.trans (c3.below hs2 (fun j _ hj => (HFT.out.1 j hj).1))
              have DN := Lib.hid (idone_any w3 H3)
              have HB3 := Lib.hid hB3
              have HC := Lib.hid hC
              clear hb2 hB2 hB3 hown7 H3 c3 hC
              go_wp2_with (go_at_call 18; refine DN.out.mono ?_; rintro e w4 ⟨rfl, hX4⟩)
              go_roundw
              case rel =>
                obtain ⟨bv', sv', h⟩ := HA.out.done (fun j hj => hj.elim (fun e => (HFT.out.1 j e).1) (fun e => by omega)) HB3.out hX4 HC.out.db HC.out.rows (HC.out.good HA.out.good) HC.out.lim HC.out.most
                exact ⟨j + 1, _, _, bv', sv', l', _, by go_num, by omega, Lib.hid h⟩
              case measure => simp [intOf]; omega
      · have h40i : ¬ (j : Int) < 40 := by omega
        have hlti : (j : Int) < (n : Int) := by omega
        go_wp2_with (first
          | (go_at_call 7; refine (NI.out _).mono ?_; rintro e w1 ⟨rfl, rfl⟩)
          | (go_at_call 5; refine (AW.out _).mono ?_; rintro e w3 ⟨rfl, hb3⟩))
        go_ret
        exact ⟨rfl, HBL.out.trans (hb3.mono HBL.out.size)⟩
    · have hlti : ¬ (j : Int) < (n : Int) := by omega
      go_wp2_with (first
        | (go_at_call 7; refine (NI.out _).mono ?_; rintro e w1 ⟨rfl, rfl⟩)
        | (go_at_call 5; refine (AW.out _).mono ?_; rintro e w3 ⟨rfl, hb3⟩))
      go_ret
      exact ⟨rfl, HBL.out.trans (hb3.mono HBL.out.size)⟩

end Go.Proofs.Ytknimfnjmhmamaa
