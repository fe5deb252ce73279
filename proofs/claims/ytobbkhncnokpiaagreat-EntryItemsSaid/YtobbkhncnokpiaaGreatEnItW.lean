/-
  LAYER 16: the walk of EntryItems.
-/
import Derived.Test.YtobbkhncnokpiaaGreatEnItA
import Derived.Test.YtobbkhncnokpiaaGreatEnBox
set_option linter.unusedVariables false
set_option maxRecDepth 100000
set_option linter.unusedSimpArgs false
namespace Go.Proofs.YtobbkhncnokpiaaGreat
open Go.RowKit Go.Shelf

theorem strCells (zs : List ByteArray) : ∀ u ∈ cellsT zs, u.oneCell' = true := fun u hu => by
  obtain ⟨s, -, rfl⟩ := List.mem_map.1 hu
  rfl
section
variable {w wr wx w3 w4 : World} {p m N k : Nat} {v vi : Value} {r : RC} {L : List ByteArray}
theorem ItTwo.done2 {A : Option Addr} {c g : Nat} (hL : chkL r.its = L) (H : ItTwo w wr wx w3 p v vi m N k r) (hk : k < 40) (hT : Txt wx wx.heap.size A L.length c L) (hA : ∀ ad, A = some ad → wr.heap.size ≤ ad.block) (hB : Blk wx g 36 #[.int .u64 r.seq, .int .u64 r.real, .int .u64 r.mono, .int .u64 r.boot, .slice A L.length c]) (hg : wr.heap.size ≤ g) :
    Calls Tryz.prog 14 #[.pointer (some ⟨p, 0, none⟩)] w3 fun e w4 => e = .returned (.tuple #[]) ∧ ItThree w wr w4 p v vi m N k r A c g := by subst hL; exact H.done hk hT hA hB hg
theorem ItThree.next2 {A : Option Addr} {c g : Nat} (hL : chkL r.its = L) (H : ItThree w wr w4 p v vi m N k r A c g) : Blk w4 g 36 #[.int .u64 r.seq, .int .u64 r.real, .int .u64 r.mono, .int .u64 r.boot, .slice A L.length c] ∧ ∃ cs csi : List Value, w4.ownsRow w.heap.size 36 5 v m cs ∧ w.heap.size ≤ w4.heap.size ∧ N ≤ 64 * m ∧ L.length ≤ 64 ∧
    ∀ (w6 : World) (v' : Value) (tmp : Obj), w6.ownsRow w.heap.size 36 5 v' (m + 1) (cs ++ [.int .u64 r.seq, .int .u64 r.real, .int .u64 r.mono, .int .u64 r.boot, .slice A L.length c]) → (w4.alloc tmp).grownBy w6 v.ownBlock → (v'.ownBlock = v.ownBlock ∨ v'.ownBlock = some (w4.alloc tmp).heap.size) →
      w6.ownsRow w.heap.size 9 1 vi N csi ∧ Txt w6 w6.heap.size A L.length c L ∧ Blk w6 g 36 #[.int .u64 r.seq, .int .u64 r.real, .int .u64 r.mono, .int .u64 r.boot, .slice A L.length c] ∧ w.heap.size ≤ w6.heap.size ∧
      ∀ (w7 : World) (vi' : Value), w7.ownsRow w.heap.size 9 1 vi' (N + L.length) (csi ++ cellsT L) → w6.grownBy w7 vi.ownBlock → (vi'.ownBlock = vi.ownBlock ∨ vi'.ownBlock = some w6.heap.size) → ItAt w w7 p v' vi' (m + 1) (N + L.length) (k + 1) := by
  subst hL; exact ⟨H.box, H.next⟩
theorem ItAt.add2 {ec : Int} (hec : chkE r.its = ec) (H : ItAt w wr p v vi m N k) (hk : k < 40) (hb : Below wr.heap.size wr wx) (hr : RCOk wx wx.heap.size r) (hn : r.n ≤ 70) : Calls Tryz.prog 11 #[.pointer (some ⟨p, 0, none⟩), r.v] wx fun e w3 =>
    (∃ a : Nat, e = .returned (.tuple #[.int .i64 a, .int .i64 0]) ∧ ec = 0 ∧ ItTwo w wr wx w3 p v vi m N k r) ∨ (∃ E : Int, e = .returned (.tuple #[.int .i64 0, .int .i64 E]) ∧ ¬ E = 0 ∧ ItAt w w3 p v vi m N (k + 1)) := by
  refine (H.add hk hb hr hn).mono ?_
  rintro e w' (⟨a, h1, h2⟩ | h)
  · refine .inl ⟨a, h1, ?_, h2⟩
    obtain ⟨S, bs, R, O, Lr, l, R', o, Lr', -, -, -, -, -, -, -, -, -, -, -, e1⟩ := h2
    exact hec.symm.trans e1
  · exact .inr h
theorem ItAt.start {bs : List Int} {S : Nat → Prop} (hb : Below w.heap.size w wr) (h : ED 3 4 2 wr w.heap.size S p 1048576 bs [] [] [] 304) : ItAt w wr p (.slice none 0 0) (.slice none 0 0) 0 0 0 :=
  ⟨S, bs, [], [], [], [], ⟨(EnSt.start hb h).more (by omega), World.ownsRow_nil _ _ _ _, (fun g hg => by cases hg), (fun q hq => by cases hq), (fun y hy => by simp [findD] at hy)⟩, rfl, Nat.le_refl _, rfl, Nat.zero_le _⟩
theorem ItAt.below (H : ItAt w wr p v vi m N k) : Below w.heap.size w wr := by
  obtain ⟨S, bs, R, O, Lr, l, HS, -⟩ := H
  exact HS.st.below
theorem ItAt.le (H : ItAt w wr p v vi m N k) : m ≤ k ∧ N ≤ 64 * m := by
  obtain ⟨S, bs, R, O, Lr, l, HS, h1, h2, h3, h4⟩ := H
  exact ⟨h2, h4⟩
end

theorem its_a {N m n k : Nat} (h1 : N ≤ 64 * m) (h2 : n ≤ 64) (h3 : m ≤ k) (h4 : k < 40) : N + n ≤ maxLen := by unfold maxLen; omega
theorem its_b {N m n k : Nat} (h1 : N ≤ 64 * m) (h2 : n ≤ 64) (h3 : m ≤ k) (h4 : k < 40) : (N + n) * 16 ≤ 140737488355328 := by omega
theorem ints_getD (l : List Nat) (i : Nat) : (ints l).getD i 0 = ((l.getD i 0 : Nat) : Int) := by
  unfold ints
  rw [List.getD_eq_getElem?_getD, List.getD_eq_getElem?_getD, List.getElem?_map]
  cases l[i]? <;> rfl
set_option maxHeartbeats 2000000 in
theorem items_law (A : Option Addr) (n c : Nat) (l : List RC) (other : ByteArray) (w : World) (hin : InRC w A n c l) (hot : other.size ≤ maxLen) :
    Calls Tryz.prog 4 #[.slice A n c, .string other] w fun e w' => e = .returned (.bool true) ∧ Below w.heap.size w w' := by
  have AW := Lib.hid eawake_any
  have LI := Lib.hid (fun wx (hb : Below w.heap.size w wx) => light_any wx (hin.below hb))
  have FR := Lib.hid (fun wx (hb : w.heap.size ≤ wx.heap.size) => fresh_ed (base := w.heap.size) 1048576 wx hb (by omega))
  have hcap := hin.cap
  have hle := hin.le
  have HIN := Lib.hid hin
  clear hin
  unfold LightT at LI
  obtain ⟨i0, hi, hz0, hz1, hz2⟩ := info_parts recInfo
  obtain ⟨j0, hj, hy0, hy1, hy2⟩ := info_parts strInfo
  by_cases hbig : 300 < other.size
  · have hbi : (300 : Int) < (other.size : Int) := by omega
    go_enter Tryz.func4, Tryz.ntmps4
    have m1 : True := trivial
    go_wp2_with (first
      | (go_at_call 7; clear m1; refine (AW.out _).mono ?_; rintro e w1 ⟨rfl, hb1⟩)
      | (go_at_call 8; refine (LI.out _ hb1).mono ?_; rintro e w2 ⟨q, rfl, rfl, -⟩; cases q)
      | (go_at_call 7; refine (AW.out _).mono ?_; rintro e w5 ⟨rfl, hb5⟩))
    all_goals
      go_ret
      exact ⟨rfl, hb1.trans (hb5.mono hb1.size)⟩
  have hbi : ¬ (300 : Int) < (other.size : Int) := by omega
  go_enter Tryz.func4, Tryz.ntmps4
  have m1 : True := trivial
  go_wp2_with (first
    | (go_at_call 7; clear m1; refine (AW.out _).mono ?_; rintro e w1 ⟨rfl, hb1⟩)
    | (go_at_call 8; refine (LI.out _ hb1).mono ?_; rintro e w2 ⟨q, rfl, rfl, hq⟩; cases q)
    | (go_at_call 9; refine (FR.out _ hb1.size).mono ?_; rintro e w3 ⟨p, rfl, hb3, bs, hD⟩)
    | (go_at_call 7; refine (AW.out _).mono ?_; rintro e w5 ⟨rfl, hb5⟩))
  · go_ret
    exact ⟨rfl, hb1.trans (hb5.mono hb1.size)⟩
  have HR0 : Hid (ItAt w w3 p (.slice none 0 0) (.slice none 0 0) 0 0 0) := Lib.hid (ItAt.start (hb1.trans (hb3.mono hb1.size)) (hD.mono (fun j hj => hj) (fun j hj => ⟨Nat.le_trans hb1.size hj.1, hj.2⟩)))
  obtain ⟨hn40, hr70⟩ := hq trivial
  have H70 := Lib.hid hr70
  clear hq hb1 hb3 hD hr70 LI FR
  go_loopw [6, 7, 8] (fun v vi i wr => ∃ (m N k : Nat) (A1 A2 : Option Addr) (c1 c2 : Nat), v = .slice A1 m c1 ∧ vi = .slice A2 N c2 ∧ i = .int .i64 k ∧ k ≤ n ∧ Hid (ItAt w wr p (.slice A1 m c1) (.slice A2 N c2) m N k)) (fun _ _ i _ => 100 - (intOf i).toNat)
  case atStart => exact ⟨0, 0, 0, none, none, 0, 0, rfl, rfl, rfl, Nat.zero_le _, HR0⟩
  case round =>
    clear HR0
    obtain ⟨m, N, k, A1, A2, c1, c2, rfl, rfl, rfl, hk, HA⟩ := hrel
    have HBL := Lib.hid HA.out.below
    by_cases hlt : k < n
    · have h40 : k < 40 := by omega
      obtain ⟨b, off, r, rfl, hb, hr, hok, x0, x1, x2, x3, x4⟩ := HIN.out.at_ HBL.out hlt
      have hr70 := H70.out r (List.mem_of_getElem? hr)
      have hlti : (k : Int) < (n : Int) := by omega
      have hbw : b < wr.heap.size := Nat.lt_of_lt_of_le hb HBL.out.size
      have XK := Lib.hid (fun wx (hx : Below wr.heap.size wr wx) => (⟨(hx.cell (p := ⟨b, off + k * 5, none⟩) hbw).trans x0, (hx.cell (p := ⟨b, off + k * 5 + 1, none⟩) hbw).trans x1, (hx.cell (p := ⟨b, off + k * 5 + 2, none⟩) hbw).trans x2, (hx.cell (p := ⟨b, off + k * 5 + 3, none⟩) hbw).trans x3, (hx.cell (p := ⟨b, off + k * 5 + 4, none⟩) hbw).trans x4⟩ :
        wx.cell? ⟨b, off + k * 5, none⟩ = some (.int .u64 r.seq) ∧ wx.cell? ⟨b, off + k * 5 + 1, none⟩ = some (.int .u64 r.real) ∧ wx.cell? ⟨b, off + k * 5 + 2, none⟩ = some (.int .u64 r.mono) ∧ wx.cell? ⟨b, off + k * 5 + 3, none⟩ = some (.int .u64 r.boot) ∧ wx.cell? ⟨b, off + k * 5 + 4, none⟩ = some (.slice r.A r.n r.c)))
      have CK := Lib.hid (fun wx (hx : Below wr.heap.size wr wx) => rchecked_any (B := w.heap.size) r wx (hok.below (HBL.out.trans (hx.mono HBL.out.size))).txt (Nat.le_trans HBL.out.size hx.size) (by omega))
      obtain ⟨L, hL⟩ : ∃ L, chkL r.its = L := ⟨_, rfl⟩
      obtain ⟨ec, hec⟩ : ∃ ec, chkE r.its = ec := ⟨_, rfl⟩
      rw [hL, hec] at CK
      have HLL := Lib.hid (And.intro hL hec)
      have s1 := sr5a (m := m) (by have := HA.out.le; omega)
      have s2 := sr5b (m := m) (by have := HA.out.le; omega)
      have HLE := Lib.hid HA.out.le
      have AD := Lib.hid (fun wx (hx : Below wr.heap.size wr wx) => ItAt.add2 hec HA.out h40 hx ((hok.below (HBL.out.trans (hx.mono HBL.out.size))).more (Nat.le_trans HBL.out.size hx.size)) hr70)
      unfold RC.v at CK AD
      clear hL hec hr hok hr70 hb hbw
      go_wp2_with (first
        | (go_at_call 12; go_loud (refine (CK.out _ (Below.refl _ _)).mono ?_; rintro e w1 ⟨B1, d1, rfl, ht1, hb1, hf1⟩; have HCB := Lib.hid (ChkBox.make (r := r) ht1 hb1 hf1); obtain ⟨u0, u1, u2, u3, u4⟩ := XK.out _ HCB.out.below; clear ht1 hb1 hf1))
        | (go_at_call 11; go_loud (refine (AD.out _ HCB.out.below).mono ?_; rintro e w3 (⟨a, rfl, rfl, h3⟩ | ⟨E, rfl, hE, h3⟩)))
        | (go_at_call 14; go_loud (refine (ItTwo.done2 HLL.out.1 h3 h40 HCB.out.txt HCB.out.fr HCB.out.box HCB.out.lo).mono ?_; rintro e w4 ⟨rfl, h4⟩; obtain ⟨hbx4, cs, csi, hown4, hb4, hN4, hL64, hnx4⟩ := h4.next2 HLL.out.1; have y0 : w4.cell? ⟨w1.heap.size, 0, none⟩ = some (.int .u64 r.seq) := hbx4.cell 0; have y1 : w4.cell? ⟨w1.heap.size, 1, none⟩ = some (.int .u64 r.real) := hbx4.cell 1; have y2 : w4.cell? ⟨w1.heap.size, 2, none⟩ = some (.int .u64 r.mono) := hbx4.cell 2; have y3 : w4.cell? ⟨w1.heap.size, 3, none⟩ = some (.int .u64 r.boot) := hbx4.cell 3; have y4 : w4.cell? ⟨w1.heap.size, 4, none⟩ = some (.slice B1 L.length d1) := hbx4.cell 4; have HO4 := Lib.hid hown4; have HNX := Lib.hid hnx4; have t1 := its_a hN4 hL64 HLE.out.1 h40; have t2 := its_b hN4 hL64 HLE.out.1 h40; clear h3 h4 hbx4 hown4 hnx4))
        | (at_builtin; refine wpList_append_any _ rfl _ _ 34 rfl w.heap.size 9 j0 (.string ⟨#[]⟩) 1 16 Tryz.underlying34 hj hy0 hy1 hy2 rfl (Nat.lt_succ_self 0) (.slice A2 N c2) N csi rfl HI6.out _ _ L.length d1 (cellsT L) rfl HT6.out.reads (strCells L) t1 t2 hsz6 ?_; intro v7 w7 hown7 hg7 hat7; obtain ⟨A4, c4, rfl, -, -⟩ := own_form hown7; have H7 := Lib.hid (HN6.out w7 _ hown7 hg7 hat7); clear hown7 hg7 hat7)
        | (at_builtin; go_loud (refine wpList_append_any _ rfl _ _ 22 rfl w.heap.size 36 i0 (.agg #[.int .u64 0, .int .u64 0, .int .u64 0, .int .u64 0, .slice none 0 0]) 5 56 Tryz.underlying22 hi hz0 hz1 hz2 rfl (by decide) (.slice A1 m c1) m cs rfl (HO4.out.alloc _) _ _ 1 1 [.int .u64 r.seq, .int .u64 r.real, .int .u64 r.mono, .int .u64 r.boot, .slice B1 L.length d1] rfl (recNew w4 _ _ _ _ _ _) (recOne _ _ _ _ _ _ _) s1 s2 (by simp; omega) ?_; intro v1 w6 hown1 hg1 hat1; obtain ⟨A3, c3, rfl, -, -⟩ := own_form hown1; obtain ⟨hi6, ht6, hb6, hsz6, hn6⟩ := HNX.out w6 _ _ hown1 hg1 hat1; have z4 : w6.cell? ⟨w1.heap.size, 4, none⟩ = some (.slice B1 L.length d1) := hb6.cell 4; have HI6 := Lib.hid hi6; have HT6 := Lib.hid ht6; have HN6 := Lib.hid hn6; clear hown1 hg1 hat1 hi6 ht6 hb6 hn6)))
      · go_roundw
        case rel => exact ⟨m + 1, N + L.length, k + 1, A3, A4, c3, c4, rfl, rfl, by go_num, by omega, H7⟩
        case measure => simp [intOf]; omega
      all_goals
        go_roundw
        case rel => exact ⟨m, N, k + 1, A1, A2, c1, c2, rfl, rfl, by go_num, by omega, Lib.hid h3⟩
        case measure => simp [intOf]; omega
    · have hge : ¬ (k : Int) < (n : Int) := by omega
      have hN40 : N ≤ 2560 := by have := HA.out.le; omega
      obtain ⟨A3, c3, Ai, ci, zs, e1, e2, hTx, hFo, hAsk⟩ := HA.out.ask (by omega)
      injection e1 with e1 e3 e4
      injection e2 with e2 e5 e6
      subst e1; subst e4; subst e2; subst e6
      have HTX := Lib.hid hTx
      have FO := Lib.hid (hFo other (by unfold maxLen at hot; omega))
      have HASK := Lib.hid hAsk
      obtain ⟨hb, hhb⟩ : ∃ hb, hasB zs other = hb := ⟨_, rfl⟩
      have RH := Lib.hid (fun (B : Nat) (wx : World) (ht : Txt wx B A2 N c2 zs) => rhas_any A2 N c2 zs other B wx ht)
      rw [hhb] at FO RH
      have HHB := Lib.hid hhb
      clear hTx hFo hAsk hhb e3 e5 hlt HIN H70
      have HBW := Lib.hid HBL.out
      obtain ⟨wl, rfl⟩ : ∃ wl, wl = wr := ⟨_, rfl⟩
      have HR1 : Hid (Below wl.heap.size wl wl) := Lib.hid (Below.refl _ _)
      go_wp2
      go_loopw [13] (fun i w2 => ∃ j : Nat, i = .int .i64 j ∧ j ≤ N ∧ Hid (Below wl.heap.size wl w2)) (fun i _ => N - (intOf i).toNat)
      case atStart => exact ⟨0, rfl, Nat.zero_le _, HR1⟩
      case round =>
        clear HR1
        obtain ⟨j, rfl, hj, HB⟩ := hrel
        by_cases hlt : j < N
        · have hltj : (j : Int) < (N : Int) := by omega
          obtain ⟨bi, offi, rfl, hbi', hcell⟩ := HTX.out.at_ (by omega)
          have c0 := hcell j hlt
          obtain ⟨a, want, pl, hAsk⟩ := HASK.out j hlt
          obtain ⟨s, hs⟩ : ∃ s, nthT zs j = s := ⟨_, rfl⟩
          rw [hs] at c0 hAsk
          have CI := Lib.hid (fun wx (hx : Below wl.heap.size wl wx) => (hx.cell (p := ⟨bi, offi + j, none⟩) hbi').trans c0)
          have c1 := CI.out _ HB.out
          have HA2 := Lib.hid hAsk
          have hfew := hAsk.few
          have hsml := hAsk.small
          clear hAsk hs hcell c0 hbi'
          go_wp2_with (first
            | (go_at_call 24; go_loud (refine (HA2.out.find _ HB.out).mono ?_; rintro e w3 ⟨rfl, hb3⟩; have HB3 := Lib.hid (HB.out.trans (hb3.mono HB.out.size)); have c2 := CI.out _ HB3.out; clear hb3))
            | (go_at_call 25; go_loud (refine (HA2.out.having _ HB3.out).mono ?_; rintro e w4 ⟨vw, rfl, ho4, hb4⟩; obtain ⟨Aw, cw, rfl, -, -⟩ := own_form ho4; have HO4 := Lib.hid (Reads.of_own ho4); have HB4 := Lib.hid (HB3.out.trans (hb4.mono HB3.out.size)); clear ho4 hb4))
            | (go_at_call 26; go_loud (refine (HA2.out.count _ HB4.out).mono ?_; rintro e w5 ⟨rfl, hb5⟩; have HW5 := Lib.hid (HO4.out.below hb5); have HS45 := Lib.hid hb5.size; have HB5 := Lib.hid (HB4.out.trans (hb5.mono HB4.out.size)); clear hb5)))
          have HR2 : Hid (Below w5.heap.size w5 w5) := Lib.hid (Below.refl _ _)
          obtain ⟨K, hK⟩ : ∃ K, want.length = K := ⟨_, rfl⟩
          rw [hK] at HW5 hfew ⊢
          have HK := Lib.hid hK
          clear hK
          go_loopw [17] (fun i w2 => ∃ q : Nat, i = .int .i64 q ∧ q ≤ K ∧ Hid (Below w5.heap.size w5 w2)) (fun i _ => K - (intOf i).toNat)
          case atStart => exact ⟨0, rfl, Nat.zero_le _, HR2⟩
          case round =>
            clear HR2
            obtain ⟨q, rfl, hq, HQ⟩ := hrel
            by_cases hlt2 : q < K
            · have hltq : (q : Int) < (K : Int) := by omega
              obtain ⟨bq, offq, rfl, hbq, hcq⟩ := (HW5.out.below (HQ.out.mono HS45.out)).plain (by omega)
              have q0 := hcq q hlt2
              obtain ⟨x, hx⟩ : ∃ x, want.getD q 0 = x := ⟨_, rfl⟩
              rw [ints_getD, hx] at q0
              have NE := Lib.hid (HA2.out.nthE q (by rw [HK.out]; exact hlt2))
              have ND := Lib.hid (HA2.out.nthD q (by rw [HK.out]; exact hlt2))
              rw [hx] at NE
              have HBQ := Lib.hid (HB5.out.trans (HQ.out.mono HB5.out.size))
              obtain ⟨pq, hpq⟩ : ∃ pq, pl q = pq := ⟨_, rfl⟩
              rw [hpq] at NE ND
              clear hcq hbq hx hpq
              go_wp2_with (first
                | (go_at_call 20; go_loud (refine (NE.out _ HBQ.out).mono ?_; rintro e w6 ⟨rfl, hb6⟩; have HB6 := Lib.hid (HBQ.out.trans (hb6.mono HBQ.out.size)); have HQ6 := Lib.hid (HQ.out.trans (hb6.mono HQ.out.size)); clear hb6))
                | (go_at_call 27; go_loud (refine (ND.out _ HB6.out).mono ?_; rintro e w7 ⟨rfl, hb7⟩; have HQ7 := Lib.hid (HQ6.out.trans (hb7.mono HQ6.out.size)); clear hb7)))
              go_roundw
              case rel => exact ⟨q + 1, by go_num, by omega, HQ7⟩
              case measure => simp [intOf]; omega
            · have hge2 : ¬ (q : Int) < (K : Int) := by omega
              have HBQ := Lib.hid (HB5.out.trans (HQ.out.mono HB5.out.size))
              go_wp2
              go_roundw
              case rel => exact ⟨j + 1, by go_num, by omega, HBQ⟩
              case measure => simp [intOf]; omega
        · have hgej : ¬ (j : Int) < (N : Int) := by omega
          go_wp2_with (first
            | (go_at_call 24; go_loud (refine (FO.out _ HB.out).mono ?_; rintro e w3 ⟨a, rfl, hb3⟩; have HB3 := Lib.hid (HB.out.trans (hb3.mono HB.out.size)); have HT3 := Lib.hid (HTX.out.below HB3.out); clear hb3))
            | (go_at_call 28; go_loud (refine (RH.out _ _ HT3.out).mono ?_; rintro e w4 ⟨rfl, rfl⟩))
            | (go_at_call 7; go_loud (refine (AW.out _).mono ?_; rintro e w5 ⟨rfl, hb5⟩)))
          go_ret
          exact ⟨rfl, HBW.out.trans ((HB3.out.trans (hb5.mono HB3.out.size)).mono HBW.out.size)⟩

end Go.Proofs.YtobbkhncnokpiaaGreat
