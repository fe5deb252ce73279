import Derived.Test.YtgcmbgniaffdlaaGreatClBools
import Derived.Test.YtgcmbgniaffdlaaGreatCaG
import Derived.Deep.CutBlock
import Derived.Deep.DeepCutAuto
set_option linter.unusedVariables false
set_option maxRecDepth 100000
set_option linter.unusedSimpArgs false
namespace Go.Proofs.YtgcmbgniaffdlaaGreat
open Go.RowKit Go.Shelf
theorem InRC.below {w wx : World} {A : Option Addr} {n c : Nat} {l : List RC} (h : InRC w A n c l) (hb : Below w.heap.size w wx) : InRC wx A n c l :=
 ⟨h.length, h.le, h.cap, fun x hx => ((h.ok x hx).below hb).more hb.size, fun hn => by
   obtain ⟨b, off, e, hbl, hc⟩ := h.cells hn
   refine ⟨b, off, e, Nat.lt_of_lt_of_le hbl hb.size, fun i x hi => ?_⟩
   obtain ⟨h0, h1, h2, h3, h4⟩ := hc i x hi
   have g : ∀ o, wx.cell? ⟨b, o, none⟩ = w.cell? ⟨b, o, none⟩ := fun o => hb.cell (p := ⟨b, o, none⟩) hbl
   exact ⟨(g _).trans h0, (g _).trans h1, (g _).trans h2, (g _).trans h3, (g _).trans h4⟩⟩
structure CkBox (wr w1 wx : World) (r : RC) (L : List ByteArray) (B : Option Addr) (d : Nat) : Prop where
 below : Below wr.heap.size wr wx
 txt : Txt wx wx.heap.size B L.length d L
 fr : ∀ ad, B = some ad -> wr.heap.size <= ad.block
 lo : wr.heap.size <= w1.heap.size
 box : Blk wx w1.heap.size 39 #[.int .u64 r.seq, .int .u64 r.real, .int .u64 r.mono, .int .u64 r.boot, .slice B L.length d]
theorem CkBox.make {wr w1 : World} {r : RC} {L : List ByteArray} {B : Option Addr} {d : Nat} (ht : Txt w1 w1.heap.size B L.length d L) (hb : Below wr.heap.size wr w1) (hf : ∀ ad, B = some ad -> wr.heap.size <= ad.block) :
 CkBox wr w1 (w1.alloc (.cells #[.int .u64 r.seq, .int .u64 r.real, .int .u64 r.mono, .int .u64 r.boot, .slice B L.length d] 39)) r L B d :=
 ⟨hb.alloc hb.size _, (ht.below (boxed w1 _)).more (boxed w1 _).size, hf, hb.size, Blk.new w1 _ _⟩
set_option maxHeartbeats 8000000 in
theorem recovers_law (a f : Int) (A1 : Option Addr) (n1 c1 : Nat) (l1 : List RC) (A2 : Option Addr) (n2 c2 : Nat) (l2 : List RC) (Ak : Option Addr) (nk ck : Nat) (ks : List Bool) (Ab : Option Addr) (nb cb : Nat) (zs : List Int) (w : World)
 (ha : (Lit.int .u8 a).wf = true) (hf : (Lit.int .u8 f).wf = true) (hin1 : InRC w A1 n1 c1 l1) (hin2 : InRC w A2 n2 c2 l2) (hkp : InBools w Ak nk ck ks) (hbh : InInts w .u8 Ab nb cb zs) :
 Calls Tryz.prog 3 #[.int .u8 a, .int .u8 f, .slice A1 n1 c1, .slice A2 n2 c2, .slice Ak nk ck, .slice Ab nb cb] w fun e w' => e = .returned (.bool true) /\ Below w.heap.size w w' := by
 have AW := Lib.hid clawake_any
 have ba := wf_u8_bd ha
 have bf := wf_u8_bd hf
 obtain ⟨D, hD⟩ : ∃ D, 1 + a % 5 = D := ⟨_, rfl⟩
 obtain ⟨F, hF⟩ : ∃ F, 1 + f % 5 = F := ⟨_, rfl⟩
 have hR : rightH D F = true := by simp [rightH]; omega
 have HR := Lib.hid hR
 have hnk := newK_eq hR
 have hrb := rightH_bd hR
 have hk5 : newK D F <= 100000 /\ 256 <= newK D F := by omega
 have NW := Lib.hid (fun (base G : Nat) (wx : World) (hb : base <= wx.heap.size) (ht : IsTable wx G) => newC_ed (base := base) G D F 1048576 wx hR ht hb (by omega))
 have HH := Lib.hid (fun wx => header_any a f D F wx ba.1 ba.2 bf.1 bf.2 hD hF)
 have L1 := Lib.hid (fun wx (hx : Below w.heap.size w wx) => cllight_any wx (hin1.below hx))
 have L2 := Lib.hid (fun wx (hx : Below w.heap.size w wx) => cllight_any wx (hin2.below hx))
 have h1c := hin1.cap
 have h1l := hin1.le
 have h2c := hin2.cap
 have h2l := hin2.le
 have HI1 := Lib.hid hin1
 have HI2 := Lib.hid hin2
 have HKP := Lib.hid hkp
 have HBH := Lib.hid hbh
 have hkc := hkp.cap
 have hkl := hkp.le
 have hbc := hbh.cap
 have hbl := hbh.le
 clear ha hf hin1 hin2 hkp hbh hD hF ba bf hR hnk hrb
 obtain ⟨i0, hi, hz0, hz1, hz2⟩ := info_parts recInfo
 obtain ⟨i1, hi1, hy0, hy1, hy2⟩ := info_parts byteInfo
 have hb : Below w.heap.size w w := Below.refl _ _
 by_cases hg : nk <= 5000 /\ nb <= 500
 · obtain ⟨g1, g2⟩ := hg
   have HG2 := Lib.hid g2
   have m1 : True := trivial
   have g1i : ¬ (5000 : Int) < (nk : Int) := by omega
   have g2i : ¬ (500 : Int) < (nb : Int) := by omega
   go_enter Tryz.func3, Tryz.ntmps3
   go_wp2_with (first
     | (go_at_call 7; refine (AW.out _).mono ?_; rintro e wx ⟨rfl, hbx⟩; have hb := hb.trans (hbx.mono hb.size); clear hbx)
     | (clear m1; go_at_call 8; refine (L1.out _ hb).mono ?_; rintro e wx ⟨q1, rfl, rfl, hq1⟩; cases q1)
     | (go_at_call 8; refine (L2.out _ hb).mono ?_; rintro e wx ⟨q2, rfl, rfl, hq2⟩; cases q2)
     | (go_at_call 9; refine (HH.out _).mono ?_; rintro e w2 ⟨rfl, hbx⟩; have hb := hb.trans (hbx.mono hb.size); clear hbx))
   all_goals first
     | (go_ret; exact ⟨rfl, hb⟩)
     | skip
   have n30 : n1 <= 30 := by simpa using hq1
   have n30b : n2 <= 30 := by simpa using hq2
   clear hq1 hq2
   obtain ⟨W2, hW2, X2⟩ : ∃ W2, (w2.alloc (.cells #[.int .u64 1, .int .u64 2, .int .i64 D, .int .i64 F, .int .u64 0] 29)).alloc (.cells #[.int .u64 1, .int .u64 2, .int .i64 D, .int .i64 F, .int .u64 0] 30) = W2 /\ Hid (HdTwo w2 W2 D F) := ⟨_, rfl, Lib.hid (hdTwo _ _ _)⟩
   rw [hW2]
   have HD := Lib.hid (fun wx (hx : Below W2.heap.size W2 wx) => (⟨hdAt_blk (X2.out.hd.below hx X2.out.hd.lt), hdAt_blk (X2.out.rf.below hx X2.out.rf.lt)⟩ : HdAt wx w2.heap.size 1 2 D F 0 /\ HdAt wx (w2.heap.size + 1) 1 2 D F 0))
   have HB2 := Lib.hid (hb.trans (X2.out.below.mono hb.size))
   have hwB := HB2.out.size
   clear hW2 hb
   obtain ⟨g1, hg1⟩ : ∃ g1, w2.heap.size = g1 := ⟨_, rfl⟩
   rw [hg1] at HD
   try rw [hg1]
   clear hg1
   have hb : Below W2.heap.size W2 W2.drew := below_drewn (Below.refl _ _) 1
   have HK := Lib.hid (HD.out _ hb)
   have HIN := Lib.hid (HI1.out.below HB2.out)
   go_region_held3 (fun w' => HdAt w' g1 1 2 D F 0 /\ HdAt w' (g1 + 1) 1 2 D F 0)
     (first | assumption | exact HK.out | exact HD.out _ (by assumption))
     (first
       | (go_at_call 11; refine (crcMake_any _).mono ?_; rintro e w3 ⟨rfl, ht, hb3⟩; have HT := Lib.hid ht; have hb := hb.trans (hb3.mono hb.size); clear ht hb3)
       | (go_at_call 10; refine (NW.out W2.heap.size _ w3 hb.size HT.out).mono ?_; rintro e w4 ⟨p, rfl, hb4, S4, hd4⟩; have HX := Lib.hid hd4; have hb := hb.trans (hb4.mono hb.size); clear hb4 hd4))
   obtain ⟨L0, hS0⟩ := HX.out.old.stands
   obtain ⟨b0, hb0⟩ : ∃ b0, newB 1 2 D F 0 = b0 := ⟨_, rfl⟩
   have HB00 := Lib.hid hb0
   have HK2 := Lib.hid hk5.2
   rw [hb0] at HX hS0
   obtain ⟨t0, ht0⟩ : ∃ t0, newK D F = t0 := ⟨_, rfl⟩
   have R0 : Hid (ClAt 1 0 2 D F W2 w4 p (newK D F) b0 (.slice none 0 0) 0 0) := Lib.hid (ClAt.start hb HX.out hS0.same)
   have HLO := Lib.hid (And.intro hk5.1 (show 200 <= newK D F by omega))
   clear hS0 ht0 hb HK HT NW HX hk5
   go_wp2
   go_loopw [16, 17] (fun v i wr => ∃ (m k : Nat) (A3 : Option Addr) (c3 : Nat), v = .slice A3 m c3 /\ i = .int .i64 k /\ k <= n1 /\ Hid (ClAt 1 0 2 D F W2 wr p (newK D F) b0 (.slice A3 m c3) m k)) (fun _ i _ => 100 - (intOf i).toNat)
   case atStart => exact ⟨0, 0, none, 0, rfl, rfl, Nat.zero_le _, R0⟩
   case round =>
     clear R0
     obtain ⟨m, k, A3, c3, rfl, rfl, hk, HA⟩ := hrel
     have HBL := Lib.hid HA.out.below
     by_cases hlt : k < n1
     · have h40 : k < 40 := by omega
       obtain ⟨b, off, r, rfl, hb, hr, hok, x0, x1, x2, x3, x4⟩ := HIN.out.at_ HBL.out hlt
       have hrn : r.n <= 9223372036854775807 := Nat.le_trans hok.txt.le hok.txt.cap
       have hlti : (k : Int) < (n1 : Int) := by omega
       have hbw : b < wr.heap.size := Nat.lt_of_lt_of_le hb HBL.out.size
       have XK := Lib.hid (fun wx (hx : Below wr.heap.size wr wx) => (⟨(hx.cell (p := ⟨b, off + k * 5, none⟩) hbw).trans x0, (hx.cell (p := ⟨b, off + k * 5 + 1, none⟩) hbw).trans x1, (hx.cell (p := ⟨b, off + k * 5 + 2, none⟩) hbw).trans x2, (hx.cell (p := ⟨b, off + k * 5 + 3, none⟩) hbw).trans x3, (hx.cell (p := ⟨b, off + k * 5 + 4, none⟩) hbw).trans x4⟩ :
         wx.cell? ⟨b, off + k * 5, none⟩ = some (.int .u64 r.seq) /\ wx.cell? ⟨b, off + k * 5 + 1, none⟩ = some (.int .u64 r.real) /\ wx.cell? ⟨b, off + k * 5 + 2, none⟩ = some (.int .u64 r.mono) /\ wx.cell? ⟨b, off + k * 5 + 3, none⟩ = some (.int .u64 r.boot) /\ wx.cell? ⟨b, off + k * 5 + 4, none⟩ = some (.slice r.A r.n r.c)))
       have CK := Lib.hid (fun wx (hx : Below wr.heap.size wr wx) => rchecked_any (B := W2.heap.size) r wx (hok.below (HBL.out.trans (hx.mono HBL.out.size))).txt (Nat.le_trans HBL.out.size hx.size) hrn)
       obtain ⟨L, hL⟩ : ∃ L, chkL r.its = L := ⟨_, rfl⟩
       obtain ⟨ec, hec⟩ : ∃ ec, chkE r.its = ec := ⟨_, rfl⟩
       rw [hL, hec] at CK
       have HLL := Lib.hid hL
       have s1 := sr5a (m := m) (by have := HA.out.le; omega)
       have s2 := sr5b (m := m) (by have := HA.out.le; omega)
       have AD := Lib.hid (fun wx (hx : Below wr.heap.size wr wx) => ClAt.add hec HA.out HLO.out.1 h40 hx ((hok.below (HBL.out.trans (hx.mono HBL.out.size))).more (Nat.le_trans HBL.out.size hx.size)) hrn)
       unfold RC.v at CK AD
       clear hL hec hr hok hrn hb hbw
       go_wp2_with (first
         | (go_at_call 12; go_loud (refine (CK.out _ (Below.refl _ _)).mono ?_; rintro e w1 ⟨B1, d1, rfl, ht1, hb1, hf1⟩; have HCB := Lib.hid (CkBox.make (r := r) ht1 hb1 hf1); obtain ⟨u0, u1, u2, u3, u4⟩ := XK.out _ HCB.out.below; clear ht1 hb1 hf1))
         | (go_at_call 13; go_loud (refine (AD.out _ HCB.out.below).mono ?_; rintro e w3 (⟨a, rfl, rfl, h3⟩ | ⟨E, rfl, hE, h3⟩); obtain ⟨hbx3, cs, hown3, hb3, hnx3⟩ := h3.next HLL.out HCB.out.txt HCB.out.fr HCB.out.box HCB.out.lo; have y0 : w3.cell? ⟨w1.heap.size, 0, none⟩ = some (.int .u64 r.seq) := hbx3.cell 0; have y1 : w3.cell? ⟨w1.heap.size, 1, none⟩ = some (.int .u64 r.real) := hbx3.cell 1; have y2 : w3.cell? ⟨w1.heap.size, 2, none⟩ = some (.int .u64 r.mono) := hbx3.cell 2; have y3 : w3.cell? ⟨w1.heap.size, 3, none⟩ = some (.int .u64 r.boot) := hbx3.cell 3; have y4 : w3.cell? ⟨w1.heap.size, 4, none⟩ = some (.slice B1 L.length d1) := hbx3.cell 4; have HO3 := Lib.hid hown3; have HNX := Lib.hid hnx3; clear h3 hbx3 hown3 hnx3))
         | (at_builtin; go_loud (refine wpList_append_any _ rfl _ _ 22 rfl W2.heap.size 39 i0 (.agg #[.int .u64 0, .int .u64 0, .int .u64 0, .int .u64 0, .slice none 0 0]) 5 56 Tryz.underlying22 hi hz0 hz1 hz2 rfl (by decide) (.slice A3 m c3) m cs rfl (HO3.out.alloc _) _ _ 1 1 [.int .u64 r.seq, .int .u64 r.real, .int .u64 r.mono, .int .u64 r.boot, .slice B1 L.length d1] rfl (recNew w3 _ _ _ _ _ _) (recOne _ _ _ _ _ _ _) s1 s2 (by simp; omega) ?_; intro v1 w6 hown1 hg1 hat1; obtain ⟨A4, c4, rfl, -, -⟩ := own_form hown1; have H6 := Lib.hid (HNX.out w6 _ _ hown1 hg1 hat1); clear hown1 hg1 hat1))
         | (go_at_call 14; go_loud (refine (H6.out.done HLO.out.1 h40 HLO.out.2).mono ?_; rintro e w7 ⟨rfl, h7⟩)))
       · go_roundw
         case rel => exact ⟨m + 1, k + 1, A4, c4, rfl, by go_num, by omega, Lib.hid h7⟩
         case measure => simp [intOf]; omega
       · go_roundw
         case rel => exact ⟨m, k + 1, A3, c3, rfl, by go_num, by omega, Lib.hid h3⟩
         case measure => simp [intOf]; omega
     · have hge : ¬ (k : Int) < (n1 : Int) := by omega
       obtain ⟨S, was, R, O, Lr, l, Lw, HF, HWt, hlm, hSt, hMo⟩ := HA.out.moreW
       obtain ⟨NB, hNB⟩ : ∃ NB, was.length = NB := ⟨_, rfl⟩
       have HFL := Lib.hid HF
       have HST := Lib.hid hSt
       have HMO := Lib.hid hMo
       have HNB := Lib.hid hNB
       have HIN2 := Lib.hid (HI2.out.below HB2.out)
       have hkn : k = n1 := by omega
       have HMK : Hid (m <= 30) := Lib.hid (by have := HA.out.le; omega)
       clear HF HWt hSt hMo hlt HIN HA hNB
       have hwr : Below wr.heap.size wr wr := Below.refl _ _
       go_wp2_with (go_at_call 15; go_loud (refine (bytes_ed HFL.out.ed).mono ?_; rintro e w5 ⟨A5, N5, c5, rfl, hN5, ho5, hb5, hl5, hc5⟩; have hN5' : NB = N5 := (hN5.trans HNB.out).symm; subst hN5'; have HW5 := Lib.hid (And.intro ho5 (And.intro hl5 hc5)); have hwr := hwr.trans (hb5.mono hwr.size); clear hN5 ho5 hl5 hc5 hb5))
       have HW0 := Lib.hid hwr
       have R1 : Hid (MwAt 1 0 2 D F W2 w5 p (newK D F) was (.slice A5 NB c5) (.slice A3 m c3) l k) := Lib.hid (by
         have h := HW5.out.1
         have e := HNB.out
         subst e
         exact HMO.out _ _ hwr h)
       have HWRB := Lib.hid (HBL.out.trans (hwr.mono HBL.out.size))
       clear hwr HBL
       go_loopw [23] (fun i wq => ∃ (k2 : Nat), i = .int .i64 k2 /\ k2 <= n2 /\ Hid (MwAt 1 0 2 D F W2 wq p (newK D F) was (.slice A5 NB c5) (.slice A3 m c3) l (k + k2))) (fun i _ => 100 - (intOf i).toNat)
       case atStart => exact ⟨0, rfl, Nat.zero_le _, R1⟩
       case round =>
         clear R1
         obtain ⟨k2, rfl, hk2, HM⟩ := hrel
         have HBL := Lib.hid HM.out.below
         by_cases hlt2 : k2 < n2
         · have h80 : k + k2 < 80 := by omega
           obtain ⟨b, off, r, rfl, hb, hr, hok, x0, x1, x2, x3, x4⟩ := HIN2.out.at_ HBL.out hlt2
           have hrn : r.n <= 9223372036854775807 := Nat.le_trans hok.txt.le hok.txt.cap
           have hlti : (k2 : Int) < (n2 : Int) := by omega
           have AD := Lib.hid (MwAt.add HM.out HLO.out.1 h80 (Below.refl _ _) ((hok.below HBL.out).more HBL.out.size) hrn)
           unfold RC.v at AD
           clear hr hok hrn hb
           go_wp2_with (first
             | (go_at_call 13; go_loud (refine AD.out.mono ?_; rintro e w6 (⟨a, rfl, h3⟩ | ⟨E, rfl, hE, h3⟩)))
             | (go_at_call 14; go_loud (refine (MwTwo.done h3 HLO.out.1 h80 HLO.out.2).mono ?_; rintro e w7 ⟨rfl, h7⟩)))
           · go_roundw
             case rel => exact ⟨k2 + 1, by go_num, by omega, Lib.hid h7⟩
             case measure => simp [intOf]; omega
           · go_roundw
             case rel => exact ⟨k2 + 1, by go_num, by omega, Lib.hid h3⟩
             case measure => simp [intOf]; omega
         · have hge2 : ¬ (k2 : Int) < (n2 : Int) := by omega
           obtain ⟨now, Ln, hnb, hLt, hwo, ⟨A9, c9, e9, hrecs9⟩, hby⟩ := HM.out.bytes
           injection e9 with e91 e92 e93
           subst e91
           subst e93
           have hrecs : RecsR wr wr.heap.size A3 m c3 l := by rw [e92]; exact hrecs9
           clear hrecs9 e92
           rw [HNB.out] at hwo
           have HBY := Lib.hid hby
           have HNOW := Lib.hid (And.intro hnb (And.intro hLt (And.intro hwo hrecs)))
           clear hby hnb hLt hwo hrecs hlt2 HIN2
           have hb : Below wr.heap.size wr wr := Below.refl _ _
           obtain ⟨q1, q2, q3, q4, q5⟩ := HST.out.now HNOW.out.2.1 HNOW.out.1
           have hNBs : NB <= 100000000 := by have h1 := HFL.out.ed.small.2.2; have h2 := HNB.out; have h3 := HLO.out.1; omega
           have b2 : 0 + NB <= maxLen := by unfold maxLen; omega
           have b3 : (0 + NB) * 1 <= 140737488355328 := by omega
           have HQ := Lib.hid (And.intro q1 (And.intro q2 (And.intro q3 (And.intro q4 q5))))
           clear q1 q2 q3 q4 q5
           go_wp2_with (first
             | (go_at_call 15; go_loud (refine (HBY.out _ hb).mono ?_; rintro e w6 ⟨A6, N6, c6, rfl, hN6, ho6, hb6, hl6, hc6⟩; have HW6 := Lib.hid (And.intro hN6 (And.intro ho6 (And.intro hl6 hc6))); have hb := hb.trans (hb6.mono hb.size); have hs6 := hb6.size; clear hN6 ho6 hl6 hc6 hb6))
             | (at_builtin; have HBA := Lib.hid hb; go_loud (refine wpList_append_any _ rfl _ _ _ rfl w6.heap.size 5 i1 (.int .u8 0) 1 1 Tryz.underlying24 hi1 hy0 hy1 hy2 rfl (Nat.lt_succ_self 0) _ 0 [] rfl (World.ownsRow_lit _ #[] 0 (Nat.le_refl _) (Nat.zero_le _) rfl) wr.heap.size A5 NB c5 (cellsOf .u8 was) rfl (((Reads.of_own HNOW.out.2.2.1).below HBA.out).alloc HBA.out.size _) (cellsOf_one _ _) b2 b3 (by have := HBA.out.size; first | (simp; done) | (simp; omega)) ?_; intro v1 w7 hown1 hg1 hat1; rw [Nat.zero_add, List.nil_append] at hown1; obtain ⟨A7, c7, rfl, hc7, hc7m⟩ := own_form hown1; have hb7 := row_lit0 hg1; have hb := hb.trans (hb7.mono hb.size); have HO7 := Lib.hid (And.intro hown1 hb7); clear hb7 hg1 hat1 hown1)))
           obtain ⟨ho7, hb7⟩ := HO7.out
           obtain ⟨-, ho6, hl6, hc6⟩ := HW6.out
           have hNB0 : 0 < NB := by have := HNB.out; have := HQ.out.1; have := HLO.out.2; omega
           obtain ⟨g7, cur0, hA7, hg7, hbk7, -, -, hl7, ht7⟩ := row_open ho7 hNB0
           subst hA7
           have R3 : Hid (∃ cur c, MixR w7 w7 g7 c7 NB was now (fun j => ks.getD j false) 0 cur c) := Lib.hid ⟨cur0, was, hbk7, by rw [hl7, Nat.mul_one], by rw [Nat.mul_one] at ht7; exact ht7, MixAt.start (HFL.out.ed.bytes), Chg.refl _ _⟩
           have HB7 := Lib.hid hb
           have HG7 := Lib.hid hg7
           have HB3 : Hid (∀ wx, Chg (fun k => k = g7) w7 wx -> Below wr.heap.size wr wx) := Lib.hid (fun wx hx => hb.trans (hx.below hb.size (fun q _ e => by omega)))
           have HRW : Hid (∀ wx, Chg (fun k => k = g7) w7 wx -> Below W2.heap.size W2 wx) := Lib.hid (fun wx hx => HBL.out.trans ((HB3.out wx hx).mono HBL.out.size))
           have HRA : Hid (∀ wx, Chg (fun k => k = g7) w7 wx -> Reads wx wr.heap.size 1 A5 NB (cellsOf .u8 was)) := Lib.hid (fun wx hx => (Reads.of_own HNOW.out.2.2.1).below (HB3.out wx hx))
           have HRE : Hid (∀ wx, Chg (fun k => k = g7) w7 wx -> RecsR wx wr.heap.size A3 m c3 l /\ wr.heap.size <= wx.heap.size) := Lib.hid (fun wx hx => ⟨HNOW.out.2.2.2.below (HB3.out wx hx), (HB3.out wx hx).size⟩)
           have HBW : Hid (∀ wx, Chg (fun k => k = g7) w7 wx -> Below w.heap.size w wx) := Lib.hid (fun wx hx => by
             have e1 := HB2.out.trans (HBL.out.mono HB2.out.size)
             have e2 := e1.trans (hb.mono e1.size)
             exact e2.trans (hx.below e2.size (fun q _ e => by have := e1.size; omega)))
           clear ho7 hb7 hbk7 hl7 ht7 ho6 hb
           go_loopw [28] (fun s wr => ∃ (kk : Nat), s = .int .i64 kk /\ kk <= NB / 8 /\ Hid (∃ cur c, MixR w7 wr g7 c7 NB was now (fun j => ks.getD j false) kk cur c)) (fun s _ => NB - (intOf s).toNat)
           case atStart => exact ⟨0, rfl, Nat.zero_le _, R3⟩
           case round =>
             clear R3
             obtain ⟨kk, rfl, hkk, H⟩ := hrel
             have hquo : (NB : Int).tdiv 8 = ((NB / 8 : Nat) : Int) := by rw [Int.tdiv_eq_ediv_of_nonneg (by omega)]; omega
             by_cases hlt3 : kk < NB / 8
             · have v0 : (kk : Int) < ((NB / 8 : Nat) : Int) := by omega
               have hrd := HKP.out.reads.below (HBW.out _ H.out.choose_spec.choose_spec.chg)
               by_cases hkn3 : kk < nk
               · have v1 : (kk : Int) < (nk : Int) := by omega
                 obtain ⟨bk, ok, rfl, -, hck⟩ := hrd.bools (by omega)
                 have hcell := hck kk hkn3
                 cases hkv : ks.getD kk false with
                 | false =>
                   rw [hkv] at hcell
                   clear hck hrd
                   go_wp2
                   go_roundw
                   case rel => exact ⟨kk + 1, by go_num, by omega, Lib.hid (by obtain ⟨cur, c, hM⟩ := H.out; exact ⟨cur, c, hM.no hkv⟩)⟩
                   case measure => simp [intOf]; omega
                 | true =>
                   rw [hkv] at hcell
                   clear hck hrd
                   obtain ⟨cur, c, hM⟩ := H.out
                   have hNn : NB <= N6 := by have e1 := HQ.out.2.1; have e2 := HNB.out; rw [e2, <- HW6.out.1] at e1; exact e1
                   have ho6r := own_chg (own_below HW6.out.2.1 HO7.out.2) hM.chg (fun g hg e => by
                     have e1 := (HW6.out.2.1.lt g hg).2
                     have e2 := HG7.out
                     omega)
                   obtain ⟨b6, o6, hA6, -, h6c⟩ := (Reads.of_own ho6r).plain (by omega)
                   subst hA6
                   have H6C := Lib.hid h6c
                   have HMM := Lib.hid hM
                   have hne6 : ¬ c6 = 8 * kk := by omega
                   have hne7 : ¬ c7 = 8 * kk := by omega
                   clear h6c hM ho6r
                   go_wp2
                   have hi8 : 8 * kk + 8 <= NB := by omega
                   have u1 : IntKind.i64.wrap (8 * (kk : Int)) = 8 * (kk : Int) := by rw [IntKind.wrap_i64]; omega
                   have u2 : IntKind.i64.wrap (8 * (kk : Int) + 8) = 8 * (kk : Int) + 8 := by rw [IntKind.wrap_i64]; omega
                   have u3 : (0 : Int) <= 8 * (kk : Int) := by omega
                   have u4 : 8 * (kk : Int) + 8 <= (c7 : Int) := by omega
                   have u5 : 8 * (kk : Int) + 8 <= (c6 : Int) := by omega
                   have u6 : (8 * (kk : Int)).toNat = 8 * kk := by omega
                   have u7 : (8 * (kk : Int) + 8).toNat = 8 * kk + 8 := by omega
                   have u8 : (0 : Int) <= 8 * (kk : Int) + 8 := by omega
                   have u9 : 8 * (kk : Int) <= 8 * (kk : Int) + 8 := by omega
                   refine wp_region_z (S := fun _ => True) 14 (by kernel_rfl) trivial (fun hHeld => ?_)
                   refine takeZ_yes (i := 0) (v := ?_) rfl (by kernel_rfl) (by kernel_rfl) (by kernel_rfl) (by kernel_rfl) (fun _ _ _ h => h) (by kernel_rfl) ?_ (by assumption) ?_
                   rotate_left
                   · intro wz hSw; (try dsimp only at hSw); go_simp; try with_reducible rfl
                   simp only [Act.put, lS, lZ, lC]
                   refine takeZ_yes (i := 1) (v := ?_) rfl (by kernel_rfl) (by kernel_rfl) (by kernel_rfl) (by kernel_rfl) (fun _ _ _ h => h) (by kernel_rfl) ?_ (by assumption) ?_
                   rotate_left
                   · intro wz hSw; (try dsimp only at hSw); go_simp; try with_reducible rfl
                   simp only [Act.put, lS, lZ, lC]
                   refine takeZ_yes (i := 2) (v := ?_) rfl (by kernel_rfl) (by kernel_rfl) (by kernel_rfl) (by kernel_rfl) (fun _ _ _ h => h) (by kernel_rfl) ?_ (by assumption) ?_
                   rotate_left
                   · intro wz hSw; (try dsimp only at hSw); go_simp; try with_reducible rfl
                   simp only [Act.put, lS, lZ, lC]
                   refine takeZ_yes (i := 3) (v := ?_) rfl (by kernel_rfl) (by kernel_rfl) (by kernel_rfl) (by kernel_rfl) (fun _ _ _ h => h) (by kernel_rfl) ?_ (by assumption) ?_
                   rotate_left
                   · intro wz hSw; (try dsimp only at hSw); go_simp; try with_reducible rfl
                   simp only [Act.put, lS, lZ, lC]
                   refine takeZ_yes (i := 4) (v := ?_) rfl (by kernel_rfl) (by kernel_rfl) (by kernel_rfl) (by kernel_rfl) (fun _ _ _ h => h) (by kernel_rfl) ?_ (by assumption) ?_
                   rotate_left
                   · intro wz hSw; (try dsimp only at hSw); go_simp; try with_reducible rfl
                   simp only [Act.put, lS, lZ, lC]
                   refine takeZ_yes (i := 5) (v := ?_) rfl (by kernel_rfl) (by kernel_rfl) (by kernel_rfl) (by kernel_rfl) (fun _ _ _ h => h) (by kernel_rfl) ?_ (by assumption) ?_
                   rotate_left
                   · intro wz hSw; (try dsimp only at hSw); go_simp; try with_reducible rfl
                   simp only [Act.put, lS, lZ, lC]
                   refine takeZ_yes (i := 6) (v := ?_) rfl (by kernel_rfl) (by kernel_rfl) (by kernel_rfl) (by kernel_rfl) (fun _ _ _ h => h) (by kernel_rfl) ?_ (by assumption) ?_
                   rotate_left
                   · intro wz hSw; (try dsimp only at hSw); go_simp; try with_reducible rfl
                   simp only [Act.put, lS, lZ, lC]
                   refine takeZ_yes (i := 7) (v := ?_) rfl (by kernel_rfl) (by kernel_rfl) (by kernel_rfl) (by kernel_rfl) (fun _ _ _ h => h) (by kernel_rfl) ?_ (by assumption) ?_
                   rotate_left
                   · intro wz hSw; (try dsimp only at hSw); go_simp; try with_reducible rfl
                   simp only [Act.put, lS, lZ, lC]
                   refine takeZ_yes (i := 8) (v := ?_) rfl (by kernel_rfl) (by kernel_rfl) (by kernel_rfl) (by kernel_rfl) (fun _ _ _ h => h) (by kernel_rfl) ?_ (by assumption) ?_
                   rotate_left
                   · intro wz hSw; (try dsimp only at hSw); go_simp; try with_reducible rfl
                   simp only [Act.put, lS, lZ, lC]
                   refine takeZ_yes (i := 9) (v := ?_) rfl (by kernel_rfl) (by kernel_rfl) (by kernel_rfl) (by kernel_rfl) (fun _ _ _ h => h) (by kernel_rfl) ?_ (by assumption) ?_
                   rotate_left
                   · intro wz hSw; (try dsimp only at hSw); go_simp; try with_reducible rfl
                   simp only [Act.put, lS, lZ, lC]
                   refine takeZ_yes (i := 10) (v := ?_) rfl (by kernel_rfl) (by kernel_rfl) (by kernel_rfl) (by kernel_rfl) (fun _ _ _ h => h) (by kernel_rfl) ?_ (by assumption) ?_
                   rotate_left
                   · intro wz hSw; (try dsimp only at hSw); go_simp; try with_reducible rfl
                   simp only [Act.put, lS, lZ, lC]
                   refine takeZ_yes (i := 11) (v := ?_) rfl (by kernel_rfl) (by kernel_rfl) (by kernel_rfl) (by kernel_rfl) (fun _ _ _ h => h) (by kernel_rfl) ?_ (by assumption) ?_
                   rotate_left
                   · intro wz hSw; (try dsimp only at hSw); go_simp; try with_reducible rfl
                   simp only [Act.put, lS, lZ, lC]
                   refine takeZ_yes (i := 12) (v := ?_) rfl (by kernel_rfl) (by kernel_rfl) (by kernel_rfl) (by kernel_rfl) (fun _ _ _ h => h) (by kernel_rfl) ?_ (by assumption) ?_
                   rotate_left
                   · intro wz hSw; (try dsimp only at hSw); go_simp; try with_reducible rfl
                   simp only [Act.put, lS, lZ, lC]
                   refine takeZ_yes (i := 13) (v := ?_) rfl (by kernel_rfl) (by kernel_rfl) (by kernel_rfl) (by kernel_rfl) (fun _ _ _ h => h) (by kernel_rfl) ?_ (by assumption) ?_
                   rotate_left
                   · intro wz hSw; (try dsimp only at hSw); go_simp; try with_reducible rfl
                   simp only [Act.put, lS, lZ, lC]
                   refine wpAnyZ_ready (rs := [14]) (by kernel_rfl) (by simp) (AllReadyZ.last rfl (fun K hK => ?_))
                   have hlen8 : (cellsOf .u8 ((now.drop (8 * kk)).take 8)).length = 8 := by have := HW6.out.1; rw [cellsOf_length, List.length_take, List.length_drop]; omega
                   refine step_copy_blk rfl _ _ _ _ rfl 5 Tryz.underlying24 byteOne _ _ _ _ _ _ rfl rfl g7 (8 * kk) 8 cur 5 HMM.out.out.drew (cellsOf .u8 ((now.drop (8 * kk)).take 8)) hlen8 (by first | (show 8 = min _ _; omega) | (simp; done) | (simp; omega) | (simp [Nat.min_def]; done) | (simp [Nat.min_def]; omega)) (fun _ => ⟨by first | rfl | simp, _, by first | rfl | simp, fun j v hj => ?_⟩) (by have := HMM.out.len; omega) (cellsOf_one _ _) ?_
                   · have hjl : j < 8 := by
                       rcases Nat.lt_or_ge j 8 with e | e
                       · exact e
                       · rw [List.getElem?_eq_none (by omega)] at hj; cases hj
                     have h := H6C.out (8 * kk + j) (by omega)
                     have hnl : 8 * kk + j < now.length := by have := HW6.out.1; omega
                     rw [row_addC]
                     show wr.cell? _ = _
                     rw [Nat.add_assoc, h, <- hj]
                     unfold cellsOf
                     rw [List.getElem?_map, List.getElem?_take_of_lt hjl, List.getElem?_drop, List.getD_eq_getElem?_getD, List.getElem?_eq_getElem hnl]
                     rfl
                   · intro w8 hB8 hc8
                     refine hK.out _ _ ?_
                     clear hK K
                     refine wpAnyZ_done (by kernel_rfl) ?_ _
                     go_wp2
                     go_roundw
                     case rel => exact ⟨kk + 1, by go_num, by omega, Lib.hid ⟨_, _, HMM.out.yes HNB.out HNOW.out.1 (by have := HNB.out; have := HW6.out.1; omega) (by have := HNB.out; omega) hkv hc7 hB8.out hc8.drew0⟩⟩
                     case measure => simp [intOf]; omega
               · have v1 : ¬ (kk : Int) < (nk : Int) := by omega
                 have hkv : ks.getD kk false = false := by rw [List.getD_eq_getElem?_getD, List.getElem?_eq_none (by rw [HKP.out.len]; omega)]; rfl
                 clear hrd
                 go_wp2
                 go_roundw
                 case rel => exact ⟨kk + 1, by go_num, by omega, Lib.hid (by obtain ⟨cur, c, hM⟩ := H.out; exact ⟨cur, c, hM.no hkv⟩)⟩
                 case measure => simp [intOf]; omega
             · have hge3 : ¬ (kk : Int) < ((NB / 8 : Nat) : Int) := by omega
               have hquo3 : (NB : Int).tdiv 8 = ((NB / 8 : Nat) : Int) := by rw [Int.tdiv_eq_ediv_of_nonneg (by omega)]; omega
               obtain ⟨cur, c, hM⟩ := H.out
               have hkk8 : kk = NB / 8 := by omega
               have hal : was.length % 8 = 0 := by obtain ⟨l9, V, -⟩ := HST.out.ex; exact V.db.gb.al
               have MX := hM.mix.mixed hal (by rw [HNB.out]; exact hkk8)
               have hlat : Later (newK D F) was now Lw := (HST.out.later HNOW.out.2.1) ▸ HNOW.out.2.1
               have hcl : c.length = NB := by have h1 := MX.len; have h2 := HNB.out; omega
               have hnb500 : nb <= 500 := by have := HG2.out; omega
               have hzl : zs.length = nb := by have h1 := HBH.out.reads.1; rw [cellsOf_length] at h1; omega
               have hzb : AreB zs := fun z hz => wf_u8_bd (HBH.out.wf z hz)
               have hby : AreB (c ++ zs) := MX.by_.append hzb
               have hk256 : 256 <= newK D F := HK2.out
               have hkN : newK D F <= NB := by have := HQ.out.1; have := HNB.out; omega
               have hown7 : wr.ownsRow w6.heap.size 5 1 (.slice (some ⟨g7, 0, none⟩) NB c7) NB (cellsOf .u8 c) := hM.own HG7.out hc7 hc7m hcl
               have hch : Chg (fun k => k = g7) w7 wr := hM.chg
               obtain ⟨s1, s2⟩ := HST.out.mix (ys := zs) hlat MX
               obtain ⟨r1, r2, r3⟩ := HST.out.slot (ys := zs) (enc := encS 2 NB 0 0 0 1) hlat MX (encS_two (by have := HNB.out; omega)) (encS_bytes _ _ _ _ _ _)
               have hhd : c.take 192 = (newB 1 2 D F 0).take 192 := by
                 obtain ⟨L9, hL9⟩ := HFL.out.late
                 rw [(MX.head hlat hk256), hL9.head hk256, HB00.out]
               obtain ⟨o1, o2, o3⟩ := mixed_head (ys := zs) (t := (NB : Int)) HR.out (by have := HNB.out; omega) (by omega) (by omega) (by omega) hhd
               have hE := HST.out.scan.2
               rw [HNB.out] at s1 s2 r1 r2 r3 hE
               have hnn : NB + nb <= 549755813888 := by omega
               have HZL : (splice (c ++ zs) 64 (encS 2 NB 0 0 0 1)).length = NB + nb := by rw [splice_len _ _ _ (by rw [encS_two (by have := HNB.out; omega), List.length_append]; omega), List.length_append]; omega
               have hZb : AreB (splice (c ++ zs) 64 (encS 2 NB 0 0 0 1)) := splice_bytes hby (encS_bytes _ _ _ _ _ _) _
               have CU := Lib.hid (fun (wx : World) (A : Option Addr) (c9 B : Nat) (hr : Reads wx B 1 A (NB + nb) (cellsOf .u8 (c ++ zs))) (hB : B <= wx.heap.size) (hl : NB + nb <= c9) (hc : c9 <= 9223372036854775807) => cut_yes 1 2 D F 0 A (NB + nb) c9 (c ++ zs) NB Lw wx hr hB hby hl hc hnn HR.out hkN (by omega) s1 hE)
               rw [s2] at CU
               have WI := Lib.hid (fun (wx : World) (A : Option Addr) (c9 B : Nat) (hr : Reads wx B 1 A (NB + nb) (cellsOf .u8 (c ++ zs))) (hB : B <= wx.heap.size) (hl : NB + nb <= c9) (hc : c9 <= 9223372036854775807) => clwith_any A (NB + nb) c9 (c ++ zs) NB wx hr hB hl hc hnn (by omega) (encS_two (by have := HNB.out; omega)) (by omega) (by omega))
               have OP := Lib.hid (fun (wx : World) (G : Nat) (A : Option Addr) (c9 B : Nat) (ht : IsTable wx G) (hr : Reads wx B 1 A (NB + nb) (cellsOf .u8 (splice (c ++ zs) 64 (encS 2 NB 0 0 0 1)))) (hB : B <= wx.heap.size) (hl : NB + nb <= c9) (hc : c9 <= 9223372036854775807) => open_ok (lm := 1048576) (T := NB) (L := Lw) hr hB hZb hl hc hnn ht o1 o2 o3 rfl (by omega) hkN r1 hE)
               have e20 : ((1048576 : Nat) : Int) = 1048576 := rfl
               rw [e20] at OP
               clear e20
               obtain ⟨out, hout⟩ : ∃ out, (cutW D F Lw (splice (c ++ zs) 64 (encS 2 NB 0 0 0 1)) NB).1 = out := ⟨_, rfl⟩
               rw [hout] at OP r2 r3
               clear hout
               have HZL' := Lib.hid HZL
               have HST2 := Lib.hid (And.intro r2 r3)
               have hnw : IntKind.u64.wrap (NB : Int) = (NB : Int) := by rw [IntKind.wrap_u64]; omega
               have hbw : (0 : Int) <= 0 := by omega
               have HO7' := Lib.hid hown7
               have HCH := Lib.hid hch
               have HMI := Lib.hid (And.intro hcl hnb500)
               clear H hM MX hlat hzb hby hown7 hch s1 s2 r1 r2 r3 hhd o1 o2 o3 hE HZL hZb hcl hzl hal hkk8 hlt3 HQ HNOW HMO HBY
               go_wp2
               obtain ⟨W3, hW3, X3⟩ : ∃ W3, wr.alloc (.cells #[.int .u64 2, .int .u64 (NB : Int), .int .u64 0, .int .u64 0, .int .u64 0, .int .u64 1] 47) = W3 /\ Hid (Blk W3 wr.heap.size 47 #[.int .u64 2, .int .u64 (NB : Int), .int .u64 0, .int .u64 0, .int .u64 0, .int .u64 1] /\ Chg (fun k => k = g7) w7 W3 /\ W3.ownsRow w6.heap.size 5 1 (.slice (some ⟨g7, 0, none⟩) NB c7) NB (cellsOf .u8 c) /\ w6.heap.size <= W3.heap.size /\ g7 < wr.heap.size) := ⟨_, rfl, Lib.hid ⟨Blk.new _ _ _, HCH.out.alloc _, own_below HO7'.out (boxed wr _), by have h1 := (HO7'.out.lt g7 rfl); have h2 := (boxed wr (.cells #[.int .u64 2, .int .u64 (NB : Int), .int .u64 0, .int .u64 0, .int .u64 0, .int .u64 1] 47)).size; omega, (HO7'.out.lt g7 rfl).2⟩⟩
               rw [hW3]
               obtain ⟨gs, hgs⟩ : ∃ gs, wr.heap.size = gs := ⟨_, rfl⟩
               rw [hgs] at X3
               try rw [hgs]
               clear hW3 hgs
               have HS := Lib.hid (fun wx (hx : Chg (fun k => k = g7) w7 wx) => (HD.out wx (HRW.out wx hx)).1)
               refine wp_region_z (S := fun w' => w'.cell? ⟨g1, 0, none⟩ = some (.int .u64 1) /\ w'.cell? ⟨g1, 1, none⟩ = some (.int .u64 2) /\ w'.cell? ⟨g1, 2, none⟩ = some (.int .i64 D) /\ w'.cell? ⟨g1, 3, none⟩ = some (.int .i64 F) /\ w'.cell? ⟨g1, 4, none⟩ = some (.int .u64 0)) 13 (by kernel_rfl) (HS.out _ X3.out.2.1.drew) (fun hHeld => ?_)
               refine takeZ_yes (i := 0) (v := ?_) rfl (by kernel_rfl) (by kernel_rfl) (by kernel_rfl) (by kernel_rfl) (fun _ _ _ h => h) (by kernel_rfl) ?_ (by assumption) ?_
               rotate_left
               · intro wz hSw; (try dsimp only at hSw); go_simp; try with_reducible rfl
               simp only [Act.put, lS, lZ, lC]
               refine takeZ_yes (i := 1) (v := ?_) rfl (by kernel_rfl) (by kernel_rfl) (by kernel_rfl) (by kernel_rfl) (fun _ _ _ h => h) (by kernel_rfl) ?_ (by assumption) ?_
               rotate_left
               · intro wz hSw; (try dsimp only at hSw); go_simp; try with_reducible rfl
               simp only [Act.put, lS, lZ, lC]
               refine takeZ_yes (i := 2) (v := ?_) rfl (by kernel_rfl) (by kernel_rfl) (by kernel_rfl) (by kernel_rfl) (fun _ _ _ h => h) (by kernel_rfl) ?_ (by assumption) ?_
               rotate_left
               · intro wz hSw; (try dsimp only at hSw); go_simp; try with_reducible rfl
               simp only [Act.put, lS, lZ, lC]
               refine takeZ_yes (i := 4) (v := ?_) rfl (by kernel_rfl) (by kernel_rfl) (by kernel_rfl) (by kernel_rfl) (fun _ _ _ h => h) (by kernel_rfl) ?_ (by assumption) ?_
               rotate_left
               · intro wz hSw; (try dsimp only at hSw); go_simp; try with_reducible rfl
               simp only [Act.put, lS, lZ, lC]
               refine takeZ_yes (i := 5) (v := ?_) rfl (by kernel_rfl) (by kernel_rfl) (by kernel_rfl) (by kernel_rfl) (fun _ _ _ h => h) (by kernel_rfl) ?_ (by assumption) ?_
               rotate_left
               · intro wz hSw; (try dsimp only at hSw); go_simp; try with_reducible rfl
               simp only [Act.put, lS, lZ, lC]
               refine wpAnyZ_ready (rs := [3]) (by kernel_rfl) (by simp) (AllReadyZ.cons rfl (fun K hK => ?_) AllReadyZ.nil)
               refine step_append_both rfl _ _ _ rfl w6.heap.size 5 i1 (.int .u8 0) 1 Tryz.underlying24 hi1 hy0 hy1 hy2 rfl g7 NB c7 (cellsOf .u8 c) rfl X3.out.2.2.1 w.heap.size Ab nb cb (cellsOf .u8 zs) rfl (HBH.out.reads.below (HBW.out _ X3.out.2.1.drew)) (cellsOf_one _ _) (by unfold maxLen; have := HMI.out.2; omega) (by have := HMI.out.2; omega) X3.out.2.2.2.1 ?_
               intro v8 w8 hown8 hg8 hat8 hown8b
               rw [<- cellsOf_append] at hown8
               obtain ⟨A8, c8, rfl, hc8, hc8m⟩ := own_form hown8
               have hch8 : Chg (fun k => k = g7) w7 w8 := X3.out.2.1.drew.trans ((Chg.of_grown hg8).mono (fun k _ e => (Option.some.inj e).symm)) (fun _ _ e => e)
               have HS8 := Lib.hid (X3.out.1.drew.grown hg8 (fun e => by have h1 := Option.some.inj e; have h2 := X3.out.2.2.2.2; omega))
               have HO8 := Lib.hid (And.intro hown8b hch8)
               refine hK.out _ _ (HS.out _ hch8) (fun hHeld => ?_)
               clear hK K
               try simp only [Act.put, lS, lZ, lC]
               refine wpAnyZ_ready (rs := [6]) (by kernel_rfl) (by simp) (AllReadyZ.cons rfl (fun K hK => ?_) AllReadyZ.nil)
               go_simp
               go_at_call 16
               refine (CU.out _ _ _ _ (Reads.of_own hown8) (Nat.le_refl _) hc8 hc8m).mono ?_
               rintro e w9 ⟨A9', c9', v9, rfl, ho9, hv9, hc9, hc9m, hb9⟩
               have hch9 := HO8.out.2.trans (Chg.of_below hb9 (Nat.le_refl _) _) (fun _ _ e => e)
               refine hK.out _ _ (HS.out _ hch9) (fun hHeld => ?_)
               clear hK K
               try simp only [Act.put, lS, lZ, lC]
               refine takeZ_yes (i := 7) (v := ?_) rfl (by kernel_rfl) (by kernel_rfl) (by kernel_rfl) (by kernel_rfl) (fun _ _ _ h => h) (by kernel_rfl) ?_ (by assumption) ?_
               rotate_left
               · intro wz hSw; (try dsimp only at hSw); go_simp; try with_reducible rfl
               simp only [Act.put, lS, lZ, lC]
               refine takeZ_yes (i := 8) (v := ?_) rfl (by kernel_rfl) (by kernel_rfl) (by kernel_rfl) (by kernel_rfl) (fun _ _ _ h => h) (by kernel_rfl) ?_ (by assumption) ?_
               rotate_left
               · intro wz hSw; (try dsimp only at hSw); go_simp; try with_reducible rfl
               simp only [Act.put, lS, lZ, lC]
               refine takeZ_yes (i := 9) (v := ?_) rfl (by kernel_rfl) (by kernel_rfl) (by kernel_rfl) (by kernel_rfl) (fun _ _ _ h => h) (by kernel_rfl) ?_ (by assumption) ?_
               rotate_left
               · intro wz hSw; (try dsimp only at hSw); go_simp; try with_reducible rfl
               simp only [Act.put, lS, lZ, lC]
               refine takeZ_yes (i := 10) (v := ?_) rfl (by kernel_rfl) (by kernel_rfl) (by kernel_rfl) (by kernel_rfl) (fun _ _ _ h => h) (by kernel_rfl) ?_ (by assumption) ?_
               rotate_left
               · intro wz hSw; (try dsimp only at hSw); go_simp; try with_reducible rfl
               simp only [Act.put, lS, lZ, lC]
               refine takeZ_yes (i := 11) (v := ?_) rfl (by kernel_rfl) (by kernel_rfl) (by kernel_rfl) (by kernel_rfl) (fun _ _ _ h => h) (by kernel_rfl) ?_ (by assumption) ?_
               rotate_left
               · intro wz hSw; (try dsimp only at hSw); go_simp; try with_reducible rfl
               simp only [Act.put, lS, lZ, lC]
               refine takeZ_yes (i := 12) (v := ?_) rfl (by kernel_rfl) (by kernel_rfl) (by kernel_rfl) (by kernel_rfl) (fun _ _ _ h => h) (by kernel_rfl) ?_ (by assumption) ?_
               rotate_left
               · intro wz hSw; (try dsimp only at hSw); go_simp; try with_reducible rfl
               simp only [Act.put, lS, lZ, lC]
               refine wpAnyZ_ready (rs := [13]) (by kernel_rfl) (by simp) (AllReadyZ.last rfl (fun K hK => ?_))
               go_simp
               refine hK.out _ _ ?_
               clear hK K
               refine wpAnyZ_done (by kernel_rfl) ?_ _
               have HS9 := Lib.hid (HS8.out.below hb9 HS8.out.lt)
               have HO9 := Lib.hid (And.intro ho9 (And.intro hv9 (And.intro hc9 (And.intro hc9m (And.intro (own_below HO8.out.1 hb9) (And.intro hch9 hb9.size))))))
               clear hHeld hown8 hg8 hat8 hown8b hch8 ho9 hv9 hc9 hc9m hb9 hch9
               go_wp2
               have HSL := Lib.hid (fun wx (hx : Chg (fun k => k = g7) w9 wx) => slAt_blk (HS9.out.chg hx (fun e => by have := X3.out.2.2.2.2; omega)))
               have HCU := Lib.hid (fun wx (hx : Chg (fun k => k = g7) w9 wx) => HO9.out.2.2.2.2.2.1.trans hx (fun _ _ e => e))
               have HSZ : Hid (w6.heap.size <= g7 /\ g7 < w9.heap.size) := Lib.hid (HO9.out.2.2.2.2.1.lt g7 rfl)
               go_cut [33, 36] (fun s33 s36 wx => ∃ (p2 base : Nat) (S13 : Nat -> Prop), s33 = .pointer (some ⟨p2, 0, none⟩) /\ s36 = .int .i64 0 /\ Hid (ED 1 0 2 D F wx base S13 p2 1048576 out R O Lr NB /\ Chg (fun k => k = g7) w9 wx))
               case first =>
                 have hb : Below w9.heap.size w9 w9.drew := below_drewn (Below.refl _ _) 1
                 have hC : Chg (fun k => k = g7) w9 w9.drew := (Chg.refl _ _).drew
                 refine wp_region_z (S := fun w' => w'.cell? ⟨gs, 0, none⟩ = some (.int .u64 2) /\ w'.cell? ⟨gs, 1, none⟩ = some (.int .u64 (NB : Int)) /\ w'.cell? ⟨gs, 2, none⟩ = some (.int .u64 0) /\ w'.cell? ⟨gs, 3, none⟩ = some (.int .u64 0) /\ w'.cell? ⟨gs, 4, none⟩ = some (.int .u64 0) /\ w'.cell? ⟨gs, 5, none⟩ = some (.int .u64 1)) 16 (by kernel_rfl) (HSL.out _ hC) (fun hHeld => ?_)
                 refine takeZ_yes (i := 1) (v := ?_) rfl (by kernel_rfl) (by kernel_rfl) (by kernel_rfl) (by kernel_rfl) (fun _ _ _ h => h) (by kernel_rfl) ?_ (by assumption) ?_
                 rotate_left
                 · intro wz hSw; (try dsimp only at hSw); go_simp; try with_reducible rfl
                 simp only [Act.put, lS, lZ, lC]
                 refine takeZ_yes (i := 2) (v := ?_) rfl (by kernel_rfl) (by kernel_rfl) (by kernel_rfl) (by kernel_rfl) (fun _ _ _ h => h) (by kernel_rfl) ?_ (by assumption) ?_
                 rotate_left
                 · intro wz hSw; (try dsimp only at hSw); go_simp; try with_reducible rfl
                 simp only [Act.put, lS, lZ, lC]
                 refine takeZ_yes (i := 4) (v := ?_) rfl (by kernel_rfl) (by kernel_rfl) (by kernel_rfl) (by kernel_rfl) (fun _ _ _ h => h) (by kernel_rfl) ?_ (by assumption) ?_
                 rotate_left
                 · intro wz hSw; (try dsimp only at hSw); go_simp; try with_reducible rfl
                 simp only [Act.put, lS, lZ, lC]
                 refine wpAnyZ_ready (rs := [0, 12]) (by kernel_rfl) (by simp) (AllReadyZ.cons rfl (fun K hK => ?_) (AllReadyZ.cons rfl (fun K hK => ?_) AllReadyZ.nil))
                 · go_simp
                   go_at_call 11
                   refine (crcMake_box _).mono ?_
                   rintro e w10 ⟨G, hGe, rfl, hT, hbM⟩
                   have hGg : g7 < G := by have h1 := HSZ.out; have h2 := hC.size; omega
                   have hC := hC.trans (Chg.of_below hbM (Nat.le_refl _) (fun k => k = g7)) (fun _ _ e => e)
                   have hb := hb.trans (hbM.mono hb.size)
                   have hcs : w9.heap.size <= w10.heap.size := hC.size
                   refine hK.out _ _ (HSL.out _ hC) (fun hHeld => ?_)
                   clear hbM hGe
                   clear hK K
                   try simp only [Act.put, lS, lZ, lC]
                   refine wpAnyZ_ready (rs := [3, 12]) (by kernel_rfl) (by simp) (AllReadyZ.cons rfl (fun K hK => ?_) (AllReadyZ.cons rfl (fun K hK => ?_) AllReadyZ.nil))
                   · refine step_append_both rfl _ _ _ rfl w6.heap.size 5 i1 (.int .u8 0) 1 Tryz.underlying24 hi1 hy0 hy1 hy2 rfl g7 NB c7 (cellsOf .u8 c) rfl (own_below HO9.out.2.2.2.2.1 hb) w.heap.size Ab nb cb (cellsOf .u8 zs) rfl (HBH.out.reads.below (HBW.out _ (HCU.out _ hC))) (cellsOf_one _ _) (by unfold maxLen; have := HMI.out.2; omega) (by have := HMI.out.2; omega) (by have := HSZ.out; have := hb.size; omega) ?_
                     intro v11 w11 hr hg11 hat11 hown11b
                     rw [<- cellsOf_append] at hr
                     obtain ⟨A11, c11, rfl, hc11, hc11m⟩ := own_form hr
                     have hC := hC.trans ((Chg.of_grown hg11).mono (T := fun k => k = g7) (fun k _ e => (Option.some.inj e).symm)) (fun _ _ e => e)
                     have hT : IsTable w11 G := Blk.grown hT hg11 (fun e => by have h1 := Option.some.inj e; omega)
                     have hcs : w9.heap.size <= w11.heap.size := hC.size
                     refine hK.out _ _ (HSL.out _ hC) (fun hHeld => ?_)
                     clear hg11 hat11 hown11b hb
                     clear hK K
                     try simp only [Act.put, lS, lZ, lC]
                     refine wpAnyZ_ready (rs := [5, 12]) (by kernel_rfl) (by simp) (AllReadyZ.cons rfl (fun K hK => ?_) (AllReadyZ.cons rfl (fun K hK => ?_) AllReadyZ.nil))
                     · go_simp
                       go_at_call 18
                       refine (WI.out _ _ _ _ (Reads.of_own hr) (Nat.le_refl _) hc11 hc11m).mono ?_
                       rintro e w12 ⟨A12, N12, c12, rfl, hN12, ho12, hb12, hl12, hc12⟩
                       have hN12' : NB + nb = N12 := (hN12.trans HZL'.out).symm
                       subst hN12'
                       clear hN12
                       have hC := hC.trans (Chg.of_below hb12 (Nat.le_refl _) (fun k => k = g7)) (fun _ _ e => e)
                       have hT : IsTable w12 G := IsTable.below hT hb12 (Blk.lt hT)
                       have hcs : w9.heap.size <= w12.heap.size := hC.size
                       refine hK.out _ _ (HSL.out _ hC) (fun hHeld => ?_)
                       clear hr hb12 hc11 hc11m
                       clear hK K
                       try simp only [Act.put, lS, lZ, lC]
                       refine wpAnyZ_ready (rs := [6, 12]) (by kernel_rfl) (by simp) (AllReadyZ.cons rfl (fun K hK => ?_) (AllReadyZ.cons rfl (fun K hK => ?_) AllReadyZ.nil))
                       · go_simp
                         go_at_call 17
                         refine (OP.out w12 G A12 c12 _ hT (Reads.of_own ho12) (Nat.le_refl _) hl12 hc12).mono ?_
                         rintro e w13 ⟨p2, v2, bv, sv, rfl, hv2, hix, hb13⟩
                         have hC := hC.trans (Chg.of_below hb13 (Nat.le_refl _) (fun k => k = g7)) (fun _ _ e => e)
                         have hcs : w9.heap.size <= w13.heap.size := hC.size
                         refine hK.out _ _ (HSL.out _ hC) (fun hHeld => ?_)
                         clear hT ho12 hb13 hl12 hc12 hv2
                         clear hK K
                         try simp only [Act.put, lS, lZ, lC]
                         refine takeZ_yes (i := 7) (v := ?_) rfl (by kernel_rfl) (by kernel_rfl) (by kernel_rfl) (by kernel_rfl) (fun _ _ _ h => h) (by kernel_rfl) ?_ (by assumption) ?_
                         rotate_left
                         · intro wz hSw; (try dsimp only at hSw); go_simp; try with_reducible rfl
                         simp only [Act.put, lS, lZ, lC]
                         refine takeZ_yes (i := 8) (v := ?_) rfl (by kernel_rfl) (by kernel_rfl) (by kernel_rfl) (by kernel_rfl) (fun _ _ _ h => h) (by kernel_rfl) ?_ (by assumption) ?_
                         rotate_left
                         · intro wz hSw; (try dsimp only at hSw); go_simp; try with_reducible rfl
                         simp only [Act.put, lS, lZ, lC]
                         refine takeZ_yes (i := 9) (v := ?_) rfl (by kernel_rfl) (by kernel_rfl) (by kernel_rfl) (by kernel_rfl) (fun _ _ _ h => h) (by kernel_rfl) ?_ (by assumption) ?_
                         rotate_left
                         · intro wz hSw; (try dsimp only at hSw); go_simp; try with_reducible rfl
                         simp only [Act.put, lS, lZ, lC]
                         refine takeZ_yes (i := 10) (v := ?_) rfl (by kernel_rfl) (by kernel_rfl) (by kernel_rfl) (by kernel_rfl) (fun _ _ _ h => h) (by kernel_rfl) ?_ (by assumption) ?_
                         rotate_left
                         · intro wz hSw; (try dsimp only at hSw); go_simp; try with_reducible rfl
                         simp only [Act.put, lS, lZ, lC]
                         refine takeZ_yes (i := 11) (v := ?_) rfl (by kernel_rfl) (by kernel_rfl) (by kernel_rfl) (by kernel_rfl) (fun _ _ _ h => h) (by kernel_rfl) ?_ (by assumption) ?_
                         rotate_left
                         · intro wz hSw; (try dsimp only at hSw); go_simp; try with_reducible rfl
                         simp only [Act.put, lS, lZ, lC]
                         refine wpAnyZ_ready (rs := [12]) (by kernel_rfl) (by simp) (AllReadyZ.cons rfl (fun K hK => ?_) AllReadyZ.nil)
                         go_simp
                         obtain ⟨xA, hxA⟩ : ∃ xA, w13.alloc (.cells #[.int .u64 0, .int .u64 0, .int .u64 0, .int .u64 0, .int .u64 0, .int .u64 0] 51) = xA := ⟨_, rfl⟩
                         have hbA : Below w13.heap.size w13 xA := hxA ▸ boxed w13 _
                         have hB : Blk xA w13.heap.size 51 sZC := hxA ▸ Blk.new w13 _ _
                         have hC := hC.trans (Chg.of_below hbA (Nat.le_refl _) (fun k => k = g7)) (fun _ _ e => e)
                         try rw [hxA]
                         obtain ⟨gb, hgb0⟩ : ∃ gb, w13.heap.size = gb := ⟨_, rfl⟩
                         have hgb : w9.heap.size <= gb := by have := hC.size; have := hgb0; have := hcs; omega
                         have hB : Blk xA gb 51 sZC := by rw [<- hgb0]; exact hB
                         try rw [hgb0]
                         have hix := hix.below hbA
                         have hgx : gb < w12.heap.size ∨ w13.heap.size <= gb := .inr (by omega)
                         have hcs : w9.heap.size <= xA.heap.size := hC.size
                         refine hK.out _ _ (HSL.out _ hC) (fun hHeld => ?_)
                         clear hxA hbA hgb0
                         clear hK K
                         try simp only [Act.put, lS, lZ, lC]
                         refine takeZ_yes (i := 13) (v := ?_) rfl (by kernel_rfl) (by kernel_rfl) (by kernel_rfl) (by kernel_rfl) (fun _ _ _ h => h) (by kernel_rfl) ?_ (by assumption) ?_
                         rotate_left
                         · intro wz hSw; (try dsimp only at hSw); go_simp; try with_reducible rfl
                         simp only [Act.put, lS, lZ, lC]
                         obtain ⟨z0, z1, z2, z3, z4, z5⟩ := slAt_blk hB
                         obtain ⟨f0, f1, f2, f3, f4, f5⟩ : _ /\ _ /\ _ /\ _ /\ _ /\ _ := ⟨hB.frozen 0, hB.frozen 1, hB.frozen 2, hB.frozen 3, hB.frozen 4, hB.frozen 5⟩
                         refine wpAnyZ_ready (rs := [14]) (by kernel_rfl) (by simp) (AllReadyZ.cons rfl (fun K hK => ?_) AllReadyZ.nil)
                         go_simp
                         have hC := ((((((hC.setCell (p := ⟨gb, 0, none⟩) (.inl hgb) (.int .u64 2)).setCell (p := ⟨gb, 1, none⟩) (.inl hgb) (.int .u64 (NB : Int))).setCell (p := ⟨gb, 2, none⟩) (.inl hgb) (.int .u64 0)).setCell (p := ⟨gb, 3, none⟩) (.inl hgb) (.int .u64 0)).setCell (p := ⟨gb, 4, none⟩) (.inl hgb) (.int .u64 0)).setCell (p := ⟨gb, 5, none⟩) (.inl hgb) (.int .u64 1))
                         refine hK.out _ _ (HSL.out _ hC) (fun hHeld => ?_)
                         clear z0 z1 z2 z3 z4 z5 f0 f1 f2 f3 f4 f5
                         clear hK K
                         try simp only [Act.put, lS, lZ, lC]
                         refine takeZ_yes (i := 15) (v := ?_) rfl (by kernel_rfl) (by kernel_rfl) (by kernel_rfl) (by kernel_rfl) (fun _ _ _ h => h) (by kernel_rfl) ?_ (by assumption) ?_
                         rotate_left
                         · intro wz hSw; (try dsimp only at hSw); go_simp; try with_reducible rfl
                         simp only [Act.put, lS, lZ, lC]
                         refine wpAnyZ_ready (rs := [16]) (by kernel_rfl) (by simp) (AllReadyZ.last rfl (fun K hK => ?_))
                         go_simp
                         refine hK.out _ _ ?_
                         clear hK K
                         refine wpAnyZ_done (by kernel_rfl) ?_ _
                         clear hHeld
                         go_wp2
                         go_meet
                         exact ⟨p2, _, _, rfl, rfl, Lib.hid ⟨HST2.out.1.loaded (hix.keep sl_chg (fun j hj e => by have h1 := hj.1; have h2 := hj.2; omega)) (Nat.le_refl _) (Nat.le_of_eq HST2.out.2) HFL.out.ed.key_, hC⟩⟩
                       · go_simp
                         obtain ⟨xA, hxA⟩ : ∃ xA, w12.alloc (.cells #[.int .u64 0, .int .u64 0, .int .u64 0, .int .u64 0, .int .u64 0, .int .u64 0] 51) = xA := ⟨_, rfl⟩
                         have hbA : Below w12.heap.size w12 xA := hxA ▸ boxed w12 _
                         have hB : Blk xA w12.heap.size 51 sZC := hxA ▸ Blk.new w12 _ _
                         have hC := hC.trans (Chg.of_below hbA (Nat.le_refl _) (fun k => k = g7)) (fun _ _ e => e)
                         try rw [hxA]
                         obtain ⟨gb, hgb0⟩ : ∃ gb, w12.heap.size = gb := ⟨_, rfl⟩
                         have hgb : w9.heap.size <= gb := by have := hC.size; have := hgb0; have := hcs; omega
                         have hB : Blk xA gb 51 sZC := by rw [<- hgb0]; exact hB
                         try rw [hgb0]
                         have hT := IsTable.below hT hbA (Blk.lt hT)
                         have ho12 := own_below ho12 hbA
                         have hcs : w9.heap.size <= xA.heap.size := hC.size
                         refine hK.out _ _ (HSL.out _ hC) (fun hHeld => ?_)
                         clear hxA hbA hgb0
                         clear hK K
                         try simp only [Act.put, lS, lZ, lC]
                         refine wpAnyZ_ready (rs := [6]) (by kernel_rfl) (by simp) (AllReadyZ.cons rfl (fun K hK => ?_) AllReadyZ.nil)
                         go_simp
                         go_at_call 17
                         refine (OP.out xA G A12 c12 _ hT (Reads.of_own ho12) (Nat.le_refl _) hl12 hc12).mono ?_
                         rintro e w13 ⟨p2, v2, bv, sv, rfl, hv2, hix, hb13⟩
                         have hC := hC.trans (Chg.of_below hb13 (Nat.le_refl _) (fun k => k = g7)) (fun _ _ e => e)
                         have hgx : gb < xA.heap.size ∨ w13.heap.size <= gb := .inl hB.lt
                         have hB := hB.below hb13 hB.lt
                         have hcs : w9.heap.size <= w13.heap.size := hC.size
                         refine hK.out _ _ (HSL.out _ hC) (fun hHeld => ?_)
                         clear hT ho12 hb13 hl12 hc12 hv2
                         clear hK K
                         try simp only [Act.put, lS, lZ, lC]
                         refine takeZ_yes (i := 7) (v := ?_) rfl (by kernel_rfl) (by kernel_rfl) (by kernel_rfl) (by kernel_rfl) (fun _ _ _ h => h) (by kernel_rfl) ?_ (by assumption) ?_
                         rotate_left
                         · intro wz hSw; (try dsimp only at hSw); go_simp; try with_reducible rfl
                         simp only [Act.put, lS, lZ, lC]
                         refine takeZ_yes (i := 8) (v := ?_) rfl (by kernel_rfl) (by kernel_rfl) (by kernel_rfl) (by kernel_rfl) (fun _ _ _ h => h) (by kernel_rfl) ?_ (by assumption) ?_
                         rotate_left
                         · intro wz hSw; (try dsimp only at hSw); go_simp; try with_reducible rfl
                         simp only [Act.put, lS, lZ, lC]
                         refine takeZ_yes (i := 9) (v := ?_) rfl (by kernel_rfl) (by kernel_rfl) (by kernel_rfl) (by kernel_rfl) (fun _ _ _ h => h) (by kernel_rfl) ?_ (by assumption) ?_
                         rotate_left
                         · intro wz hSw; (try dsimp only at hSw); go_simp; try with_reducible rfl
                         simp only [Act.put, lS, lZ, lC]
                         refine takeZ_yes (i := 10) (v := ?_) rfl (by kernel_rfl) (by kernel_rfl) (by kernel_rfl) (by kernel_rfl) (fun _ _ _ h => h) (by kernel_rfl) ?_ (by assumption) ?_
                         rotate_left
                         · intro wz hSw; (try dsimp only at hSw); go_simp; try with_reducible rfl
                         simp only [Act.put, lS, lZ, lC]
                         refine takeZ_yes (i := 11) (v := ?_) rfl (by kernel_rfl) (by kernel_rfl) (by kernel_rfl) (by kernel_rfl) (fun _ _ _ h => h) (by kernel_rfl) ?_ (by assumption) ?_
                         rotate_left
                         · intro wz hSw; (try dsimp only at hSw); go_simp; try with_reducible rfl
                         simp only [Act.put, lS, lZ, lC]
                         refine takeZ_yes (i := 13) (v := ?_) rfl (by kernel_rfl) (by kernel_rfl) (by kernel_rfl) (by kernel_rfl) (fun _ _ _ h => h) (by kernel_rfl) ?_ (by assumption) ?_
                         rotate_left
                         · intro wz hSw; (try dsimp only at hSw); go_simp; try with_reducible rfl
                         simp only [Act.put, lS, lZ, lC]
                         obtain ⟨z0, z1, z2, z3, z4, z5⟩ := slAt_blk hB
                         obtain ⟨f0, f1, f2, f3, f4, f5⟩ : _ /\ _ /\ _ /\ _ /\ _ /\ _ := ⟨hB.frozen 0, hB.frozen 1, hB.frozen 2, hB.frozen 3, hB.frozen 4, hB.frozen 5⟩
                         refine wpAnyZ_ready (rs := [14]) (by kernel_rfl) (by simp) (AllReadyZ.cons rfl (fun K hK => ?_) AllReadyZ.nil)
                         go_simp
                         have hC := ((((((hC.setCell (p := ⟨gb, 0, none⟩) (.inl hgb) (.int .u64 2)).setCell (p := ⟨gb, 1, none⟩) (.inl hgb) (.int .u64 (NB : Int))).setCell (p := ⟨gb, 2, none⟩) (.inl hgb) (.int .u64 0)).setCell (p := ⟨gb, 3, none⟩) (.inl hgb) (.int .u64 0)).setCell (p := ⟨gb, 4, none⟩) (.inl hgb) (.int .u64 0)).setCell (p := ⟨gb, 5, none⟩) (.inl hgb) (.int .u64 1))
                         refine hK.out _ _ (HSL.out _ hC) (fun hHeld => ?_)
                         clear z0 z1 z2 z3 z4 z5 f0 f1 f2 f3 f4 f5
                         clear hK K
                         try simp only [Act.put, lS, lZ, lC]
                         refine takeZ_yes (i := 15) (v := ?_) rfl (by kernel_rfl) (by kernel_rfl) (by kernel_rfl) (by kernel_rfl) (fun _ _ _ h => h) (by kernel_rfl) ?_ (by assumption) ?_
                         rotate_left
                         · intro wz hSw; (try dsimp only at hSw); go_simp; try with_reducible rfl
                         simp only [Act.put, lS, lZ, lC]
                         refine wpAnyZ_ready (rs := [16]) (by kernel_rfl) (by simp) (AllReadyZ.last rfl (fun K hK => ?_))
                         go_simp
                         refine hK.out _ _ ?_
                         clear hK K
                         refine wpAnyZ_done (by kernel_rfl) ?_ _
                         clear hHeld
                         go_wp2
                         go_meet
                         exact ⟨p2, _, _, rfl, rfl, Lib.hid ⟨HST2.out.1.loaded (hix.keep sl_chg (fun j hj e => by have h1 := hj.1; have h2 := hj.2; omega)) (Nat.le_refl _) (Nat.le_of_eq HST2.out.2) HFL.out.ed.key_, hC⟩⟩
                     · go_simp
                       obtain ⟨xA, hxA⟩ : ∃ xA, w11.alloc (.cells #[.int .u64 0, .int .u64 0, .int .u64 0, .int .u64 0, .int .u64 0, .int .u64 0] 51) = xA := ⟨_, rfl⟩
                       have hbA : Below w11.heap.size w11 xA := hxA ▸ boxed w11 _
                       have hB : Blk xA w11.heap.size 51 sZC := hxA ▸ Blk.new w11 _ _
                       have hC := hC.trans (Chg.of_below hbA (Nat.le_refl _) (fun k => k = g7)) (fun _ _ e => e)
                       try rw [hxA]
                       obtain ⟨gb, hgb0⟩ : ∃ gb, w11.heap.size = gb := ⟨_, rfl⟩
                       have hgb : w9.heap.size <= gb := by have := hC.size; have := hgb0; have := hcs; omega
                       have hB : Blk xA gb 51 sZC := by rw [<- hgb0]; exact hB
                       try rw [hgb0]
                       have hT := IsTable.below hT hbA (Blk.lt hT)
                       have hr := own_below hr hbA
                       have hcs : w9.heap.size <= xA.heap.size := hC.size
                       refine hK.out _ _ (HSL.out _ hC) (fun hHeld => ?_)
                       clear hxA hbA hgb0
                       clear hK K
                       try simp only [Act.put, lS, lZ, lC]
                       refine wpAnyZ_ready (rs := [5]) (by kernel_rfl) (by simp) (AllReadyZ.cons rfl (fun K hK => ?_) AllReadyZ.nil)
                       go_simp
                       go_at_call 18
                       refine (WI.out _ _ _ _ (Reads.of_own hr) (Nat.le_refl _) hc11 hc11m).mono ?_
                       rintro e w12 ⟨A12, N12, c12, rfl, hN12, ho12, hb12, hl12, hc12⟩
                       have hN12' : NB + nb = N12 := (hN12.trans HZL'.out).symm
                       subst hN12'
                       clear hN12
                       have hC := hC.trans (Chg.of_below hb12 (Nat.le_refl _) (fun k => k = g7)) (fun _ _ e => e)
                       have hT : IsTable w12 G := IsTable.below hT hb12 (Blk.lt hT)
                       have hB := hB.below hb12 hB.lt
                       have hcs : w9.heap.size <= w12.heap.size := hC.size
                       refine hK.out _ _ (HSL.out _ hC) (fun hHeld => ?_)
                       clear hr hb12 hc11 hc11m
                       clear hK K
                       try simp only [Act.put, lS, lZ, lC]
                       refine wpAnyZ_ready (rs := [6]) (by kernel_rfl) (by simp) (AllReadyZ.cons rfl (fun K hK => ?_) AllReadyZ.nil)
                       go_simp
                       go_at_call 17
                       refine (OP.out w12 G A12 c12 _ hT (Reads.of_own ho12) (Nat.le_refl _) hl12 hc12).mono ?_
                       rintro e w13 ⟨p2, v2, bv, sv, rfl, hv2, hix, hb13⟩
                       have hC := hC.trans (Chg.of_below hb13 (Nat.le_refl _) (fun k => k = g7)) (fun _ _ e => e)
                       have hgx : gb < w12.heap.size ∨ w13.heap.size <= gb := .inl hB.lt
                       have hB := hB.below hb13 hB.lt
                       have hcs : w9.heap.size <= w13.heap.size := hC.size
                       refine hK.out _ _ (HSL.out _ hC) (fun hHeld => ?_)
                       clear hT ho12 hb13 hl12 hc12 hv2
                       clear hK K
                       try simp only [Act.put, lS, lZ, lC]
                       refine takeZ_yes (i := 7) (v := ?_) rfl (by kernel_rfl) (by kernel_rfl) (by kernel_rfl) (by kernel_rfl) (fun _ _ _ h => h) (by kernel_rfl) ?_ (by assumption) ?_
                       rotate_left
                       · intro wz hSw; (try dsimp only at hSw); go_simp; try with_reducible rfl
                       simp only [Act.put, lS, lZ, lC]
                       refine takeZ_yes (i := 8) (v := ?_) rfl (by kernel_rfl) (by kernel_rfl) (by kernel_rfl) (by kernel_rfl) (fun _ _ _ h => h) (by kernel_rfl) ?_ (by assumption) ?_
                       rotate_left
                       · intro wz hSw; (try dsimp only at hSw); go_simp; try with_reducible rfl
                       simp only [Act.put, lS, lZ, lC]
                       refine takeZ_yes (i := 9) (v := ?_) rfl (by kernel_rfl) (by kernel_rfl) (by kernel_rfl) (by kernel_rfl) (fun _ _ _ h => h) (by kernel_rfl) ?_ (by assumption) ?_
                       rotate_left
                       · intro wz hSw; (try dsimp only at hSw); go_simp; try with_reducible rfl
                       simp only [Act.put, lS, lZ, lC]
                       refine takeZ_yes (i := 10) (v := ?_) rfl (by kernel_rfl) (by kernel_rfl) (by kernel_rfl) (by kernel_rfl) (fun _ _ _ h => h) (by kernel_rfl) ?_ (by assumption) ?_
                       rotate_left
                       · intro wz hSw; (try dsimp only at hSw); go_simp; try with_reducible rfl
                       simp only [Act.put, lS, lZ, lC]
                       refine takeZ_yes (i := 11) (v := ?_) rfl (by kernel_rfl) (by kernel_rfl) (by kernel_rfl) (by kernel_rfl) (fun _ _ _ h => h) (by kernel_rfl) ?_ (by assumption) ?_
                       rotate_left
                       · intro wz hSw; (try dsimp only at hSw); go_simp; try with_reducible rfl
                       simp only [Act.put, lS, lZ, lC]
                       refine takeZ_yes (i := 13) (v := ?_) rfl (by kernel_rfl) (by kernel_rfl) (by kernel_rfl) (by kernel_rfl) (fun _ _ _ h => h) (by kernel_rfl) ?_ (by assumption) ?_
                       rotate_left
                       · intro wz hSw; (try dsimp only at hSw); go_simp; try with_reducible rfl
                       simp only [Act.put, lS, lZ, lC]
                       obtain ⟨z0, z1, z2, z3, z4, z5⟩ := slAt_blk hB
                       obtain ⟨f0, f1, f2, f3, f4, f5⟩ : _ /\ _ /\ _ /\ _ /\ _ /\ _ := ⟨hB.frozen 0, hB.frozen 1, hB.frozen 2, hB.frozen 3, hB.frozen 4, hB.frozen 5⟩
                       refine wpAnyZ_ready (rs := [14]) (by kernel_rfl) (by simp) (AllReadyZ.cons rfl (fun K hK => ?_) AllReadyZ.nil)
                       go_simp
                       have hC := ((((((hC.setCell (p := ⟨gb, 0, none⟩) (.inl hgb) (.int .u64 2)).setCell (p := ⟨gb, 1, none⟩) (.inl hgb) (.int .u64 (NB : Int))).setCell (p := ⟨gb, 2, none⟩) (.inl hgb) (.int .u64 0)).setCell (p := ⟨gb, 3, none⟩) (.inl hgb) (.int .u64 0)).setCell (p := ⟨gb, 4, none⟩) (.inl hgb) (.int .u64 0)).setCell (p := ⟨gb, 5, none⟩) (.inl hgb) (.int .u64 1))
                       refine hK.out _ _ (HSL.out _ hC) (fun hHeld => ?_)
                       clear z0 z1 z2 z3 z4 z5 f0 f1 f2 f3 f4 f5
                       clear hK K
                       try simp only [Act.put, lS, lZ, lC]
                       refine takeZ_yes (i := 15) (v := ?_) rfl (by kernel_rfl) (by kernel_rfl) (by kernel_rfl) (by kernel_rfl) (fun _ _ _ h => h) (by kernel_rfl) ?_ (by assumption) ?_
                       rotate_left
                       · intro wz hSw; (try dsimp only at hSw); go_simp; try with_reducible rfl
                       simp only [Act.put, lS, lZ, lC]
                       refine wpAnyZ_ready (rs := [16]) (by kernel_rfl) (by simp) (AllReadyZ.last rfl (fun K hK => ?_))
                       go_simp
                       refine hK.out _ _ ?_
                       clear hK K
                       refine wpAnyZ_done (by kernel_rfl) ?_ _
                       clear hHeld
                       go_wp2
                       go_meet
                       exact ⟨p2, _, _, rfl, rfl, Lib.hid ⟨HST2.out.1.loaded (hix.keep sl_chg (fun j hj e => by have h1 := hj.1; have h2 := hj.2; omega)) (Nat.le_refl _) (Nat.le_of_eq HST2.out.2) HFL.out.ed.key_, hC⟩⟩
                   · go_simp
                     obtain ⟨xA, hxA⟩ : ∃ xA, w10.alloc (.cells #[.int .u64 0, .int .u64 0, .int .u64 0, .int .u64 0, .int .u64 0, .int .u64 0] 51) = xA := ⟨_, rfl⟩
                     have hbA : Below w10.heap.size w10 xA := hxA ▸ boxed w10 _
                     have hB : Blk xA w10.heap.size 51 sZC := hxA ▸ Blk.new w10 _ _
                     have hC := hC.trans (Chg.of_below hbA (Nat.le_refl _) (fun k => k = g7)) (fun _ _ e => e)
                     have hb := hb.trans (hbA.mono hb.size)
                     try rw [hxA]
                     obtain ⟨gb, hgb0⟩ : ∃ gb, w10.heap.size = gb := ⟨_, rfl⟩
                     have hgb : w9.heap.size <= gb := by have := hC.size; have := hgb0; have := hcs; omega
                     have hB : Blk xA gb 51 sZC := by rw [<- hgb0]; exact hB
                     try rw [hgb0]
                     have hT := IsTable.below hT hbA (Blk.lt hT)
                     have hcs : w9.heap.size <= xA.heap.size := hC.size
                     refine hK.out _ _ (HSL.out _ hC) (fun hHeld => ?_)
                     clear hxA hbA hgb0
                     clear hK K
                     try simp only [Act.put, lS, lZ, lC]
                     refine wpAnyZ_ready (rs := [3]) (by kernel_rfl) (by simp) (AllReadyZ.cons rfl (fun K hK => ?_) AllReadyZ.nil)
                     refine step_append_both rfl _ _ _ rfl w6.heap.size 5 i1 (.int .u8 0) 1 Tryz.underlying24 hi1 hy0 hy1 hy2 rfl g7 NB c7 (cellsOf .u8 c) rfl (own_below HO9.out.2.2.2.2.1 hb) w.heap.size Ab nb cb (cellsOf .u8 zs) rfl (HBH.out.reads.below (HBW.out _ (HCU.out _ hC))) (cellsOf_one _ _) (by unfold maxLen; have := HMI.out.2; omega) (by have := HMI.out.2; omega) (by have := HSZ.out; have := hb.size; omega) ?_
                     intro v11 w11 hr hg11 hat11 hown11b
                     rw [<- cellsOf_append] at hr
                     obtain ⟨A11, c11, rfl, hc11, hc11m⟩ := own_form hr
                     have hC := hC.trans ((Chg.of_grown hg11).mono (T := fun k => k = g7) (fun k _ e => (Option.some.inj e).symm)) (fun _ _ e => e)
                     have hT : IsTable w11 G := Blk.grown hT hg11 (fun e => by have h1 := Option.some.inj e; omega)
                     have hB := hB.grown hg11 (fun e => by have h1 := Option.some.inj e; have := HSZ.out; omega)
                     have hcs : w9.heap.size <= w11.heap.size := hC.size
                     refine hK.out _ _ (HSL.out _ hC) (fun hHeld => ?_)
                     clear hg11 hat11 hown11b hb
                     clear hK K
                     try simp only [Act.put, lS, lZ, lC]
                     refine wpAnyZ_ready (rs := [5]) (by kernel_rfl) (by simp) (AllReadyZ.cons rfl (fun K hK => ?_) AllReadyZ.nil)
                     go_simp
                     go_at_call 18
                     refine (WI.out _ _ _ _ (Reads.of_own hr) (Nat.le_refl _) hc11 hc11m).mono ?_
                     rintro e w12 ⟨A12, N12, c12, rfl, hN12, ho12, hb12, hl12, hc12⟩
                     have hN12' : NB + nb = N12 := (hN12.trans HZL'.out).symm
                     subst hN12'
                     clear hN12
                     have hC := hC.trans (Chg.of_below hb12 (Nat.le_refl _) (fun k => k = g7)) (fun _ _ e => e)
                     have hT : IsTable w12 G := IsTable.below hT hb12 (Blk.lt hT)
                     have hB := hB.below hb12 hB.lt
                     have hcs : w9.heap.size <= w12.heap.size := hC.size
                     refine hK.out _ _ (HSL.out _ hC) (fun hHeld => ?_)
                     clear hr hb12 hc11 hc11m
                     clear hK K
                     try simp only [Act.put, lS, lZ, lC]
                     refine wpAnyZ_ready (rs := [6]) (by kernel_rfl) (by simp) (AllReadyZ.cons rfl (fun K hK => ?_) AllReadyZ.nil)
                     go_simp
                     go_at_call 17
                     refine (OP.out w12 G A12 c12 _ hT (Reads.of_own ho12) (Nat.le_refl _) hl12 hc12).mono ?_
                     rintro e w13 ⟨p2, v2, bv, sv, rfl, hv2, hix, hb13⟩
                     have hC := hC.trans (Chg.of_below hb13 (Nat.le_refl _) (fun k => k = g7)) (fun _ _ e => e)
                     have hgx : gb < w12.heap.size ∨ w13.heap.size <= gb := .inl hB.lt
                     have hB := hB.below hb13 hB.lt
                     have hcs : w9.heap.size <= w13.heap.size := hC.size
                     refine hK.out _ _ (HSL.out _ hC) (fun hHeld => ?_)
                     clear hT ho12 hb13 hl12 hc12 hv2
                     clear hK K
                     try simp only [Act.put, lS, lZ, lC]
                     refine takeZ_yes (i := 7) (v := ?_) rfl (by kernel_rfl) (by kernel_rfl) (by kernel_rfl) (by kernel_rfl) (fun _ _ _ h => h) (by kernel_rfl) ?_ (by assumption) ?_
                     rotate_left
                     · intro wz hSw; (try dsimp only at hSw); go_simp; try with_reducible rfl
                     simp only [Act.put, lS, lZ, lC]
                     refine takeZ_yes (i := 8) (v := ?_) rfl (by kernel_rfl) (by kernel_rfl) (by kernel_rfl) (by kernel_rfl) (fun _ _ _ h => h) (by kernel_rfl) ?_ (by assumption) ?_
                     rotate_left
                     · intro wz hSw; (try dsimp only at hSw); go_simp; try with_reducible rfl
                     simp only [Act.put, lS, lZ, lC]
                     refine takeZ_yes (i := 9) (v := ?_) rfl (by kernel_rfl) (by kernel_rfl) (by kernel_rfl) (by kernel_rfl) (fun _ _ _ h => h) (by kernel_rfl) ?_ (by assumption) ?_
                     rotate_left
                     · intro wz hSw; (try dsimp only at hSw); go_simp; try with_reducible rfl
                     simp only [Act.put, lS, lZ, lC]
                     refine takeZ_yes (i := 10) (v := ?_) rfl (by kernel_rfl) (by kernel_rfl) (by kernel_rfl) (by kernel_rfl) (fun _ _ _ h => h) (by kernel_rfl) ?_ (by assumption) ?_
                     rotate_left
                     · intro wz hSw; (try dsimp only at hSw); go_simp; try with_reducible rfl
                     simp only [Act.put, lS, lZ, lC]
                     refine takeZ_yes (i := 11) (v := ?_) rfl (by kernel_rfl) (by kernel_rfl) (by kernel_rfl) (by kernel_rfl) (fun _ _ _ h => h) (by kernel_rfl) ?_ (by assumption) ?_
                     rotate_left
                     · intro wz hSw; (try dsimp only at hSw); go_simp; try with_reducible rfl
                     simp only [Act.put, lS, lZ, lC]
                     refine takeZ_yes (i := 13) (v := ?_) rfl (by kernel_rfl) (by kernel_rfl) (by kernel_rfl) (by kernel_rfl) (fun _ _ _ h => h) (by kernel_rfl) ?_ (by assumption) ?_
                     rotate_left
                     · intro wz hSw; (try dsimp only at hSw); go_simp; try with_reducible rfl
                     simp only [Act.put, lS, lZ, lC]
                     obtain ⟨z0, z1, z2, z3, z4, z5⟩ := slAt_blk hB
                     obtain ⟨f0, f1, f2, f3, f4, f5⟩ : _ /\ _ /\ _ /\ _ /\ _ /\ _ := ⟨hB.frozen 0, hB.frozen 1, hB.frozen 2, hB.frozen 3, hB.frozen 4, hB.frozen 5⟩
                     refine wpAnyZ_ready (rs := [14]) (by kernel_rfl) (by simp) (AllReadyZ.cons rfl (fun K hK => ?_) AllReadyZ.nil)
                     go_simp
                     have hC := ((((((hC.setCell (p := ⟨gb, 0, none⟩) (.inl hgb) (.int .u64 2)).setCell (p := ⟨gb, 1, none⟩) (.inl hgb) (.int .u64 (NB : Int))).setCell (p := ⟨gb, 2, none⟩) (.inl hgb) (.int .u64 0)).setCell (p := ⟨gb, 3, none⟩) (.inl hgb) (.int .u64 0)).setCell (p := ⟨gb, 4, none⟩) (.inl hgb) (.int .u64 0)).setCell (p := ⟨gb, 5, none⟩) (.inl hgb) (.int .u64 1))
                     refine hK.out _ _ (HSL.out _ hC) (fun hHeld => ?_)
                     clear z0 z1 z2 z3 z4 z5 f0 f1 f2 f3 f4 f5
                     clear hK K
                     try simp only [Act.put, lS, lZ, lC]
                     refine takeZ_yes (i := 15) (v := ?_) rfl (by kernel_rfl) (by kernel_rfl) (by kernel_rfl) (by kernel_rfl) (fun _ _ _ h => h) (by kernel_rfl) ?_ (by assumption) ?_
                     rotate_left
                     · intro wz hSw; (try dsimp only at hSw); go_simp; try with_reducible rfl
                     simp only [Act.put, lS, lZ, lC]
                     refine wpAnyZ_ready (rs := [16]) (by kernel_rfl) (by simp) (AllReadyZ.last rfl (fun K hK => ?_))
                     go_simp
                     refine hK.out _ _ ?_
                     clear hK K
                     refine wpAnyZ_done (by kernel_rfl) ?_ _
                     clear hHeld
                     go_wp2
                     go_meet
                     exact ⟨p2, _, _, rfl, rfl, Lib.hid ⟨HST2.out.1.loaded (hix.keep sl_chg (fun j hj e => by have h1 := hj.1; have h2 := hj.2; omega)) (Nat.le_refl _) (Nat.le_of_eq HST2.out.2) HFL.out.ed.key_, hC⟩⟩
                 · go_simp
                   obtain ⟨xA, hxA⟩ : ∃ xA, (w9.alloc (.cells #[.int .u64 0, .int .u64 0, .int .u64 0, .int .u64 0, .int .u64 0, .int .u64 0] 51)).drew = xA := ⟨_, rfl⟩
                   have hbA : Below w9.heap.size w9 xA := hxA ▸ below_drewn (boxed w9 _) 1
                   have hB : Blk xA w9.heap.size 51 sZC := hxA ▸ (Blk.new w9 _ _).drew
                   have hC : Chg (fun k => k = g7) w9 xA := Chg.of_below hbA (Nat.le_refl _) _
                   have hb := hbA
                   try rw [hxA]
                   obtain ⟨gb, hgb0⟩ : ∃ gb, w9.heap.size = gb := ⟨_, rfl⟩
                   have hgb : w9.heap.size <= gb := by have := hC.size; have := hgb0; omega
                   have hB : Blk xA gb 51 sZC := by rw [<- hgb0]; exact hB
                   try rw [hgb0]
                   have hcs : w9.heap.size <= xA.heap.size := hC.size
                   refine hK.out _ _ (HSL.out _ hC) (fun hHeld => ?_)
                   clear hxA hbA hgb0
                   clear hK K
                   try simp only [Act.put, lS, lZ, lC]
                   refine wpAnyZ_ready (rs := [0]) (by kernel_rfl) (by simp) (AllReadyZ.cons rfl (fun K hK => ?_) AllReadyZ.nil)
                   go_simp
                   go_at_call 11
                   refine (crcMake_box _).mono ?_
                   rintro e w10 ⟨G, hGe, rfl, hT, hbM⟩
                   have hGg : g7 < G := by have h1 := HSZ.out; have h2 := hC.size; omega
                   have hC := hC.trans (Chg.of_below hbM (Nat.le_refl _) (fun k => k = g7)) (fun _ _ e => e)
                   have hb := hb.trans (hbM.mono hb.size)
                   have hB := hB.below hbM hB.lt
                   have hcs : w9.heap.size <= w10.heap.size := hC.size
                   refine hK.out _ _ (HSL.out _ hC) (fun hHeld => ?_)
                   clear hbM hGe
                   clear hK K
                   try simp only [Act.put, lS, lZ, lC]
                   refine wpAnyZ_ready (rs := [3]) (by kernel_rfl) (by simp) (AllReadyZ.cons rfl (fun K hK => ?_) AllReadyZ.nil)
                   refine step_append_both rfl _ _ _ rfl w6.heap.size 5 i1 (.int .u8 0) 1 Tryz.underlying24 hi1 hy0 hy1 hy2 rfl g7 NB c7 (cellsOf .u8 c) rfl (own_below HO9.out.2.2.2.2.1 hb) w.heap.size Ab nb cb (cellsOf .u8 zs) rfl (HBH.out.reads.below (HBW.out _ (HCU.out _ hC))) (cellsOf_one _ _) (by unfold maxLen; have := HMI.out.2; omega) (by have := HMI.out.2; omega) (by have := HSZ.out; have := hb.size; omega) ?_
                   intro v11 w11 hr hg11 hat11 hown11b
                   rw [<- cellsOf_append] at hr
                   obtain ⟨A11, c11, rfl, hc11, hc11m⟩ := own_form hr
                   have hC := hC.trans ((Chg.of_grown hg11).mono (T := fun k => k = g7) (fun k _ e => (Option.some.inj e).symm)) (fun _ _ e => e)
                   have hT : IsTable w11 G := Blk.grown hT hg11 (fun e => by have h1 := Option.some.inj e; omega)
                   have hB := hB.grown hg11 (fun e => by have h1 := Option.some.inj e; have := HSZ.out; omega)
                   have hcs : w9.heap.size <= w11.heap.size := hC.size
                   refine hK.out _ _ (HSL.out _ hC) (fun hHeld => ?_)
                   clear hg11 hat11 hown11b hb
                   clear hK K
                   try simp only [Act.put, lS, lZ, lC]
                   refine wpAnyZ_ready (rs := [5]) (by kernel_rfl) (by simp) (AllReadyZ.cons rfl (fun K hK => ?_) AllReadyZ.nil)
                   go_simp
                   go_at_call 18
                   refine (WI.out _ _ _ _ (Reads.of_own hr) (Nat.le_refl _) hc11 hc11m).mono ?_
                   rintro e w12 ⟨A12, N12, c12, rfl, hN12, ho12, hb12, hl12, hc12⟩
                   have hN12' : NB + nb = N12 := (hN12.trans HZL'.out).symm
                   subst hN12'
                   clear hN12
                   have hC := hC.trans (Chg.of_below hb12 (Nat.le_refl _) (fun k => k = g7)) (fun _ _ e => e)
                   have hT : IsTable w12 G := IsTable.below hT hb12 (Blk.lt hT)
                   have hB := hB.below hb12 hB.lt
                   have hcs : w9.heap.size <= w12.heap.size := hC.size
                   refine hK.out _ _ (HSL.out _ hC) (fun hHeld => ?_)
                   clear hr hb12 hc11 hc11m
                   clear hK K
                   try simp only [Act.put, lS, lZ, lC]
                   refine wpAnyZ_ready (rs := [6]) (by kernel_rfl) (by simp) (AllReadyZ.cons rfl (fun K hK => ?_) AllReadyZ.nil)
                   go_simp
                   go_at_call 17
                   refine (OP.out w12 G A12 c12 _ hT (Reads.of_own ho12) (Nat.le_refl _) hl12 hc12).mono ?_
                   rintro e w13 ⟨p2, v2, bv, sv, rfl, hv2, hix, hb13⟩
                   have hC := hC.trans (Chg.of_below hb13 (Nat.le_refl _) (fun k => k = g7)) (fun _ _ e => e)
                   have hgx : gb < w12.heap.size ∨ w13.heap.size <= gb := .inl hB.lt
                   have hB := hB.below hb13 hB.lt
                   have hcs : w9.heap.size <= w13.heap.size := hC.size
                   refine hK.out _ _ (HSL.out _ hC) (fun hHeld => ?_)
                   clear hT ho12 hb13 hl12 hc12 hv2
                   clear hK K
                   try simp only [Act.put, lS, lZ, lC]
                   refine takeZ_yes (i := 7) (v := ?_) rfl (by kernel_rfl) (by kernel_rfl) (by kernel_rfl) (by kernel_rfl) (fun _ _ _ h => h) (by kernel_rfl) ?_ (by assumption) ?_
                   rotate_left
                   · intro wz hSw; (try dsimp only at hSw); go_simp; try with_reducible rfl
                   simp only [Act.put, lS, lZ, lC]
                   refine takeZ_yes (i := 8) (v := ?_) rfl (by kernel_rfl) (by kernel_rfl) (by kernel_rfl) (by kernel_rfl) (fun _ _ _ h => h) (by kernel_rfl) ?_ (by assumption) ?_
                   rotate_left
                   · intro wz hSw; (try dsimp only at hSw); go_simp; try with_reducible rfl
                   simp only [Act.put, lS, lZ, lC]
                   refine takeZ_yes (i := 9) (v := ?_) rfl (by kernel_rfl) (by kernel_rfl) (by kernel_rfl) (by kernel_rfl) (fun _ _ _ h => h) (by kernel_rfl) ?_ (by assumption) ?_
                   rotate_left
                   · intro wz hSw; (try dsimp only at hSw); go_simp; try with_reducible rfl
                   simp only [Act.put, lS, lZ, lC]
                   refine takeZ_yes (i := 10) (v := ?_) rfl (by kernel_rfl) (by kernel_rfl) (by kernel_rfl) (by kernel_rfl) (fun _ _ _ h => h) (by kernel_rfl) ?_ (by assumption) ?_
                   rotate_left
                   · intro wz hSw; (try dsimp only at hSw); go_simp; try with_reducible rfl
                   simp only [Act.put, lS, lZ, lC]
                   refine takeZ_yes (i := 11) (v := ?_) rfl (by kernel_rfl) (by kernel_rfl) (by kernel_rfl) (by kernel_rfl) (fun _ _ _ h => h) (by kernel_rfl) ?_ (by assumption) ?_
                   rotate_left
                   · intro wz hSw; (try dsimp only at hSw); go_simp; try with_reducible rfl
                   simp only [Act.put, lS, lZ, lC]
                   refine takeZ_yes (i := 13) (v := ?_) rfl (by kernel_rfl) (by kernel_rfl) (by kernel_rfl) (by kernel_rfl) (fun _ _ _ h => h) (by kernel_rfl) ?_ (by assumption) ?_
                   rotate_left
                   · intro wz hSw; (try dsimp only at hSw); go_simp; try with_reducible rfl
                   simp only [Act.put, lS, lZ, lC]
                   obtain ⟨z0, z1, z2, z3, z4, z5⟩ := slAt_blk hB
                   obtain ⟨f0, f1, f2, f3, f4, f5⟩ : _ /\ _ /\ _ /\ _ /\ _ /\ _ := ⟨hB.frozen 0, hB.frozen 1, hB.frozen 2, hB.frozen 3, hB.frozen 4, hB.frozen 5⟩
                   refine wpAnyZ_ready (rs := [14]) (by kernel_rfl) (by simp) (AllReadyZ.cons rfl (fun K hK => ?_) AllReadyZ.nil)
                   go_simp
                   have hC := ((((((hC.setCell (p := ⟨gb, 0, none⟩) (.inl hgb) (.int .u64 2)).setCell (p := ⟨gb, 1, none⟩) (.inl hgb) (.int .u64 (NB : Int))).setCell (p := ⟨gb, 2, none⟩) (.inl hgb) (.int .u64 0)).setCell (p := ⟨gb, 3, none⟩) (.inl hgb) (.int .u64 0)).setCell (p := ⟨gb, 4, none⟩) (.inl hgb) (.int .u64 0)).setCell (p := ⟨gb, 5, none⟩) (.inl hgb) (.int .u64 1))
                   refine hK.out _ _ (HSL.out _ hC) (fun hHeld => ?_)
                   clear z0 z1 z2 z3 z4 z5 f0 f1 f2 f3 f4 f5
                   clear hK K
                   try simp only [Act.put, lS, lZ, lC]
                   refine takeZ_yes (i := 15) (v := ?_) rfl (by kernel_rfl) (by kernel_rfl) (by kernel_rfl) (by kernel_rfl) (fun _ _ _ h => h) (by kernel_rfl) ?_ (by assumption) ?_
                   rotate_left
                   · intro wz hSw; (try dsimp only at hSw); go_simp; try with_reducible rfl
                   simp only [Act.put, lS, lZ, lC]
                   refine wpAnyZ_ready (rs := [16]) (by kernel_rfl) (by simp) (AllReadyZ.last rfl (fun K hK => ?_))
                   go_simp
                   refine hK.out _ _ ?_
                   clear hK K
                   refine wpAnyZ_done (by kernel_rfl) ?_ _
                   clear hHeld
                   go_wp2
                   go_meet
                   exact ⟨p2, _, _, rfl, rfl, Lib.hid ⟨HST2.out.1.loaded (hix.keep sl_chg (fun j hj e => by have h1 := hj.1; have h2 := hj.2; omega)) (Nat.le_refl _) (Nat.le_of_eq HST2.out.2) HFL.out.ed.key_, hC⟩⟩
               case rest =>
                 obtain ⟨p2, base13, S13, rfl, rfl, HED⟩ := hcut
                 have HC7 := Lib.hid (HO9.out.2.2.2.2.2.1.trans HED.out.2 (fun _ _ e => e))
                 have h1 := Reads.of_own (own_chg HO9.out.1 HED.out.2 (fun g hg e => by have h1 := (HO9.out.1.lt g hg).1; have h2 := (HO8.out.1.lt g7 rfl).2; omega))
                 have SM := Lib.hid (same_yes A9' A5 NB NB c9' c5 was was wc h1 (HRA.out _ HC7.out) HFL.out.ed.bytes (Lib.hid rfl))
                 obtain ⟨hre1, hre2⟩ := HRE.out _ HC7.out
                 have AL := Lib.hid (all_told HED.out.1 HFL.out.el HFL.out.ob hre1 (by have := HMK.out; omega))
                 have HRE2 := Lib.hid (And.intro hre1 hre2)
                 have HBF := Lib.hid (HBW.out _ HC7.out)
                 clear h1 hre1 hre2 hbw hnw
                 go_wp2_with (first
                   | (go_at_call 19; refine SM.out.mono ?_; rintro e w14 ⟨rfl, rfl⟩)
                   | (go_at_call 21; refine AL.out.mono ?_; rintro e w14 ⟨A14, c14, l14, rfl, hr14, hs14, hb14⟩; have H14 := Lib.hid (And.intro hr14 (And.intro hs14 hb14)); clear hr14 hs14 hb14)
                   | (go_at_call 20; refine (reall_same A14 A3 m c14 c3 l14 l _ _ w14 H14.out.1 (HRE2.out.1.below (H14.out.2.2.mono HRE2.out.2)) (Nat.le_refl _) (Nat.le_trans HRE2.out.2 H14.out.2.2.size) H14.out.2.1).mono ?_; rintro e w15 ⟨rfl, hb15⟩; have HB15 := Lib.hid (H14.out.2.2.trans (hb15.mono H14.out.2.2.size)); clear hb15)
                   | (go_at_call 7; refine (AW.out _).mono ?_; rintro e w16 ⟨rfl, hb16⟩; have HB16 := Lib.hid (HB15.out.trans (hb16.mono HB15.out.size)); clear hb16))
                 all_goals (go_ret; exact ⟨rfl, HBF.out.trans (HB16.out.mono HBF.out.size)⟩)
 · have m1 : True := trivial
   have hgb : (5000 : Int) < (nk : Int) ∨ ((¬ (5000 : Int) < (nk : Int)) /\ (500 : Int) < (nb : Int)) := by omega
   have HGB := Lib.hid hgb
   clear hg hgb
   rcases HGB.out with hg3 | ⟨hg3, hg4⟩
   all_goals
     go_enter Tryz.func3, Tryz.ntmps3
     go_wp2_with (first
       | (go_at_call 7; refine (AW.out _).mono ?_; rintro e wx ⟨rfl, hbx⟩; have hb := hb.trans (hbx.mono hb.size); clear hbx)
       | (clear m1; go_at_call 8; refine (L1.out _ hb).mono ?_; rintro e wx ⟨q1, rfl, rfl, hq1⟩; cases q1)
       | (go_at_call 8; refine (L2.out _ hb).mono ?_; rintro e wx ⟨q2, rfl, rfl, hq2⟩; cases q2))
     all_goals (go_ret; exact ⟨rfl, hb⟩)
end Go.Proofs.YtgcmbgniaffdlaaGreat
