import Derived.Test.YtaeegcohimflbaaGreatCaC
import Derived.Test.YtaeegcohimflbaaGreatEaB
set_option linter.unusedVariables false
set_option maxRecDepth 100000
set_option linter.unusedSimpArgs false
namespace Go.Proofs.YtaeegcohimflbaaGreat
open Go.RowKit Go.Shelf
attribute [local go_sem] Oper.semAt_some
theorem splice_rep {cur : List Value} {q kk : Nat} {z : Value} (h : q + kk < cur.length) : (splice cur q (List.replicate kk z)).set (q + kk) z = splice cur q (List.replicate (kk + 1) z) := by
 unfold splice
 have h1 : (cur.take q).length = q := by rw [List.length_take]; omega
 rw [List.set_append_right _ _ (by omega), h1, show q + kk - q = kk by omega, List.set_append_right _ _ (by rw [List.length_replicate]; omega), List.length_replicate, Nat.sub_self, List.length_replicate, List.drop_eq_getElem_cons h, List.set_cons_zero, List.replicate_succ', List.append_assoc]
 congr 2
theorem splice_none (cur : List Value) (q : Nat) (h : q <= cur.length) : splice cur q [] = cur := by simp [splice]
structure RcAt (w0 wr : World) (g9 c9 T b10 : Nat) (v10 v11 : Value) (ws : List Nat) (cur : List Value) (ct : List Nat) : Prop where
 out : Blk wr g9 5 cur.toArray
 len : cur.length = c9
 wrow : wr.ownsRow w0.heap.size 3 1 v11 ws.length (cellsOf .i64 (nI ws))
 crow : wr.ownsRow b10 3 1 v10 ct.length (cellsOf .i64 (nI ct))
 old : ∀ g, v11.ownBlock = some g -> g < b10
 lo : w0.heap.size <= g9 /\ w0.heap.size <= b10 /\ g9 < b10
 below : Below w0.heap.size w0 wr
 top : b10 <= wr.heap.size
section
variable {w0 wr w1 : World} {g9 c9 T b10 : Nat} {v10 v11 v' : Value} {ws ct : List Nat} {cur : List Value}
theorem RcAt.set (H : RcAt w0 wr g9 c9 T b10 v10 v11 ws cur ct) (i : Nat) (u : Value) : RcAt w0 (wr.setCell ⟨g9, i, none⟩ u) g9 c9 T b10 v10 v11 ws (cur.set i u) ct := by
 have hk9 : ∀ (e : TypeId) (b size n : Nat) (x : Value) (xs : List Value), e ≠ 5 -> wr.ownsRow b e size x n xs -> x.ownBlock ≠ some g9 := fun e b size n x xs he h hx => by
   obtain ⟨c1, f1, h1⟩ := Lib.ownsRow_kind h g9 hx
   have h2 : wr.heap[g9]? = some (.cells cur.toArray 5 (0, 0)) := H.out
   rw [h1] at h2
   injection h2 with h2
   injection h2 with h3 h4
   exact he h4
 refine ⟨?_, by rw [List.length_set]; exact H.len, ownsRow_setCell_other H.wrow (hk9 _ _ _ _ _ _ (by decide) H.wrow) u, ownsRow_setCell_other H.crow (hk9 _ _ _ _ _ _ (by decide) H.crow) u, H.old, H.lo, H.below.setCell H.lo.1 u, by rw [size_set]; exact H.top⟩
 have := H.out.set_ i u
 simpa using this
theorem RcAt.push {tmp : Obj} {q : Nat} (H : RcAt w0 wr g9 c9 T b10 v10 v11 ws cur ct) (hown : w1.ownsRow b10 3 1 v' (ct.length + 1) (cellsOf .i64 (nI ct) ++ [.int .i64 (q : Int)])) (hg : (wr.alloc tmp).grownBy w1 v10.ownBlock) : RcAt w0 w1 g9 c9 T b10 v' v11 ws cur (ct ++ [q]) := by
 have hne : v10.ownBlock ≠ some g9 := fun e => by have := (H.crow.lt _ e).1; have := H.lo.2.2; omega
 refine ⟨(H.out.alloc tmp).grown hg hne.symm, H.len, (H.wrow.alloc tmp).kept hg ?_, ?_, H.old, H.lo, (H.below.alloc H.below.size _).grown hg (by simp; have := H.below.size; omega) (fun g hg => by have := (H.crow.lt g hg).1; have := H.lo.2.1; omega), by have := hg.size; have := H.top; have hsa : (wr.alloc tmp).heap.size = wr.heap.size + 1 := World.size_alloc _ _; omega⟩
 · cases hv : v11.ownBlock with
   | none => exact .inl rfl
   | some g =>
     right
     intro e
     have h1 := H.old g hv
     have h2 := (H.crow.lt g e.symm).1
     omega
 · rw [List.length_append, nI_app, cellsOf_append]; exact hown
end
set_option maxHeartbeats 4000000 in
theorem rcut_yes {B : Nat} (i k d f m : Int) (A : Option Addr) (n c : Nat) (zs : List Int) (T : Nat) (L : List SR) (w : World) (hr : Reads w B 1 A n (cellsOf .u8 zs)) (hB : B <= w.heap.size) (hz : AreB zs) (hl : n <= c) (hcap : c <= 9223372036854775807) (hm : n <= 549755813888)
 (hR : rightH d f = true) (hT : newK d f <= T) (hTn : T <= n) (hL : scanAt (zs.take T) (newK d f : Nat) L) (hE : lastE (newK d f : Nat) L = T) :
 Calls Tryz.prog 9 #[hdV i k d f m, .slice A n c, .int .i64 T] w fun e w' => ∃ A1 c1 v, e = .returned (.tuple #[.slice A1 T c1, v, .bool true]) /\ w'.ownsRow w.heap.size 5 1 (.slice A1 T c1) T (cellsOf .u8 (cutW d f L zs T).1) /\ w'.ownsRow w.heap.size 3 1 v (cutW d f L zs T).2.length (cellsOf .i64 (nI (cutW d f L zs T).2)) /\ T <= c1 /\ c1 <= 9223372036854775807 /\ Below w.heap.size w w' := by
 obtain ⟨d1, d2, d3, d4⟩ := rightH_bd hR
 have hnk := newK_val ⟨d1, d2⟩ ⟨d3, d4⟩
 have hnk2 : 256 + 8 * (d + f) = ((newK d f : Nat) : Int) := by omega
 have hlz : zs.length = n := hr.len
 have hzt : (zs.take T).length = T := by rw [List.length_take]; omega
 have hcN : cutN n T = T := by unfold cutN; omega
 have hwl : ∀ q ∈ wordsS (newK d f) L, q + 8 <= T := fun q hq => by
   have h := wordsS_fit (by omega) (by omega) (by omega) hL q hq
   omega
 have hml := words_most hR hL
 have hb0 : Below w.heap.size w (w.alloc (.cells #[.int .u64 i, .int .u64 k, .int .i64 d, .int .i64 f, .int .u64 m] 27)) := boxed w _
 have x0 := Blk.new w 27 #[.int .u64 i, .int .u64 k, .int .i64 d, .int .i64 f, .int .u64 m]
 obtain ⟨W0, hW0⟩ : ∃ W0, w.alloc (.cells #[.int .u64 i, .int .u64 k, .int .i64 d, .int .i64 f, .int .u64 m] 27) = W0 := ⟨_, rfl⟩
 rw [hW0] at hb0 x0
 have HC : Hid (∀ wx, Below W0.heap.size W0 wx -> (wx.cell? ⟨w.heap.size, 0, none⟩ = some (.int .u64 i) /\ wx.cell? ⟨w.heap.size, 1, none⟩ = some (.int .u64 k) /\ wx.cell? ⟨w.heap.size, 2, none⟩ = some (.int .i64 d) /\ wx.cell? ⟨w.heap.size, 3, none⟩ = some (.int .i64 f) /\ wx.cell? ⟨w.heap.size, 4, none⟩ = some (.int .u64 m))) := Lib.hid (fun wx hx => by
   have h0 := x0.below hx x0.lt
   exact ⟨h0.cell 0, h0.cell 1, h0.cell 2, h0.cell 3, h0.cell 4⟩)
 have RI := Lib.hid (fun wx => rhright_any i k d f m wx)
 rw [hR] at RI
 have OB := Lib.hid (fun wx => rhobjects_any i k d f m wx (by omega) d2 (by omega) d4)
 rw [hnk2] at OB
 have WH := Lib.hid (fun wx (hx : Below w.heap.size w wx) => rwhole_any A n c zs (newK d f : Nat) T L wx (hr.below (hx.mono hB)) (Nat.le_trans hB hx.size) hz hl hcap (by omega) (by omega) (by omega) (by omega) (by omega) (by rw [hcN]; exact hL))
 have hwb : wholeB n (newK d f : Nat) T L = true := by unfold wholeB; exact decide_eq_true ⟨by omega, by omega, hE⟩
 rw [hwb] at WH
 have WD := Lib.hid (fun wx (hx : Below w.heap.size w wx) => rcwords_any i k d f m A n c zs T L wx (hr.below (hx.mono hB)) (Nat.le_trans hB hx.size) hz hl hcap hm hR (by omega) (by omega) (by rw [hcN]; exact hL))
 have HOK := Lib.hid (fun (pre rest : List Int) (h : pre ++ rest = nI (wordsS (newK d f) L)) => cuts_ok (T := T) (hz.take T) hzt hwl h)
 have HWL := Lib.hid hwl
 have HRD := Lib.hid (fun wx (hx : Below w.heap.size w wx) => (hr.pre hTn).below (hx.mono hB))
 have HML := Lib.hid (And.intro hml hzt)
 have HB0 := Lib.hid hb0
 have hlt : decide (T < newK d f) = false := decide_eq_false (by omega)
 have hgt : decide (n < T) = false := decide_eq_false (by omega)
 have hTc : (T : Int) <= (c : Int) := by omega
 have hTpos : 0 < T := by omega
 have hTw : IntKind.u64.wrap (T : Int) = T := by rw [IntKind.wrap_u64]; omega
 obtain ⟨i0, hi0, hz0, hz1, hz2⟩ := info_parts byteInfo
 obtain ⟨i1, hi1, hy0, hy1, hy2⟩ := info_parts intInfo17
 have b2 : 0 + T <= maxLen := by unfold maxLen; omega
 have b3 : (0 + T) * 1 <= 140737488355328 := by omega
 obtain ⟨ws, hws⟩ : ∃ ws, wordsS (newK d f) L = ws := ⟨_, rfl⟩
 rw [hws] at HOK HWL WD HML
 have HWS := Lib.hid hws
 obtain ⟨y0, y1, y2, y3, y4⟩ := HC.out _ (Below.refl _ _)
 clear hL hE hr hz hlz hwb hb0 x0 hwl hnk hnk2 hcN hzt hml hws
 go_enter Tryz.func9, Tryz.ntmps9
 have hb : Below W0.heap.size W0 W0 := Below.refl _ _
 go_wp2_with (first
   | (go_at_call 33; refine (RI.out _).mono ?_; rintro e wx ⟨rfl, hbx⟩; have hb := hb.trans (hbx.mono hb.size); clear hbx y0 y1 y2 y3 y4; obtain ⟨y0, y1, y2, y3, y4⟩ := HC.out _ hb)
   | (go_at_call 34; refine (OB.out _).mono ?_; rintro e wx ⟨rfl, hbx⟩; have hb := hb.trans (hbx.mono hb.size); clear hbx y0 y1 y2 y3 y4; obtain ⟨y0, y1, y2, y3, y4⟩ := HC.out _ hb)
   | (go_at_call 35; refine (WH.out _ (HB0.out.trans (hb.mono HB0.out.size))).mono ?_; rintro e wx ⟨rfl, hbx⟩; have hb := hb.trans (hbx.mono hb.size); clear hbx y0 y1 y2 y3 y4; obtain ⟨y0, y1, y2, y3, y4⟩ := HC.out _ hb)
   | (at_builtin; have HBA := Lib.hid hb; go_loud (refine wpList_append_any _ rfl _ _ _ rfl W0.heap.size 5 i0 (.int .u8 0) 1 1 Tryz.underlying22 hi0 hz0 hz1 hz2 rfl (Nat.lt_succ_self 0) _ 0 [] rfl (World.ownsRow_lit _ #[] 0 HBA.out.size (Nat.zero_le _) rfl) B A T c (cellsOf .u8 (zs.take T)) rfl ((HRD.out _ (HB0.out.trans (hb.mono HB0.out.size))).alloc (Nat.le_trans hB (HB0.out.trans (hb.mono HB0.out.size)).size) _) (cellsOf_one _ _) b2 b3 (by have := HBA.out.size; simp; omega) ?_; intro v1 w5 hown1 hg1 hat1; rw [Nat.zero_add, List.nil_append] at hown1; obtain ⟨A1, c1, rfl, hc1, hc2⟩ := own_form hown1; have hb5 := row_lit0 hg1; have hb := hb.trans (hb5.mono hb.size); clear hb5 hg1 hat1 y0 y1 y2 y3 y4; obtain ⟨y0, y1, y2, y3, y4⟩ := HC.out _ hb; have HO := Lib.hid hown1; clear hown1))
   | (go_at_call 13; have HW5 := Lib.hid hb; refine (WD.out _ (HB0.out.trans (hb.mono HB0.out.size))).mono ?_; rintro e w6 ⟨v11, rfl, hwo, hb6⟩; have hb := hb.trans (hb6.mono hb.size); obtain ⟨A11, c11, rfl, hl11, hc11⟩ := own_form hwo; have HWO := Lib.hid (And.intro hwo hb6); clear hwo hb6 y0 y1 y2 y3 y4))
 obtain ⟨hwo, hb6⟩ := HWO.out
 obtain ⟨g9, cur0, hA1, hg9, hbk9, hc9, hm9, hl9, ht9⟩ := row_open HO.out hTpos
 subst hA1
 have hs0 := HB0.out.size
 have h5s := HW5.out.size
 have h6s := hb6.size
 have hg5 := hbk9.lt
 have hbk6 := hbk9.below hb6 hbk9.lt
 obtain ⟨b10, hb10⟩ : ∃ b10, w6.heap.size = b10 := ⟨_, rfl⟩
 have hwl := fun g e => (hwo.lt g e).2
 have R0 : Hid (RcAt W0 w6 g9 c1 T b10 (.slice none 0 0) (.slice A11 ws.length c11) ws cur0 [] /\ cur0.take T = cellsOf .u8 (cuts T (zs.take T) (nI (ws.take 0))).1) := Lib.hid ⟨⟨hbk6, by rw [hl9, Nat.mul_one], own_base hwo h5s, World.ownsRow_nil _ _ _ _, fun g e => by rw [<- hb10]; exact hwl g e, ⟨by have := HW5.out.size; omega, by omega, by omega⟩, hb, by omega⟩, by rw [Nat.mul_one] at ht9; exact ht9⟩
 have hws2 : ws.length <= 1099511627776 := by have := HML.out.1; have := HML.out.2; omega
 have hm9' : c1 <= 9223372036854775807 := by unfold maxLen at hm9; omega
 clear hwo hbk9 hbk6 hl9 ht9 hwl HWO HO hb10 hb hb6
 go_loopw [10, 12] (fun v10 s wr => ∃ (p : Nat) (cur : List Value), s = .int .i64 p /\ p <= ws.length /\ Hid (RcAt W0 wr g9 c1 T b10 v10 (.slice A11 ws.length c11) ws cur (cuts T (zs.take T) (nI (ws.take p))).2 /\ cur.take T = cellsOf .u8 (cuts T (zs.take T) (nI (ws.take p))).1)) (fun _ s _ => ws.length - (intOf s).toNat)
 case atStart => exact ⟨0, cur0, rfl, Nat.zero_le _, R0⟩
 case round =>
   obtain ⟨p, cur, rfl, hp, H⟩ := hrel
   by_cases hlt3 : p < ws.length
   · obtain ⟨q, hq⟩ : ∃ q, ws[p]? = some q := ⟨_, List.getElem?_eq_getElem hlt3⟩
     have hq8 := HWL.out q (List.mem_of_getElem? hq)
     have hnx : nI (ws.take (p + 1)) = nI (ws.take p) ++ [(q : Int)] := by rw [take_snoc hq, nI_app]; rfl
     have hqd : (nI ws).getD p 0 = (q : Int) := by rw [List.getD_eq_getElem?_getD]; unfold nI; rw [List.getElem?_map, hq]; rfl
     obtain ⟨k1, k2, k3, k4⟩ := HOK.out (nI (ws.take p)) (nI (ws.drop p)) (by rw [<- nI_app, List.take_append_drop])
     obtain ⟨bl, off, hA11, -, h1c⟩ := (Reads.of_own H.out.1.wrow).plain (by omega)
     subst hA11
     have hown0 : wr.ownsRow 0 5 1 (.slice (some ⟨g9, 0, none⟩) T c1) T (cellsOf .u8 (cuts T (zs.take T) (nI (ws.take p))).1) := row_shut (Nat.zero_le _) H.out.1.out hc9 hm9 (by rw [H.out.1.len, Nat.mul_one]) (by rw [Nat.mul_one]; exact H.out.2) (by simp [cellsOf, k1])
     have GE := Lib.hid (rget_any (some ⟨g9, 0, none⟩) T c1 (q : Int) 8 (cuts T (zs.take T) (nI (ws.take p))).1 wr (Reads.of_own hown0) k2 hc9 hm9' (by omega) (by omega) (by omega) (by omega))
     obtain ⟨u, hu⟩ : ∃ u, gnum (cuts T (zs.take T) (nI (ws.take p))).1 (q : Nat) 8 = u := ⟨_, rfl⟩
     rw [hu] at GE
     have q1 := h1c p hlt3
     rw [hqd] at q1
     have i5 : (p : Int) < (ws.length : Int) := by omega
     obtain ⟨ct, hct⟩ : ∃ ct, (cuts T (zs.take T) (nI (ws.take p))).2 = ct := ⟨_, rfl⟩
     have hctl : ct.length <= ws.length := by rw [<- hct]; exact Nat.le_trans k3 (by rw [nI_len, List.length_take]; omega)
     rw [hct] at H
     obtain ⟨A10, c10, rfl, -, -⟩ := own_form H.out.1.crow
     by_cases hge : (T : Int) <= u
     · have hd : decide ((T : Int) <= u) = true := decide_eq_true hge
       have HY := Lib.hid (And.intro (cuts_yes (C0 := zs.take T) (pre := nI (ws.take p)) (q := q) (T := T) (by rw [hu]; exact hge)) (And.intro hnx hct))
       have HQ := Lib.hid hq
       clear hu hge hown0 k1 k2 k3 k4 hq hnx hqd h1c hct
       go_wp2_with (go_at_call 36; refine GE.out.mono ?_; rintro e w7 ⟨rfl, rfl⟩)
       have hqT : (q : Int) + 8 <= (T : Int) := by omega
       have H2 : Hid (RcAt W0 wr g9 c1 T b10 (.slice A10 ct.length c10) (.slice (some ⟨bl, off, none⟩) ws.length c11) ws (splice cur q (List.replicate 0 (.int .u8 0))) ct) := Lib.hid (by
         have h1 := H.out.1
         have h2 := h1.len
         rw [List.replicate_zero, splice_none _ _ (by omega)]; exact h1)
       have HCT := Lib.hid H.out.2
       have HCL := Lib.hid H.out.1.len
       clear H q1
       go_loopw [15] (fun s wr => ∃ (kk : Nat), s = .int .i64 kk /\ kk <= 8 /\ Hid (RcAt W0 wr g9 c1 T b10 (.slice A10 ct.length c10) (.slice (some ⟨bl, off, none⟩) ws.length c11) ws (splice cur q (List.replicate kk (.int .u8 0))) ct)) (fun s _ => 8 - (intOf s).toNat)
       case atStart => exact ⟨0, rfl, Nat.zero_le _, H2⟩
       case round =>
         obtain ⟨kk, rfl, hkk, H⟩ := hrel
         obtain ⟨bl2, off2, hA2, -, h1c⟩ := (Reads.of_own H.out.wrow).plain (by omega)
         injection hA2 with hA2
         injection hA2 with e1 e2 e3
         have q1 := h1c p hlt3
         have hqd : (nI ws).getD p 0 = (q : Int) := by rw [List.getD_eq_getElem?_getD]; unfold nI; rw [List.getElem?_map, HQ.out]; rfl
         rw [hqd, <- e1, <- e2] at q1
         clear h1c hqd e1 e2 e3
         by_cases hlt4 : kk < 8
         · obtain ⟨u9, hu9⟩ : ∃ u9, (splice cur q (List.replicate kk (Value.int .u8 0)))[q + kk]? = some u9 := ⟨_, List.getElem?_eq_getElem (by have := H.out.len; omega)⟩
           have hcz : wr.cell? ⟨g9, q + kk, none⟩ = some u9 := by
             have := H.out.out.cell (q + kk)
             rw [this, List.getElem?_toArray]; exact hu9
           have hfz := H.out.out.frozen (q + kk)
           have i6 : (q : Int) + (kk : Int) < (T : Int) := by omega
           have HN : Hid (RcAt W0 (wr.setCell ⟨g9, q + kk, none⟩ (.int .u8 0)) g9 c1 T b10 (.slice A10 ct.length c10) (.slice (some ⟨bl, off, none⟩) ws.length c11) ws (splice cur q (List.replicate (kk + 1) (.int .u8 0))) ct) := Lib.hid (by
             have h1 := H.out.set (q + kk) (.int .u8 0)
             have h2 := H.out.len
             rw [splice_lenV _ _ _ (by rw [List.length_replicate]; have := HCL.out; omega)] at h2
             rw [splice_rep (by omega)] at h1
             exact h1)
           clear hu9
           go_wp2
           go_roundw
           case rel => exact ⟨kk + 1, by go_num, by omega, HN⟩
           case measure => simp [intOf]; omega
         · obtain rfl : kk = 8 := by omega
           have s2 : ct.length + 1 <= maxLen := by unfold maxLen; omega
           have s3 : (ct.length + 1) * 8 <= 140737488355328 := by omega
           go_wp2_with (at_builtin; go_loud (refine wpList_append_any _ rfl _ _ 30 rfl b10 3 i1 (.int .i64 0) 1 8 Tryz.underlying30 hi1 hy0 hy1 hy2 rfl (Nat.lt_succ_self 0) (.slice A10 ct.length c10) ct.length (cellsOf .i64 (nI ct)) rfl (H.out.crow.alloc _) _ _ 1 1 [.int .i64 (q : Int)] rfl (Reads.newN wr 3 #[.int .i64 (q : Int)]) (intOne _) s2 s3 (by have := H.out.top; simp; omega) ?_; intro v1 w1 hown1 hg1 hat1; have HN := Lib.hid (H.out.push hown1 hg1); clear hown1 hg1 hat1))
           go_roundw
           case rel =>
             refine ⟨p + 1, splice cur q (List.replicate 8 (.int .u8 0)), by go_num, by omega, ?_⟩
             obtain ⟨g1, g2, g3⟩ := HY.out
             rw [g2, g1, g3]
             have h9 := HCL.out
             exact Lib.hid ⟨HN.out, by rw [take_splice HCT.out (by omega) (by rw [List.length_replicate]; omega), <- cells_zero, splice_cells]⟩
           case measure => simp [intOf]; omega
     · have hd : decide ((T : Int) <= u) = false := decide_eq_false hge
       have HN := Lib.hid (And.intro (cuts_no (C0 := zs.take T) (pre := nI (ws.take p)) (q := q) (T := T) (by rw [hu]; exact hge)) (And.intro hnx hct))
       clear hu hge hown0 k1 k2 k3 k4 hq hnx hqd h1c hct
       go_wp2_with (go_at_call 36; refine GE.out.mono ?_; rintro e w7 ⟨rfl, rfl⟩)
       go_roundw
       case rel => exact ⟨p + 1, cur, by go_num, by omega, by rw [HN.out.2.1, HN.out.1, HN.out.2.2]; exact H⟩
       case measure => simp [intOf]; omega
   · obtain rfl : p = ws.length := by omega
     obtain ⟨A10, c10, rfl, -, -⟩ := own_form H.out.1.crow
     have hct2 := HOK.out (nI (ws.take ws.length)) [] (by rw [List.take_length, List.append_nil])
     go_wp2
     refine bodyPost_ret (results_tmp3 rfl _ _ _) rfl ?_
     obtain ⟨R, ht⟩ := H.out
     rw [List.take_length] at R ht
     have hk1 : (cuts T (zs.take T) (nI ws)).1.length = T := (HOK.out (nI ws) [] (by rw [List.append_nil])).1
     have h1 : wr.ownsRow w.heap.size 5 1 (.slice (some ⟨g9, 0, none⟩) T c1) T (cellsOf .u8 (cuts T (zs.take T) (nI ws)).1) := row_shut (by have := R.lo; omega) R.out hc9 hm9 (by rw [R.len, Nat.mul_one]) (by rw [Nat.mul_one]; exact ht) (by simp [cellsOf, hk1])
     have h2 := own_base R.crow (show w.heap.size <= b10 by have := R.lo; omega)
     have e1 : cuts T (zs.take T) (nI ws) = cutW d f L zs T := by rw [cuts_all, <- HWS.out]; rfl
     have e2 : cuts T (zs.take T) (nI (ws.take ws.length)) = cutW d f L zs T := by rw [List.take_length]; exact e1
     rw [e1] at h1 h2
     rw [e2]
     exact ⟨_, _, _, rfl, h1, h2, hc9, hm9', HB0.out.trans (R.below.mono hs0)⟩
set_option maxHeartbeats 2000000 in
theorem rcut_no {B : Nat} (i k d f m : Int) (A : Option Addr) (n c : Nat) (zs : List Int) (to : Int) (L : List SR) (w : World) (hr : Reads w B 1 A n (cellsOf .u8 zs)) (hB : B <= w.heap.size) (hz : AreB zs) (hl : n <= c) (hcap : c <= 9223372036854775807) (hm : n <= 549755813888)
 (hR : rightH d f = true) (t0 : -9223372036854775808 <= to) (t1 : to <= 9223372036854775807) (hL : scanAt (zs.take (cutN n to)) (newK d f : Nat) L) (hno : to < ((newK d f : Nat) : Int) ∨ wholeB n (newK d f : Nat) to L = false) :
 Calls Tryz.prog 9 #[hdV i k d f m, .slice A n c, .int .i64 to] w fun e w' => e = .returned (.tuple #[.slice none 0 0, .slice none 0 0, .bool false]) /\ Below w.heap.size w w' := by
 obtain ⟨d1, d2, d3, d4⟩ := rightH_bd hR
 have hnk := newK_val ⟨d1, d2⟩ ⟨d3, d4⟩
 have hnk2 : 256 + 8 * (d + f) = ((newK d f : Nat) : Int) := by omega
 have hb0 : Below w.heap.size w (w.alloc (.cells #[.int .u64 i, .int .u64 k, .int .i64 d, .int .i64 f, .int .u64 m] 27)) := boxed w _
 have x0 := Blk.new w 27 #[.int .u64 i, .int .u64 k, .int .i64 d, .int .i64 f, .int .u64 m]
 obtain ⟨W0, hW0⟩ : ∃ W0, w.alloc (.cells #[.int .u64 i, .int .u64 k, .int .i64 d, .int .i64 f, .int .u64 m] 27) = W0 := ⟨_, rfl⟩
 rw [hW0] at hb0 x0
 have HC : Hid (∀ wx, Below W0.heap.size W0 wx -> (wx.cell? ⟨w.heap.size, 0, none⟩ = some (.int .u64 i) /\ wx.cell? ⟨w.heap.size, 1, none⟩ = some (.int .u64 k) /\ wx.cell? ⟨w.heap.size, 2, none⟩ = some (.int .i64 d) /\ wx.cell? ⟨w.heap.size, 3, none⟩ = some (.int .i64 f) /\ wx.cell? ⟨w.heap.size, 4, none⟩ = some (.int .u64 m))) := Lib.hid (fun wx hx => by
   have h0 := x0.below hx x0.lt
   exact ⟨h0.cell 0, h0.cell 1, h0.cell 2, h0.cell 3, h0.cell 4⟩)
 have RI := Lib.hid (fun wx => rhright_any i k d f m wx)
 rw [hR] at RI
 have OB := Lib.hid (fun wx => rhobjects_any i k d f m wx (by omega) d2 (by omega) d4)
 rw [hnk2] at OB
 have WH := Lib.hid (fun wx (hx : Below w.heap.size w wx) => rwhole_any A n c zs (newK d f : Nat) to L wx (hr.below (hx.mono hB)) (Nat.le_trans hB hx.size) hz hl hcap (by omega) (by omega) (by omega) t0 t1 hL)
 have HB0 := Lib.hid hb0
 obtain ⟨y0, y1, y2, y3, y4⟩ := HC.out _ (Below.refl _ _)
 have hb : Below W0.heap.size W0 W0 := Below.refl _ _
 obtain ⟨K, hK⟩ : ∃ K : Int, ((newK d f : Nat) : Int) = K := ⟨_, rfl⟩
 rw [hK] at OB hno WH
 clear hL hr hz hb0 x0 hnk hnk2 hK
 by_cases c1 : to < K
 · have hd : decide (to < K) = true := decide_eq_true c1
   clear hno
   go_enter Tryz.func9, Tryz.ntmps9
   go_wp2_with (first
     | (go_at_call 33; refine (RI.out _).mono ?_; rintro e wx ⟨rfl, hbx⟩; have hb := hb.trans (hbx.mono hb.size); clear hbx y0 y1 y2 y3 y4; obtain ⟨y0, y1, y2, y3, y4⟩ := HC.out _ hb)
     | (go_at_call 34; refine (OB.out _).mono ?_; rintro e wx ⟨rfl, hbx⟩; have hb := hb.trans (hbx.mono hb.size); clear hbx y0 y1 y2 y3 y4; obtain ⟨y0, y1, y2, y3, y4⟩ := HC.out _ hb))
   refine bodyPost_ret (results_tmp3 rfl _ _ _) rfl ?_
   exact ⟨rfl, HB0.out.trans (hb.mono HB0.out.size)⟩
 have hw : wholeB n K to L = false := hno.resolve_left c1
 rw [hw] at WH
 have hd : decide (to < K) = false := decide_eq_false c1
 clear hno hw
 by_cases c2 : (n : Int) < to
 · have hd2 : decide ((n : Int) < to) = true := decide_eq_true c2
   go_enter Tryz.func9, Tryz.ntmps9
   go_wp2_with (first
     | (go_at_call 33; refine (RI.out _).mono ?_; rintro e wx ⟨rfl, hbx⟩; have hb := hb.trans (hbx.mono hb.size); clear hbx y0 y1 y2 y3 y4; obtain ⟨y0, y1, y2, y3, y4⟩ := HC.out _ hb)
     | (go_at_call 34; refine (OB.out _).mono ?_; rintro e wx ⟨rfl, hbx⟩; have hb := hb.trans (hbx.mono hb.size); clear hbx y0 y1 y2 y3 y4; obtain ⟨y0, y1, y2, y3, y4⟩ := HC.out _ hb))
   refine bodyPost_ret (results_tmp3 rfl _ _ _) rfl ?_
   exact ⟨rfl, HB0.out.trans (hb.mono HB0.out.size)⟩
 · have hd2 : decide ((n : Int) < to) = false := decide_eq_false c2
   go_enter Tryz.func9, Tryz.ntmps9
   go_wp2_with (first
     | (go_at_call 33; refine (RI.out _).mono ?_; rintro e wx ⟨rfl, hbx⟩; have hb := hb.trans (hbx.mono hb.size); clear hbx y0 y1 y2 y3 y4; obtain ⟨y0, y1, y2, y3, y4⟩ := HC.out _ hb)
     | (go_at_call 34; refine (OB.out _).mono ?_; rintro e wx ⟨rfl, hbx⟩; have hb := hb.trans (hbx.mono hb.size); clear hbx y0 y1 y2 y3 y4; obtain ⟨y0, y1, y2, y3, y4⟩ := HC.out _ hb)
     | (go_at_call 35; refine (WH.out _ (HB0.out.trans (hb.mono HB0.out.size))).mono ?_; rintro e wx ⟨rfl, hbx⟩; have hb := hb.trans (hbx.mono hb.size); clear hbx y0 y1 y2 y3 y4; obtain ⟨y0, y1, y2, y3, y4⟩ := HC.out _ hb))
   refine bodyPost_ret (results_tmp3 rfl _ _ _) rfl ?_
   exact ⟨rfl, HB0.out.trans (hb.mono HB0.out.size)⟩
attribute [local go_sem] Oper.semAt_some
set_option maxHeartbeats 4000000 in
theorem cut_no {B : Nat} (i k d f m : Int) (A : Option Addr) (n c : Nat) (zs : List Int) (to : Int) (L : List SR) (w : World) (hr : Reads w B 1 A n (cellsOf .u8 zs)) (hB : B <= w.heap.size) (hz : AreB zs) (hl : n <= c) (hcap : c <= 9223372036854775807) (hm : n <= 549755813888)
 (hR : rightH d f = true) (t0 : -9223372036854775808 <= to) (t1 : to <= 9223372036854775807) (hL : scanAt (zs.take (cutN n to)) (newK d f : Nat) L) (hno : to < ((newK d f : Nat) : Int) ∨ wholeB n (newK d f : Nat) to L = false) :
 Calls Tryz.prog 8 #[hdV i k d f m, .slice A n c, .int .i64 to] w fun e w' => e = .returned (.tuple #[.slice none 0 0, .slice none 0 0, .bool false]) /\ Below w.heap.size w w' := by
 obtain ⟨d1, d2, d3, d4⟩ := rightH_bd hR
 have hnk := newK_val ⟨d1, d2⟩ ⟨d3, d4⟩
 have hnk2 : 256 + 8 * (d + f) = ((newK d f : Nat) : Int) := by omega
 have hb0 : Below w.heap.size w ((w.alloc (.cells #[.int .u64 i, .int .u64 k, .int .i64 d, .int .i64 f, .int .u64 m] 26)).alloc (.cells #[.int .i64 to] 3)) := (boxed w _).alloc (boxed w _).size _
 have x0 := (Blk.new w 26 #[.int .u64 i, .int .u64 k, .int .i64 d, .int .i64 f, .int .u64 m]).alloc (.cells #[.int .i64 to] 3)
 have x1 := Blk.new (w.alloc (.cells #[.int .u64 i, .int .u64 k, .int .i64 d, .int .i64 f, .int .u64 m] 26)) 3 #[.int .i64 to]
 rw [World.size_alloc] at x1
 obtain ⟨W0, hW0⟩ : ∃ W0, (w.alloc (.cells #[.int .u64 i, .int .u64 k, .int .i64 d, .int .i64 f, .int .u64 m] 26)).alloc (.cells #[.int .i64 to] 3) = W0 := ⟨_, rfl⟩
 rw [hW0] at hb0 x0 x1
 have HS : Hid (∀ wx, Below W0.heap.size W0 wx -> (wx.cell? ⟨w.heap.size, 0, none⟩ = some (.int .u64 i) /\ wx.cell? ⟨w.heap.size, 1, none⟩ = some (.int .u64 k) /\ wx.cell? ⟨w.heap.size, 2, none⟩ = some (.int .i64 d) /\ wx.cell? ⟨w.heap.size, 3, none⟩ = some (.int .i64 f) /\ wx.cell? ⟨w.heap.size, 4, none⟩ = some (.int .u64 m) /\ wx.cell? ⟨w.heap.size + 1, 0, none⟩ = some (.int .i64 to))) := Lib.hid (fun wx hx => by
   have h0 := x0.below hx x0.lt
   have h1 := x1.below hx x1.lt
   exact ⟨h0.cell 0, h0.cell 1, h0.cell 2, h0.cell 3, h0.cell 4, h1.cell 0⟩)
 have RI := Lib.hid (fun wx => hright_any i k d f m wx)
 rw [hR] at RI
 have OB := Lib.hid (fun wx => hobjects_any i k d f m wx (by omega) d2 (by omega) d4)
 rw [hnk2] at OB
 have WH := Lib.hid (fun wx (hx : Below w.heap.size w wx) => scWhole_any A n c zs (newK d f : Nat) to L wx (hr.below (hx.mono hB)) (Nat.le_trans hB hx.size) hz hl hcap (by omega) (by omega) (by omega) t0 t1 hL)
 have HB0 := Lib.hid hb0
 obtain ⟨K, hK⟩ : ∃ K : Int, ((newK d f : Nat) : Int) = K := ⟨_, rfl⟩
 rw [hK] at OB hno WH
 clear hL hr hz hb0 x0 x1 hnk hnk2 hK
 have hb : Below W0.heap.size W0 W0.drew := below_drewn (Below.refl _ _) 1
 by_cases c1 : to < K
 · have hd : decide (to < K) = true := decide_eq_true c1
   clear hno
   go_enter Tryz.func8, Tryz.ntmps8
   go_wp2
   refine wp_region_held_drew (S := fun w' => w'.cell? ⟨w.heap.size, 0, none⟩ = some (.int .u64 i) /\ w'.cell? ⟨w.heap.size, 1, none⟩ = some (.int .u64 k) /\ w'.cell? ⟨w.heap.size, 2, none⟩ = some (.int .i64 d) /\ w'.cell? ⟨w.heap.size, 3, none⟩ = some (.int .i64 f) /\ w'.cell? ⟨w.heap.size, 4, none⟩ = some (.int .u64 m) /\ w'.cell? ⟨w.heap.size + 1, 0, none⟩ = some (.int .i64 to)) (by kernel_rfl) (HS.out _ hb) (fun hHeld => ?_)
   refine takeH_yes (i := 0) (v := ?_) rfl (by kernel_rfl) (by kernel_rfl) (by kernel_rfl) (fun _ _ _ h => h) (by kernel_rfl) ?_ (by assumption) ?_
   rotate_left
   · intro wz hSw; (try dsimp only at hSw); go_simp; try with_reducible rfl
   simp only [Act.put, lS, lZ, lC]
   refine oneH (i := 1) rfl (by kernel_rfl) (fun K hK => ?_)
   go_simp
   go_at_call 27
   refine (RI.out _).mono ?_
   rintro e w1 ⟨rfl, hb1⟩
   have hb := hb.trans (hb1.mono hb.size)
   refine hK.out _ _ (HS.out _ hb) (fun hHeld => ?_)
   clear hK K
   try simp only [Act.put, lS, lZ, lC]
   refine takeH_yes (i := 2) (v := ?_) rfl (by kernel_rfl) (by kernel_rfl) (by kernel_rfl) (fun _ _ _ h => h) (by kernel_rfl) ?_ (by assumption) ?_
   rotate_left
   · intro wz hSw; (try dsimp only at hSw); go_simp; try with_reducible rfl
   simp only [Act.put, lS, lZ, lC]
   refine takeH_yes (i := 3) (v := ?_) rfl (by kernel_rfl) (by kernel_rfl) (by kernel_rfl) (fun _ _ _ h => h) (by kernel_rfl) ?_ (by assumption) ?_
   rotate_left
   · intro wz hSw; (try dsimp only at hSw); go_simp; try with_reducible rfl
   simp only [Act.put, lS, lZ, lC]
   refine takeH_yes (i := 4) (v := ?_) rfl (by kernel_rfl) (by kernel_rfl) (by kernel_rfl) (fun _ _ _ h => h) (by kernel_rfl) ?_ (by assumption) ?_
   rotate_left
   · intro wz hSw; (try dsimp only at hSw); go_simp; try with_reducible rfl
   simp only [Act.put, lS, lZ, lC]
   refine takeH_yes (i := 5) (v := ?_) rfl (by kernel_rfl) (by kernel_rfl) (by kernel_rfl) (fun _ _ _ h => h) (by kernel_rfl) ?_ (by assumption) ?_
   rotate_left
   · intro wz hSw; (try dsimp only at hSw); go_simp; try with_reducible rfl
   simp only [Act.put, lS, lZ, lC]
   refine oneH (i := 6) rfl (by kernel_rfl) (fun K hK => ?_)
   go_simp
   go_at_call 28
   refine (OB.out _).mono ?_
   rintro e w2 ⟨rfl, hb2⟩
   have hb := hb.trans (hb2.mono hb.size)
   refine hK.out _ _ (HS.out _ hb) (fun hHeld => ?_)
   clear hK
   try simp only [Act.put, lS, lZ, lC]
   refine takeH_yes (i := 7) (v := ?_) rfl (by kernel_rfl) (by kernel_rfl) (by kernel_rfl) (fun _ _ _ h => h) (by kernel_rfl) ?_ (by assumption) ?_
   rotate_left
   · intro wz hSw; (try dsimp only at hSw); go_simp; try with_reducible rfl
   simp only [Act.put, lS, lZ, lC]
   refine takeH_yes (i := 8) (v := ?_) rfl (by kernel_rfl) (by kernel_rfl) (by kernel_rfl) (fun _ _ _ h => h) (by kernel_rfl) ?_ (by assumption) ?_
   rotate_left
   · intro wz hSw; (try dsimp only at hSw); go_simp; try with_reducible rfl
   simp only [Act.put, lS, lZ, lC]
   refine takeH_yes (i := 9) (v := ?_) rfl (by kernel_rfl) (by kernel_rfl) (by kernel_rfl) (fun _ _ _ h => h) (by kernel_rfl) ?_ (by assumption) ?_
   rotate_left
   · intro wz hSw; (try dsimp only at hSw); go_simp; try with_reducible rfl
   simp only [Act.put, lS, lZ, lC]
   refine takeH_no (i := 10) rfl (by kernel_rfl) (by kernel_rfl) (by kernel_rfl) (fun _ _ _ h => h) (by kernel_rfl) (by assumption) ?_
   simp only [Act.put, lS, lZ, lC]
   refine takeH_no (i := 11) rfl (by kernel_rfl) (by kernel_rfl) (by kernel_rfl) (fun _ _ _ h => h) (by kernel_rfl) (by assumption) ?_
   simp only [Act.put, lS, lZ, lC]
   refine takeH_no (i := 12) rfl (by kernel_rfl) (by kernel_rfl) (by kernel_rfl) (fun _ _ _ h => h) (by kernel_rfl) (by assumption) ?_
   simp only [Act.put, lS, lZ, lC]
   refine takeH_no (i := 13) rfl (by kernel_rfl) (by kernel_rfl) (by kernel_rfl) (fun _ _ _ h => h) (by kernel_rfl) (by assumption) ?_
   simp only [Act.put, lS, lZ, lC]
   refine takeH_no (i := 14) rfl (by kernel_rfl) (by kernel_rfl) (by kernel_rfl) (fun _ _ _ h => h) (by kernel_rfl) (by assumption) ?_
   simp only [Act.put, lS, lZ, lC]
   refine takeH_no (i := 15) rfl (by kernel_rfl) (by kernel_rfl) (by kernel_rfl) (fun _ _ _ h => h) (by kernel_rfl) (by assumption) ?_
   simp only [Act.put, lS, lZ, lC]
   refine takeH_yes (i := 16) (v := ?_) rfl (by kernel_rfl) (by kernel_rfl) (by kernel_rfl) (fun _ _ _ h => h) (by kernel_rfl) ?_ (by assumption) ?_
   rotate_left
   · intro wz hSw; (try dsimp only at hSw); go_simp; try with_reducible rfl
   simp only [Act.put, lS, lZ, lC]
   refine wpAnyH_done (by kernel_rfl) ?_ _
   go_wp2
   refine bodyPost_ret (results_tmp3 rfl _ _ _) rfl ?_
   exact ⟨rfl, HB0.out.trans (hb.mono HB0.out.size)⟩
 · have hw : wholeB n K to L = false := hno.resolve_left c1
   rw [hw] at WH
   have hd : decide (to < K) = false := decide_eq_false c1
   clear hno hw
   refine (callsIn_wide (n := 10)).1 ?_
   refine callsIn_of_wp_marks Tryz.func8 rfl trivial ?_ rfl
   simp only [Tryz.ntmps8, List.size_toArray, List.length_cons, List.length_nil, Nat.reduceAdd, Nat.reduceSub, Array.replicate_succ, Array.replicate_zero, List.push_toArray, List.append_toArray, List.nil_append, List.cons_append]
   gi_wp2
   refine region_wide (S := fun w' => w'.cell? ⟨w.heap.size, 0, none⟩ = some (.int .u64 i) /\ w'.cell? ⟨w.heap.size, 1, none⟩ = some (.int .u64 k) /\ w'.cell? ⟨w.heap.size, 2, none⟩ = some (.int .i64 d) /\ w'.cell? ⟨w.heap.size, 3, none⟩ = some (.int .i64 f) /\ w'.cell? ⟨w.heap.size, 4, none⟩ = some (.int .u64 m) /\ w'.cell? ⟨w.heap.size + 1, 0, none⟩ = some (.int .i64 to)) 16 (by kernel_rfl) (by kernel_rfl) (HS.out _ hb) (fun hHeld => ?_)
   refine takeZ_yes (i := 0) (v := ?_) rfl (by kernel_rfl) (by kernel_rfl) (by kernel_rfl) (by kernel_rfl) (fun _ _ _ h => h) (by kernel_rfl) ?_ (by assumption) ?_
   rotate_left
   · intro wz hSw; (try dsimp only at hSw); go_simp; try with_reducible rfl
   simp only [Act.put, lS, lZ, lC]
   refine wpAnyZ_ready (rs := [1]) (by kernel_rfl) (by simp) (AllReadyZ.cons rfl (fun K hK => ?_) AllReadyZ.nil)
   go_simp
   go_at_call 27
   refine (RI.out _).mono ?_
   rintro e w1 ⟨rfl, hb1⟩
   have hb := hb.trans (hb1.mono hb.size)
   refine hK.out _ _ (HS.out _ hb) (fun hHeld => ?_)
   clear hK
   try simp only [Act.put, lS, lZ, lC]
   refine takeZ_yes (i := 2) (v := ?_) rfl (by kernel_rfl) (by kernel_rfl) (by kernel_rfl) (by kernel_rfl) (fun _ _ _ h => h) (by kernel_rfl) ?_ (by assumption) ?_
   rotate_left
   · intro wz hSw; (try dsimp only at hSw); go_simp; try with_reducible rfl
   simp only [Act.put, lS, lZ, lC]
   refine takeZ_yes (i := 3) (v := ?_) rfl (by kernel_rfl) (by kernel_rfl) (by kernel_rfl) (by kernel_rfl) (fun _ _ _ h => h) (by kernel_rfl) ?_ (by assumption) ?_
   rotate_left
   · intro wz hSw; (try dsimp only at hSw); go_simp; try with_reducible rfl
   simp only [Act.put, lS, lZ, lC]
   refine takeZ_yes (i := 4) (v := ?_) rfl (by kernel_rfl) (by kernel_rfl) (by kernel_rfl) (by kernel_rfl) (fun _ _ _ h => h) (by kernel_rfl) ?_ (by assumption) ?_
   rotate_left
   · intro wz hSw; (try dsimp only at hSw); go_simp; try with_reducible rfl
   simp only [Act.put, lS, lZ, lC]
   refine takeZ_yes (i := 5) (v := ?_) rfl (by kernel_rfl) (by kernel_rfl) (by kernel_rfl) (by kernel_rfl) (fun _ _ _ h => h) (by kernel_rfl) ?_ (by assumption) ?_
   rotate_left
   · intro wz hSw; (try dsimp only at hSw); go_simp; try with_reducible rfl
   simp only [Act.put, lS, lZ, lC]
   refine wpAnyZ_ready (rs := [6]) (by kernel_rfl) (by simp) (AllReadyZ.cons rfl (fun K hK => ?_) AllReadyZ.nil)
   go_simp
   go_at_call 28
   refine (OB.out _).mono ?_
   rintro e w2 ⟨rfl, hb2⟩
   have hb := hb.trans (hb2.mono hb.size)
   refine hK.out _ _ (HS.out _ hb) (fun hHeld => ?_)
   clear hK
   try simp only [Act.put, lS, lZ, lC]
   refine takeZ_yes (i := 7) (v := ?_) rfl (by kernel_rfl) (by kernel_rfl) (by kernel_rfl) (by kernel_rfl) (fun _ _ _ h => h) (by kernel_rfl) ?_ (by assumption) ?_
   rotate_left
   · intro wz hSw; (try dsimp only at hSw); go_simp; try with_reducible rfl
   simp only [Act.put, lS, lZ, lC]
   refine takeZ_yes (i := 8) (v := ?_) rfl (by kernel_rfl) (by kernel_rfl) (by kernel_rfl) (by kernel_rfl) (fun _ _ _ h => h) (by kernel_rfl) ?_ (by assumption) ?_
   rotate_left
   · intro wz hSw; (try dsimp only at hSw); go_simp; try with_reducible rfl
   simp only [Act.put, lS, lZ, lC]
   refine takeZ_yes (i := 9) (v := ?_) rfl (by kernel_rfl) (by kernel_rfl) (by kernel_rfl) (by kernel_rfl) (fun _ _ _ h => h) (by kernel_rfl) ?_ (by assumption) ?_
   rotate_left
   · intro wz hSw; (try dsimp only at hSw); go_simp; try with_reducible rfl
   simp only [Act.put, lS, lZ, lC]
   refine takeZ_yes (i := 10) (v := ?_) rfl (by kernel_rfl) (by kernel_rfl) (by kernel_rfl) (by kernel_rfl) (fun _ _ _ h => h) (by kernel_rfl) ?_ (by assumption) ?_
   rotate_left
   · intro wz hSw; (try dsimp only at hSw); go_simp; try with_reducible rfl
   simp only [Act.put, lS, lZ, lC]
   refine takeZ_yes (i := 11) (v := ?_) rfl (by kernel_rfl) (by kernel_rfl) (by kernel_rfl) (by kernel_rfl) (fun _ _ _ h => h) (by kernel_rfl) ?_ (by assumption) ?_
   rotate_left
   · intro wz hSw; (try dsimp only at hSw); go_simp; try with_reducible rfl
   simp only [Act.put, lS, lZ, lC]
   refine takeZ_yes (i := 13) (v := ?_) rfl (by kernel_rfl) (by kernel_rfl) (by kernel_rfl) (by kernel_rfl) (fun _ _ _ h => h) (by kernel_rfl) ?_ (by assumption) ?_
   rotate_left
   · intro wz hSw; (try dsimp only at hSw); go_simp; try with_reducible rfl
   simp only [Act.put, lS, lZ, lC]
   refine wpAnyZ_ready (rs := [12]) (by kernel_rfl) (by simp) (AllReadyZ.cons rfl (fun K hK => ?_) AllReadyZ.nil)
   go_simp
   go_at_call 28
   refine (OB.out _).mono ?_
   rintro e w3 ⟨rfl, hb3⟩
   have hb := hb.trans (hb3.mono hb.size)
   refine hK.out _ _ (HS.out _ hb) (fun hHeld => ?_)
   clear hK
   try simp only [Act.put, lS, lZ, lC]
   refine wpAnyZ_ready (rs := [14]) (by kernel_rfl) (by simp) (AllReadyZ.cons rfl (fun K hK => ?_) AllReadyZ.nil)
   go_simp
   go_at_call 29
   refine (WH.out _ (HB0.out.trans (hb.mono HB0.out.size))).mono ?_
   rintro e w4 ⟨rfl, hb4⟩
   have hb := hb.trans (hb4.mono hb.size)
   refine hK.out _ _ (HS.out _ hb) (fun hHeld => ?_)
   clear hK
   try simp only [Act.put, lS, lZ, lC]
   refine takeZ_yes (i := 15) (v := ?_) rfl (by kernel_rfl) (by kernel_rfl) (by kernel_rfl) (by kernel_rfl) (fun _ _ _ h => h) (by kernel_rfl) ?_ (by assumption) ?_
   rotate_left
   · intro wz hSw; (try dsimp only at hSw); go_simp; try with_reducible rfl
   simp only [Act.put, lS, lZ, lC]
   refine wpAnyZ_ready (rs := [16]) (by kernel_rfl) (by simp) (AllReadyZ.last rfl (fun K hK => ?_))
   go_simp
   refine hK.out _ _ ?_
   clear hK
   refine wpAnyZ_done (by kernel_rfl) ?_ _
   dsimp only [OnNormal, Exit.then]
   gi_wp2
   refine ⟨_, results_tmp3 rfl _ _ _, rfl, HB0.out.trans (hb.mono HB0.out.size)⟩
section
variable {w wr w5 w6 w' : World} {S T : Nat -> Prop} {v v' : Value} {l : List RC}
end
section
variable {hI hM hK hD hF : Int} {w wr wx w3 w4 : World} {p t0 m k : Nat} {b0 : List Int} {v : Value} {r : RC}
end
section
variable {hI hM hK hD hF : Int} {w wr wx w3 w4 : World} {p t0 m k : Nat} {b0 was : List Int} {v : Value} {l : List RC} {r : RC}
end
theorem cutF_same (t : Int) : ∀ (ws : List Nat) (s : List Int × List Nat), s.2.length <= (cutF t ws s).2.length /\ ((cutF t ws s).2.length = s.2.length -> (cutF t ws s).1 = s.1)
 | [], s => ⟨Nat.le_refl _, fun _ => rfl⟩
 | w :: ws, s => by
   show s.2.length <= (cutF t ws (if t <= gnum s.1 (w : Nat) 8 then (splice s.1 w (List.replicate 8 0), s.2 ++ [w]) else s)).2.length /\ ((cutF t ws (if t <= gnum s.1 (w : Nat) 8 then (splice s.1 w (List.replicate 8 0), s.2 ++ [w]) else s)).2.length = s.2.length -> (cutF t ws (if t <= gnum s.1 (w : Nat) 8 then (splice s.1 w (List.replicate 8 0), s.2 ++ [w]) else s)).1 = s.1)
   by_cases h : t <= gnum s.1 (w : Nat) 8
   · rw [if_pos h]
     have h1 := (cutF_same t ws (splice s.1 w (List.replicate 8 0), s.2 ++ [w])).1
     have h2 : (s.2 ++ [w]).length <= (cutF t ws (splice s.1 w (List.replicate 8 0), s.2 ++ [w])).2.length := h1
     rw [List.length_append, List.length_singleton] at h2
     exact ⟨by omega, fun h3 => by omega⟩
   · rw [if_neg h]; exact cutF_same t ws s
section
variable {k d f : Int} {b0 b1 : List Int} {l0 l1 : List GO} {R0 R1 : List DR} {O0 O1 : List GO} {Lr0 Lr1 : List Int}
theorem EV.one_array {b : List Int} {l : List GO} {R : List DR} {O : List GO} {Lr : List Int} (V : EV k d f b l R O Lr) (h1 : 1 <= Lr.length) (h4 : Lr.length <= 4) : ∃ r, r ∈ l /\ r.its = Lr ++ List.replicate (4 - Lr.length) 0 /\ gnum b (192 : Nat) 8 = r.at_ := by
 have hR := V.root
 have hC : Ch b l 192 0 (pArr 192 0) := V.db.arrs 192 (.inl rfl)
 unfold Ch at hC
 have e : arrsG l 192 = l.filter (pArr 192 0) := rfl
 rw [<- e] at hC
 match hc : arrsG l 192 with
 | [] =>
   rw [hc] at hR
   have h9 : Lr.length <= 0 := hR.most
   omega
 | [r] =>
   rw [hc] at hR hC
   have hm : r ∈ arrsG l 192 := by rw [hc]; simp
   refine ⟨r, (List.mem_filter.1 hm).1, ?_, hC.1⟩
   have h9 := hR.cat
   have e1 : catA ([r].map GO.arow) = r.its := by simp [catA, GO.arow]
   rw [e1] at h9
   have e2 : roomC ([r].map GO.arow).length = 4 := rfl
   rw [e2] at h9
   exact h9
 | r :: q :: c =>
   rw [hc] at hR
   have h9 := hR.last (by simp)
   rw [List.length_map, List.length_cons, List.length_cons, Nat.add_sub_cancel] at h9
   have hz := (sizeC_bd c.length).1
   unfold roomC at h9
   omega
theorem few_differ (V0 : EV k d f b0 l0 R0 O0 Lr0) (V1 : EV k d f b1 l1 R1 O1 Lr1) (h0 : Lr0.length = 1) (h1 : Lr1.length = 2) (hl : b0.length <= b1.length) (hb : b0 = b1.take b0.length) : False := by
 obtain ⟨r0, m0, i0, g0⟩ := V0.one_array (by omega) (by omega)
 obtain ⟨r1, m1, i1, g1⟩ := V1.one_array (by omega) (by omega)
 have hlow := V0.db.gb.low
 have hk := newK_low d f V0.db.hD V0.db.hF
 have e : gnum b1 (192 : Nat) 8 = gnum b0 (192 : Nat) 8 := gnum_nz (by omega) (by omega) (fun j j1 j2 => by
   have : nz b0 j = nz (b1.take b0.length) j := by rw [<- hb]
   rw [this, nz_take, if_pos (by omega)])
 have s0 := V0.db.gb.srG m0
 have s1 := V1.db.gb.srG m1
 have hi := s0.is_
 have hroom := hi.room
 have hi2 : (srG b0 r0).Is (b1.take b0.length) := by rw [<- hb]; exact hi
 obtain ⟨hi3, -⟩ := (SR.is_take hl).1 hi2
 have heq : srG b0 r0 = srG b1 r1 := hi3.same s1.is_ (by show r0.at_ = r1.at_; omega)
 have hits : r0.its = r1.its := by
   rw [<- s0.its, <- s1.its, <- heq]
   have h9 : (srG b0 r0).its (b1.take b0.length) = (srG b0 r0).its b1 := its_take (by omega)
   rw [<- hb] at h9
   exact h9
 rw [i0, i1] at hits
 match Lr0, h0, Lr1, h1 with
 | [x], _, [y, z], _ =>
   have hz := V1.root.nz z (by simp)
   simp at hits
   exact hz hits.2.symm
end
end Go.Proofs.YtaeegcohimflbaaGreat
