import Derived.Test.YtaeegcohimflbaaGreatEaA
import Derived.BigRegion
set_option linter.unusedVariables false
set_option maxRecDepth 100000
set_option linter.unusedSimpArgs false
namespace Go.Proofs.YtaeegcohimflbaaGreat
open Go.RowKit Go.Shelf
def entO (k : Int) (r : RC) (a : Nat) (ps : List Int) : GO := ⟨0, a, 3, [r.seq, r.real, r.mono, r.boot, xorL k r.its], [], ps⟩
def apE (O : List GO) : Nat := if O.length <= 3 then 56 else 8216
def rfE (O : List GO) : Nat := if O.length = 0 then 0 else if O.length <= 3 then 56 else 8216
def budE (R : List DR) (O : List GO) (zs : List (List Int)) : Nat := 1200 * newsD R zs + (56 + 8 * zs.length) + rfE O * zs.length + apE O
theorem rfE_le (O : List GO) : rfE O = 8216 ∨ (rfE O = 56 /\ O.length <= 3) ∨ (rfE O = 0 /\ O.length = 0) := by
 unfold rfE
 split
 · exact .inr (.inr ⟨rfl, by assumption⟩)
 · split
   · exact .inr (.inl ⟨rfl, by assumption⟩)
   · exact .inl rfl
section
variable {hI hM k d f : Int} {w w' wr : World} {base : Nat} {S T : Nat -> Prop} {p lim : Nat} {was bs : List Int} {R : List DR} {O : List GO} {Lr : List Int} {tl cnt : Nat}
theorem words3 (w : World) : Calls Tryz.prog 86 #[.int .i64 3] w fun e w' => e = .returned (.int .i64 5) /\ w = w' := owords_any 3 w
theorem make5 (W : World) : (Instr.makeSlice 81 (.int .i64 5) (.int .i64 5)).run Tryz.prog W = .ok (.slice (some ⟨W.heap.size, 0, none⟩) 5 5) (W.alloc (.cells #[.int .u64 0, .int .u64 0, .int .u64 0, .int .u64 0, .int .u64 0] 24)) := by
 obtain ⟨i0, hi, hz0, hz1, hz2⟩ := info_parts tabWordInfo
 have h := run_make (P := Tryz.prog) W 81 24 i0 (.int .u64 0) Tryz.underlying81 hi hz0 .i64 .i64 5 5 (by omega) (Int.le_refl _) (by rw [hz2]; decide) (by omega)
 rw [hz1] at h
 have e : madeCells (Value.int IntKind.u64 0).cells (Int.toNat 5 * 1) = #[.int .u64 0, .int .u64 0, .int .u64 0, .int .u64 0, .int .u64 0] := by
   apply Array.toList_inj.1
   show (madeCells #[Value.int IntKind.u64 0] 5).toList = _
   rw [toList_madeCells_one]; rfl
 rw [e] at h
 exact h
theorem Blk.nums5 {w : World} {g : Nat} {Zc : Array Value} {zs : List Int} (h : Blk w g 24 Zc) (hl : Zc.toList = cellsOf .u64 zs) : Reads w w.heap.size 1 (some ⟨g, 0, none⟩) zs.length (cellsOf .u64 zs) := by
 refine ⟨by rw [cellsOf_length]; omega, fun _ => ⟨_, rfl, h.lt, fun j u hj => ?_⟩⟩
 have e : (⟨g, 0, none⟩ : Addr).add j = ⟨g, j, none⟩ := by unfold Addr.add; split <;> simp_all
 rw [e, h.cell]
 rw [<- hl] at hj
 simpa using hj
theorem put_ready {E : List (List (List Int))} {w1 wx : World} {g n gw : Nat} {v0 v1 v2 v3 x : Int} {O' : List GO} {R0 : List DR} {ps : List Int} {zs : List (List Int)} {b1 : Nat} (h : EX hI hM k d f w1 base T p lim was R O Lr tl cnt) (hIA : InsAt R0 R zs ps O' Lr E) (hn : zs.length = n) (h1 : 0 < n) (h2 : n <= 64) (hb : Below w1.heap.size w1 wx)
 (hk : Blk wx gw 24 #[.int .u64 v0, .int .u64 v1, .int .u64 v2, .int .u64 v3, .int .u64 x]) (hr : w1.ownsRow b1 24 1 (.slice (some ⟨g, 0, none⟩) n n) n (cellsOf .u64 ps)) (hu : ∀ z ∈ [v0, v1, v2, v3, x], 0 <= z /\ z < 18446744073709551616) :
 Calls Tryz.prog 88 #[.pointer (some ⟨p, 0, none⟩), obV 3 (some ⟨gw, 0, none⟩) 5 5 none 0 0 (some ⟨g, 0, none⟩) n n] wx fun e w' =>
 (∃ a : Nat, e = .returned (.tuple #[.int .i64 (a : Nat), .int .i64 0]) /\ (256 <= a /\ was.length <= a) /\ a <= 1099511627776 /\ Chg T wx w' /\ EX hI hM k d f w' base (grow T wx w') p lim was R (O ++ [⟨0, a, 3, [v0, v1, v2, v3, x], [], ps⟩]) Lr (tl + (56 + 8 * n)) cnt) ∨
 (lim < tl + (56 + 8 * n) /\ e = .returned (.tuple #[.int .i64 0, .int .i64 21]) /\ Below wx.heap.size wx w') :=
 put_ex2 (L := wx.heap.size) (some ⟨gw, 0, none⟩) 5 5 [v0, v1, v2, v3, x] none 0 0 (some ⟨g, 0, none⟩) n n ps
   ⟨hk.nums5 rfl, Reads.none_, Reads.of_own (own_below hr hb), ⟨by omega, by omega⟩, ⟨by omega, by omega⟩, ⟨Nat.le_refl _, by omega⟩⟩ (Nat.le_refl _) (by simp [rightN, hasI, kwN, mostN]; omega) hu
   (fun z hz => by
     obtain ⟨i, hi⟩ := List.getElem?_of_mem hz
     have hil : i < zs.length := by rw [<- hIA.len]; exact (List.getElem?_eq_some_iff.1 hi).1
     obtain ⟨a, ha, hpa⟩ := hIA.known i zs[i] (List.getElem?_eq_getElem hil)
     rw [hi] at hpa
     injection hpa with hpa
     have := (h.at_le ha).1
     omega) (fun z hz => by
     obtain ⟨i, hi⟩ := List.getElem?_of_mem hz
     have hil : i < zs.length := by rw [<- hIA.len]; exact (List.getElem?_eq_some_iff.1 hi).1
     obtain ⟨a, ha, hpa⟩ := hIA.known i zs[i] (List.getElem?_eq_getElem hil)
     rw [hi] at hpa
     injection hpa with hpa
     exact ⟨_, a, ha, hpa⟩) (h.below hb)
theorem listed_e {O0 : List GO} (x : Int) (hx : IsU x) (hx0 : ¬ x = 0) (h : EX hI hM k d f w base S p lim was R O Lr tl cnt) (hc : cnt <= 100000) (hln : Lr.length <= 1000000000) (hl : Lr.length = O0.length) (hxo : ∃ o ∈ O, x = (o.at_ : Int) /\ was.length <= o.at_) :
 Calls Tryz.prog 90 #[.pointer (some ⟨p, 0, none⟩), .int .i64 192, .int .u64 x] w fun e w' =>
 (e = .returned (.int .i64 0) /\ Chg S w w' /\ EX hI hM k d f w' base (grow S w w') p lim was R O (Lr ++ [x]) (tl + apE O0) (cnt + 1)) ∨ (lim < tl + apE O0 /\ e = .returned (.int .i64 21) /\ Below w.heap.size w w') := by
 unfold apE
 split
 · exact listed_nil x hx hx0 h hc (by omega) hxo
 · exact listed_ex x hx hx0 h hc hln hxo
set_option maxHeartbeats 4000000 in
theorem eput_any {E : List (List (List Int))} {B : Nat} (r : RC) (hr : RCOk w B r) (hB : B <= w.heap.size) (hA : ∀ ad, r.A = some ad -> ¬ S ad.block) (hZ : Good64 r.its) (h : EX hI hM k d f w base S p lim was R O Lr tl cnt) (hE : EL R O Lr E) (hO : O.length <= 1000) (hc : cnt <= 5000) (htb : tl <= 1000000000) :
 Calls Tryz.prog 49 #[.pointer (some ⟨p, 0, none⟩), r.v] w fun e w' =>
 (∃ (a : Nat) (R' : List DR) (ps : List Int), e = .returned (.tuple #[.int .i64 a, .bool true]) /\ 256 <= a /\ a <= 1099511627776 /\ Chg S w w' /\ EX hI hM k d f w' base (grow S w w') p lim was R' (O ++ [entO k r a ps]) (Lr ++ [(a : Int)]) (tl + budE R O (r.its.map nums)) (cnt + 4 * r.n + 1) /\ EL R' (O ++ [entO k r a ps]) (Lr ++ [(a : Int)]) (E ++ [r.its.map nums]) /\ ∀ y, y ∉ r.its.map nums -> findD R' y = findD R y) ∨
 (lim < tl + budE R O (r.its.map nums) /\ (∃ v, e = .returned (.tuple #[v, .bool false])) /\ Chg S w w' /\ HX hI hM k d f w' base (grow S w w') p lim was) := by
 obtain ⟨hr0, hr1, hr2, hr3, hT⟩ := hr
 have hl := hT.len
 have hbas := h.bas
 have hft := Lib.hid h.foot
 have HTT := Lib.hid (fun wx (hx : Chg S w wx) => hT.chg hx hB hA)
 have HU := Lib.hid (And.intro hr0 (And.intro hr1 (And.intro hr2 hr3)))
 have hn0 : 0 < r.n := by rw [<- hl]; exact hZ.pos
 have hn64 : r.n <= 64 := by rw [<- hl]; exact hZ.most
 obtain ⟨v0, hv0⟩ : ∃ v0, r.seq = v0 := ⟨_, rfl⟩
 obtain ⟨v1, hv1⟩ : ∃ v1, r.real = v1 := ⟨_, rfl⟩
 obtain ⟨v2, hv2⟩ : ∃ v2, r.mono = v2 := ⟨_, rfl⟩
 obtain ⟨v3, hv3⟩ : ∃ v3, r.boot = v3 := ⟨_, rfl⟩
 have hrv : r.v = .agg #[.int .u64 v0, .int .u64 v1, .int .u64 v2, .int .u64 v3, .slice r.A r.n r.c] := by rw [<- hv0, <- hv1, <- hv2, <- hv3]; rfl
 rw [hrv]
 have HV := Lib.hid (And.intro hv0 (And.intro hv1 (And.intro hv2 hv3)))
 have IT := Lib.hid (fun w0 (hb0 : Below w.heap.size w w0) => eintern_any (B := B) r.A r.n r.c r.its (h.below hb0) hE (hT.below (hb0.mono hB)) (Nat.le_trans hB hb0.size) hA hZ (by omega) (by omega))
 have HH := Lib.hid (And.intro h (And.intro hE (And.intro hO hZ)))
 have HL := Lib.hid hl
 obtain ⟨A, hAe⟩ : ∃ A, r.A = A := ⟨_, rfl⟩
 obtain ⟨n, hne⟩ : ∃ n, r.n = n := ⟨_, rfl⟩
 obtain ⟨c, hce⟩ : ∃ c, r.c = c := ⟨_, rfl⟩
 rw [hAe, hne, hce] at IT HTT ⊢
 rw [hne] at hn0 hn64 HL
 have HQ := Lib.hid (And.intro hAe (And.intro hne hce))
 clear hT hA hr0 hr1 hr2 hr3 hv0 hv1 hv2 hv3 hrv hl h hE hO hZ hAe hne hce
 go_enter Tryz.func49, Tryz.ntmps49
 have hsb : (w.alloc (.cells #[.int .u64 v0, .int .u64 v1, .int .u64 v2, .int .u64 v3, .slice A n c] 59)).heap.size = w.heap.size + 1 := World.size_alloc _ _
 have HB0 : Hid (∀ w1, Chg S (w.alloc (.cells #[.int .u64 v0, .int .u64 v1, .int .u64 v2, .int .u64 v3, .slice A n c] 59)) w1 -> Chg S w w1 /\ w.heap.size < w1.heap.size /\ Blk w1 w.heap.size 59 #[.int .u64 v0, .int .u64 v1, .int .u64 v2, .int .u64 v3, .slice A n c]) := Lib.hid (fun w1 hc1 => by
   have hs1 := hc1.size
   rw [hsb] at hs1
   exact ⟨(Chg.of_below (boxed w _) (Nat.le_refl _) S).trans hc1 (fun _ _ e => e), by omega, (Blk.new w _ _).chg hc1 (fun e => by have := (hft.out _ e).2; omega)⟩)
 go_wp2_with (first
   | (go_at_call 85; refine (IT.out _ (boxed _ _)).mono ?_; rintro e w1 (⟨R', ps, g, rfl, hg, hc1, hx1, hi1, hrow⟩ | ⟨hlm, ⟨v, rfl⟩, hc1, hh1⟩))
   | (go_at_call 86; refine (words3 _).mono ?_; rintro e w2 ⟨rfl, rfl⟩; have hmk := make5))
 rotate_left
 · go_ret2
   have hh := HB0.out _ hc1
   refine .inr ⟨by unfold budE; omega, ⟨_, rfl⟩, hh.1, hh1.mono (fun q hq => ?_) (chg_lt hft.out hh.1 hbas)⟩
   rcases hq with hq | hq
   · exact .inl hq
   · right; omega
 · obtain ⟨hcw, hs1, hbx⟩ := HB0.out _ hc1
   have hgl := (hrow.lt g rfl).2
   have HG := Lib.hid (And.intro hg (And.intro hgl (And.intro hsb hcw)))
   have HX1 := Lib.hid hx1
   have HI1 := Lib.hid hi1
   have HR1 := Lib.hid hrow
   have hbw : Blk (w1.alloc (.cells #[.int .u64 0, .int .u64 0, .int .u64 0, .int .u64 0, .int .u64 0] 24)) w1.heap.size 24 #[.int .u64 0, .int .u64 0, .int .u64 0, .int .u64 0, .int .u64 0] := Blk.new _ _ _
   have hb2 : Below w1.heap.size w1 (w1.alloc (.cells #[.int .u64 0, .int .u64 0, .int .u64 0, .int .u64 0, .int .u64 0] 24)) := boxed _ _
   have hbx2 := hbx.below hb2 (by omega)
   clear hc1 hx1 hi1 hrow hg hgl hsb hcw hbx HB0 IT hmk
   obtain ⟨gw, hgw⟩ : ∃ gw, w1.heap.size = gw := ⟨_, rfl⟩
   rw [hgw] at hs1 hbw hb2 ⊢
   have HGW := Lib.hid hgw
   clear hgw
   generalize w1.alloc (.cells #[.int .u64 0, .int .u64 0, .int .u64 0, .int .u64 0, .int .u64 0] 24) = w2 at *
   have c0 := hbx2.cell 0
   have c1 := hbx2.cell 1
   have c2 := hbx2.cell 2
   have c3 := hbx2.cell 3
   have z0 := hbw.cell 0
   have z1 := hbw.cell 1
   have z2 := hbw.cell 2
   have z3 := hbw.cell 3
   have y0 := hbw.frozen 0
   have y1 := hbw.frozen 1
   have y2 := hbw.frozen 2
   have y3 := hbw.frozen 3
   have hne : ¬ w.heap.size = gw := by omega
   have hne2 : ¬ gw = w.heap.size := by omega
   go_region
   have hk3 : Blk _ gw 24 #[.int .u64 v0, .int .u64 v1, .int .u64 v2, .int .u64 v3, .int .u64 0] := ((((hbw.set_ 0 (.int .u64 v0)).set_ 1 (.int .u64 v1)).set_ 2 (.int .u64 v2)).set_ 3 (.int .u64 v3)).drew
   have hq3 := ((((hbx2.far (p := ⟨gw, 0, none⟩) hne (.int .u64 v0)).far (p := ⟨gw, 1, none⟩) hne (.int .u64 v1)).far (p := ⟨gw, 2, none⟩) hne (.int .u64 v2)).far (p := ⟨gw, 3, none⟩) hne (.int .u64 v3)).drew
   have hb3 := below_drewn ((((hb2.setCell (p := ⟨gw, 0, none⟩) (Nat.le_refl _) (.int .u64 v0)).setCell (p := ⟨gw, 1, none⟩) (Nat.le_refl _) (.int .u64 v1)).setCell (p := ⟨gw, 2, none⟩) (Nat.le_refl _) (.int .u64 v2)).setCell (p := ⟨gw, 3, none⟩) (Nat.le_refl _) (.int .u64 v3)) 1
   clear c0 c1 c2 c3 z0 z1 z2 z3 y0 y1 y2 y3 hne hne2 hbw hbx2 hb2
   have hw3 : ((((w2.setCell ⟨gw, 0, none⟩ (.int .u64 v0)).setCell ⟨gw, 1, none⟩ (.int .u64 v1)).setCell ⟨gw, 2, none⟩ (.int .u64 v2)).setCell ⟨gw, 3, none⟩ (.int .u64 v3)).drewN 1 = ((((w2.setCell ⟨gw, 0, none⟩ (.int .u64 v0)).setCell ⟨gw, 1, none⟩ (.int .u64 v1)).setCell ⟨gw, 2, none⟩ (.int .u64 v2)).setCell ⟨gw, 3, none⟩ (.int .u64 v3)).drew := rfl
   rw [hw3] at hb3
   clear hw3
   generalize ((((w2.setCell ⟨gw, 0, none⟩ (.int .u64 v0)).setCell ⟨gw, 1, none⟩ (.int .u64 v1)).setCell ⟨gw, 2, none⟩ (.int .u64 v2)).setCell ⟨gw, 3, none⟩ (.int .u64 v3)).drew = w3 at *
   have c4 := hq3.cell 4
   have HK3 := Lib.hid (And.intro hk3 (And.intro hb3 (show gw <= w3.heap.size from by have := hb3.size; have := HGW.out; omega)))
   have XO := Lib.hid (exor_any A n c r.its B (HX1.out.below (by rw [HGW.out]; exact hb3)) (HTT.out w3 (HG.out.2.2.2.trans (Chg.of_below (by rw [HGW.out]; exact hb3) (Nat.le_refl _) (fun _ => False)) (fun _ _ e => e.elim))) (Nat.le_trans hB (Nat.le_trans (Nat.le_of_lt (by have := HGW.out; omega)) hb3.size)) (fun s hs => by have := (HH.out.2.2.2.ok s hs).2; omega))
   obtain ⟨xo, hxo⟩ : ∃ xo, xorL k r.its = xo := ⟨_, rfl⟩
   rw [hxo] at XO
   have HXO := Lib.hid hxo
   have PUT := Lib.hid (fun wx (hb : Below gw w1 wx) hk => put_ready (wx := wx) (g := g) (n := n) (gw := gw) (v0 := v0) (v1 := v1) (v2 := v2) (v3 := v3) (x := xo) HX1.out HI1.out (by rw [List.length_map]; exact HL.out) hn0 hn64 (by rw [HGW.out]; exact hb) hk HR1.out (fun z hz => by
     obtain ⟨q0, q1, q2, q3⟩ := HU.out
     obtain ⟨e0, e1, e2, e3⟩ := HV.out
     have hx := xorL_isU k r.its
     rw [HXO.out] at hx
     rw [e0] at q0; rw [e1] at q1; rw [e2] at q2; rw [e3] at q3
     simp at hz
     rcases hz with rfl | rfl | rfl | rfl | rfl
     · exact q0
     · exact q1
     · exact q2
     · exact q3
     · exact hx))
   clear hk3 hb3 hq3 hxo hs1
   go_wp2_with (first
     | (go_at_call 87; go_loud (refine XO.out.mono ?_; rintro e w4 ⟨rfl, hb4⟩; have hk4 := HK3.out.1.below hb4 HK3.out.1.lt; have z4 := hk4.cell 4; have y4 := hk4.frozen 4; have HK5 : Hid (Blk (w4.setCell ⟨gw, 4, none⟩ (.int .u64 xo)) gw 24 #[.int .u64 v0, .int .u64 v1, .int .u64 v2, .int .u64 v3, .int .u64 xo]) := Lib.hid (hk4.set_ 4 (.int .u64 xo)); have HB5 : Hid (Below gw w1 (w4.setCell ⟨gw, 4, none⟩ (.int .u64 xo))) := Lib.hid ((HK3.out.2.1.trans (hb4.mono HK3.out.2.2)).setCell (p := ⟨gw, 4, none⟩) (Nat.le_refl _) _); clear hk4 hb4))
     | (go_at_call 88; refine (PUT.out _ HB5.out HK5.out).mono ?_; rintro e w6 (⟨a, rfl, ha1, ha2, hc6, hx6⟩ | ⟨hlm, rfl, hb6⟩)))
   all_goals
     have HBW : ∀ wx, Below gw w1 wx -> Below w1.heap.size w1 wx := fun wx h => by rw [HGW.out]; exact h
     have hF1 : Fp S w (fun q => grow S (w.alloc (.cells #[.int .u64 v0, .int .u64 v1, .int .u64 v2, .int .u64 v3, .slice A n c] 59)) w1 q /\ q ≠ g) w1 := ⟨HG.out.2.2.2, fun q hq => by
       rcases hq.1 with e | e
       · exact .inl e
       · right; have := HG.out.2.2.1; omega⟩
     have hF5 := hF1.below (HBW _ HB5.out)
   rotate_left
   · go_ret2
     have hh := (HX1.out.below (HBW _ HB5.out)).half.below hb6
     obtain ⟨h1, h2⟩ := hh.fin (hF5.below hb6) hft.out hbas
     exact .inr ⟨by unfold budE; rw [List.length_map, HL.out]; omega, ⟨_, rfl⟩, h1, h2⟩
   · obtain ⟨W5, hW5⟩ : ∃ W5, w4.setCell ⟨gw, 4, none⟩ (.int .u64 xo) = W5 := ⟨_, rfl⟩
     rw [hW5] at hc6 hx6 HB5 hF5
     have hF6 := hF5.next hc6
     have hgT : ¬ (grow S (w.alloc (.cells #[.int .u64 v0, .int .u64 v1, .int .u64 v2, .int .u64 v3, .slice A n c] 59)) w1 g /\ g ≠ g) := fun e => e.2 rfl
     have hr5 := own_below HR1.out (HBW _ HB5.out)
     have hob : ∀ q, (Value.slice (some (⟨g, 0, none⟩ : Addr)) n n).ownBlock = some q -> q = g := fun q hq => by
       have : g = q := by simpa [Value.ownBlock] using hq
       exact this.symm
     have hr6 := own_chg hr5 hc6 (fun q hq e => by rw [hob q hq] at e; exact e.2 rfl)
     have hg5 : g < W5.heap.size := (hr5.lt g rfl).2
     have HPR := Lib.hid (fun (wr : World) (hx : Chg (grow (fun q => grow S (w.alloc (.cells #[.int .u64 v0, .int .u64 v1, .int .u64 v2, .int .u64 v3, .slice A n c] 59)) w1 q /\ q ≠ g) W5 w6) w6 wr) (j b : Nat) (hj : ps[j]? = some (b : Int)) => (show wr.cell? ⟨g, j, none⟩ = some (.int .u64 b) from by
       have hr := own_chg hr6 hx (fun q hq e => by
         rw [hob q hq] at e
         rcases e with e | e
         · exact e.2 rfl
         · omega)
       obtain ⟨h1, h2⟩ := List.getElem?_eq_some_iff.1 hj
       have hpl : ps.length = n := by rw [HI1.out.len, List.length_map]; exact HL.out
       have q1 := hr.cellAt j (by omega)
       rw [cellsOf_get h1] at q1
       rw [q1, List.getD_eq_getElem?_getD, hj]; rfl))
     have HR0 : Hid (RefAtE hI hM k d f w w6 base S p lim was R' (O ++ [⟨0, a, 3, [v0, v1, v2, v3, xo], [], ps⟩]) Lr (tl + 1200 * newsD R (r.its.map nums) + (56 + 8 * n)) (cnt + 3 * n) (r.its.map nums) (a : Int) _ w6 (rfE O) 0) := Lib.hid ⟨_, hx6, hF6, Fp.refl _ _⟩
     have hxa : ¬ ((a : Nat) : Int) = 0 := by omega
     have hxu : IsU ((a : Nat) : Int) := ⟨by omega, by omega⟩
     have hwa : IntKind.u64.wrap (a : Int) = (a : Int) := wrap_u64_of (by omega) (by omega)
     have HU2 := Lib.hid (And.intro hxa hxu)
     have HXA : Hid (∃ o ∈ O ++ [(⟨0, a, 3, [v0, v1, v2, v3, xo], [], ps⟩ : GO)], ((a : Nat) : Int) = (o.at_ : Int) /\ was.length <= o.at_) := Lib.hid ⟨⟨0, a, 3, [v0, v1, v2, v3, xo], [], ps⟩, List.mem_append_right _ (List.mem_singleton.2 rfl), rfl, ha1.2⟩
     have ha1 := ha1.1
     clear hF1 hF5 hF6 hgT hr5 hob hr6 hg5 hx6 hc6 hW5 hxa hxu PUT XO HK3 HK5 HB5
     go_loopw [58] (fun i wr => ∃ j : Nat, i = .int .i64 j /\ j <= n /\ Hid (RefAtE hI hM k d f w wr base S p lim was R' (O ++ [⟨0, a, 3, [v0, v1, v2, v3, xo], [], ps⟩]) Lr (tl + 1200 * newsD R (r.its.map nums) + (56 + 8 * n)) (cnt + 3 * n) (r.its.map nums) (a : Int) (grow (fun q => grow S (w.alloc (.cells #[.int .u64 v0, .int .u64 v1, .int .u64 v2, .int .u64 v3, .slice A n c] 59)) w1 q /\ q ≠ g) W5 w6) w6 (rfE O) j)) (fun i _ => n - (intOf i).toNat)
     case atStart => exact ⟨0, rfl, Nat.zero_le _, HR0⟩
     case round =>
       clear HR0
       obtain ⟨j, rfl, hj, HRJ⟩ := hrel
       by_cases hlt : j < n
       · obtain ⟨z, hz⟩ : ∃ z, (r.its.map nums)[j]? = some z := ⟨_, List.getElem?_eq_getElem (by rw [List.length_map, HL.out]; exact hlt)⟩
         obtain ⟨b, hpb, hble, hRF⟩ := RefAtE.next HRJ.out HI1.out (by have := HH.out.2.2.1; omega) (rfE_le O) HH.out.2.2.2.nums hz HU2.out.2 HU2.out.1 HXA.out (by omega) hft.out hbas
         have c0 := HPR.out wr (by obtain ⟨T, -, -, h2⟩ := HRJ.out; exact h2.chg) j b hpb
         have hwb : IntKind.i64.wrap (b : Int) = (b : Int) := wrap_i64_of (by omega) (by omega)
         have RF := Lib.hid hRF
         clear hz hpb hRF
         go_wp2_with (go_at_call 89; refine RF.out.mono ?_; rintro e w7 (⟨rfl, h7⟩ | ⟨hlm, rfl, hc7, hh7⟩))
         · go_roundw
           case rel => exact ⟨j + 1, by go_num, by omega, Lib.hid h7⟩
           case measure => simp [intOf]; omega
         · go_ret2
           exact .inr ⟨by unfold budE; rw [List.length_map, HL.out]; have := Nat.mul_le_mul_left (rfE O) (show j + 1 <= n from hlt); omega, ⟨_, rfl⟩, hc7, hh7⟩
       · obtain rfl : j = n := by omega
         obtain ⟨T, hex, hF, hF2⟩ := HRJ.out
         have htk : (r.its.map nums).take j = r.its.map nums := List.take_of_length_le (by rw [List.length_map, HL.out]; exact Nat.le_refl _)
         rw [htk] at hex
         have hlr : Lr.length <= 1000 := by rw [HH.out.2.1.lr, List.length_map]; exact HH.out.2.2.1
         have AP := Lib.hid (listed_e (O0 := O) (a : Int) HU2.out.2 HU2.out.1 hex (by omega) (by omega) (by rw [HH.out.2.1.lr, List.length_map]) HXA.out)
         have HFF := Lib.hid (And.intro hex hF)
         clear hex hF hF2 htk
         go_wp2_with (go_at_call 90; refine AP.out.mono ?_; rintro e w8 (⟨rfl, hc8, hx8⟩ | ⟨hlm, rfl, hb8⟩))
         · go_ret2
           obtain ⟨h1, h2⟩ := hx8.fin (HFF.out.2.next hc8) hft.out hbas
           obtain ⟨e0, e1, e2, e3⟩ := HV.out
           have hent : (⟨0, a, 3, [v0, v1, v2, v3, xo], [], ps⟩ : GO) = entO k r a ps := by unfold entO; rw [e0, e1, e2, e3, HXO.out]
           rw [hent] at h2
           have hE2 := HI1.out.el.add HH.out.2.2.2.nums HI1.out.mem (o := entO k r a ps) HI1.out.eq
           left
           refine ⟨a, _, ps, rfl, ha1, ha2, h1, ?_, hE2, fun y hy => (findD_pushAll _ _ _ _).trans (HI1.out.same y hy)⟩
           refine h2.more ?_ ?_ ?_
           · unfold budE; rw [List.length_map, HL.out]; omega
           · omega
           · omega
         · go_ret2
           obtain ⟨h1, h2⟩ := (HFF.out.1.half.below hb8).fin (HFF.out.2.below hb8) hft.out hbas
           exact .inr ⟨by unfold budE; rw [List.length_map, HL.out]; omega, ⟨_, rfl⟩, h1, h2⟩
end
open Go.RowKit Go.Sort Go.Shelf
def TellsO (A0 : Option Addr) (xs : List ByteArray) (w : World) (e : Ending) (w' : World) : Prop := ∃ A c, e = .returned (.slice A xs.length c) /\ Txt w' w'.heap.size A xs.length c xs /\ Below w.heap.size w w' /\ ∀ ad, A = some ad -> w.heap.size <= ad.block ∨ A0 = some ad
theorem own_fresh {w : World} {base : Nat} {e : TypeId} {size n c : Nat} {A : Option Addr} {xs : List Value} (h : w.ownsRow base e size (.slice A n c) n xs) : ∀ ad, A = some ad -> base <= ad.block := fun ad ha => by
 subst ha
 obtain ⟨b, o, s⟩ := ad
 exact (h.lt b rfl).1
theorem OwnT.tellsO {w wr : World} {v : Value} {xs : List ByteArray} (A0 : Option Addr) (h : OwnT w wr v xs) (hs : ∀ s ∈ xs, s.size <= maxLen) : TellsO A0 xs w (.returned v) wr := by
 obtain ⟨A, c, rfl, h1, h2⟩ := own_form h.own
 exact ⟨A, c, rfl, Txt.of_own h.own h1 h2 hs, h.below, fun ad ha => .inl (own_fresh h.own ad ha)⟩
theorem put_endO {w w' : World} {zs : List ByteArray} {s : ByteArray} {v : Value} (h : OwnT w w' v (putL cfT zs s)) (hz : ∀ x ∈ zs, x.size <= maxLen) (hs : s.size <= maxLen) (A0 : Option Addr) : TellsO A0 (putL cfT zs s) w (.returned v) w' :=
 h.tellsO A0 fun x hx => by
   rcases (putL_mem zs s x).1 hx with e | e
   · exact hz x e
   · subst e; exact hs
set_option maxHeartbeats 1000000 in
theorem put_own (A : Option Addr) (n c : Nat) (zs : List ByteArray) (s : ByteArray) (B : Nat) (w : World) (h : Txt w B A n c zs) (hB : B <= w.heap.size) (hs : s.size <= maxLen) (hn : n <= 1000) :
 Calls Tryz.prog 81 #[.slice A n c, .string s] w (TellsO A (putL cfT zs s) w) := by
 obtain ⟨i0, hi, hz0, hz1, hz2⟩ := info_parts strInfo
 have hl := h.len
 have hle := h.le
 have hcap := h.cap
 go_enter Tryz.func81, Tryz.ntmps81
 go_wp2
 go_loopw [5, 6, 7] (fun v d i wr => ∃ (k : Nat) (q : Bool), k <= n /\ Hid (s ∉ zs.take k) /\ d = .bool q /\ Hid (q = (putAt zs s k).2) /\ OwnT w wr v (putAt zs s k).1 /\ i = .int .i64 k) (fun _ _ i _ => n - (intOf i).toNat)
 case atStart => exact ⟨0, false, Nat.zero_le _, Lib.hid (by simp), rfl, Lib.hid rfl, OwnT.nil_ w, rfl⟩
 case round =>
   obtain ⟨k, q, hk, hin, rfl, hq, H, rfl⟩ := hrel
   have hpl := putAt_len zs s k
   have HO := Lib.hid H
   have HH := Lib.hid h
   have HL := Lib.hid hl
   obtain ⟨A1, c1, rfl, hc1, hc2⟩ := own_form H.own
   have hxl : (putAt zs s k).1.length <= 1001 := by omega
   have HX := Lib.hid (show (putAt zs s k).1 = (putAt zs s k).1 from rfl)
   by_cases hlt : k < n
   · obtain ⟨b, off, rfl, hb0, hcell⟩ := h.at_ (by omega)
     have hb : b < w.heap.size := by omega
     have c0 := hcell k hlt
     have cr : _ = some _ := (H.below.cell (p := ⟨b, off + k, none⟩) hb).trans c0
     have hgo := fun hh => putAt_go (zs := zs) (s := s) (k := k) (by omega) hh
     have hlay := fun h1 h2 => putAt_lay (zs := zs) (s := s) (k := k) (by omega) h1 h2
     have hmem : nthT zs k ∈ zs := nthT_mem (by omega)
     have hstep : nthT zs k ≠ s -> s ∉ zs.take (k + 1) := fun hne => by
       rw [take_nthT (by omega), List.mem_append, List.mem_singleton]
       rintro (e | e)
       · exact hin.out e
       · exact hne e.symm
     by_cases hx : nthT zs k = s
     · have d1 : ((nthT zs k).toList == s.toList) = true := by rw [beq_text]; exact decide_eq_true hx
       have hp : putL cfT zs s = zs := by unfold putL; rw [if_pos (hx ▸ hmem)]
       have HE : Hid (TellsO (some ⟨b, off, none⟩) (putL cfT zs s) w (.returned (.slice (some ⟨b, off, none⟩) n c)) wr) := by
         rw [hp]
         exact Lib.hid ⟨_, c, by rw [hl], by rw [hl]; exact (h.more hB).below H.below |>.more H.below.size, H.below, fun ad h => .inr h⟩
       generalize nthT zs k = x at *
       clear hcell hgo hlay hmem hstep hp hx H h hl c0
       go_wp2
       go_ret
       exact HE.out
     · have d1 : ((nthT zs k).toList == s.toList) = false := by rw [beq_text]; exact decide_eq_false hx
       have HS := Lib.hid (hstep hx)
       by_cases hg : cfT s (nthT zs k) < 0
       · have d2 : Op.bytesLess (nthT zs k).toList s.toList = false := by
           rw [less_cfT]; exact decide_eq_false (cfT_tot.asym hg)
         cases q with
         | true =>
           have HP := Lib.hid (hgo (fun _ => hq.out.symm))
           generalize (putAt zs s k).1 = xs at *
           generalize nthT zs k = x at *
           have s2 := sm1 hxl
           have s3 := sm2 hxl
           clear hcell hgo hlay hmem hstep hx hg H h hl c0
           go_wp2_with ((at_builtin; refine wpList_append_any _ rfl (.tmp 35) (.tmp 40) 57 rfl w.heap.size 9 i0 (.string ⟨#[]⟩) 1 16 Tryz.underlying57 hi hz0 hz1 hz2 rfl (Nat.lt_succ_self 0) (.slice A1 xs.length c1) xs.length (cellsT xs) rfl (HO.out.own.alloc _) _ _ 1 1 [.string x] rfl (newT wr _ x) (strOne x) s2 s3 (allocLe HO.out _) ?_; intro v1 w1 hown1 hg1 hat1; have H1 := Lib.hid (HO.out.push hown1 hg1); clear hown1 hg1 hat1))
           go_roundw
           case rel => exact ⟨k + 1, true, by omega, HS, rfl, Lib.hid (by rw [HP.out]; exact hq.out), by rw [HP.out]; exact H1.out, by go_num⟩
           case measure => simp [intOf]; omega
         | false =>
           have HP := Lib.hid (hlay hg hq.out.symm)
           generalize (putAt zs s k).1 = xs at *
           generalize nthT zs k = x at *
           have s2 := sm1 hxl
           have s3 := sm2 hxl
           have s5 := sm3 hxl
           have s6 := sm4 hxl
           clear hcell hgo hlay hmem hstep hx hg H h hl
           have m1 : True := trivial
           go_wp2_with (first | (at_builtin; clear m1; refine wpList_append_any _ rfl (.tmp 31) (.tmp 33) 57 rfl w.heap.size 9 i0 (.string ⟨#[]⟩) 1 16 Tryz.underlying57 hi hz0 hz1 hz2 rfl (Nat.lt_succ_self 0) (.slice A1 xs.length c1) xs.length (cellsT xs) rfl (HO.out.own.alloc _) _ _ 1 1 [.string s] rfl (newT wr _ s) (strOne s) s2 s3 (allocLe HO.out _) ?_; intro v1 w1 hown1 hg1 hat1; have H1 := Lib.hid (HO.out.push hown1 hg1); obtain ⟨A2, c2, rfl, hc21, hc22⟩ := own_form hown1; have HW1 := Lib.hid hown1; have cr1 : w1.cell? ⟨b, off + k, none⟩ = some (.string x) := (H1.out.below.cell (p := ⟨b, off + k, none⟩) hb).trans c0; clear hown1 hg1 hat1) | (at_builtin; refine wpList_append_any _ rfl (.tmp 35) (.tmp 40) 57 rfl w.heap.size 9 i0 (.string ⟨#[]⟩) 1 16 Tryz.underlying57 hi hz0 hz1 hz2 rfl (Nat.lt_succ_self 0) (.slice A2 (xs.length + 1) c2) (xs.length + 1) (cellsT xs ++ [.string s]) rfl (HW1.out.alloc _) _ _ 1 1 [.string x] rfl (newT w1 _ x) (strOne x) s5 s6 (allocLe H1.out _) ?_; intro v2 w2 hown2 hg2 hat2; have H2 := Lib.hid (H1.out.push (s := x) (by rw [List.length_append, cellsT_append]; exact hown2) hg2); clear hown2 hg2 hat2))
           go_roundw
           case rel => exact ⟨k + 1, true, by omega, HS, rfl, Lib.hid (by rw [HP.out]), by rw [HP.out]; exact H2.out, by go_num⟩
           case measure => simp [intOf]; omega
       · have d2 : Op.bytesLess (nthT zs k).toList s.toList = true := by
           rw [less_cfT]
           refine decide_eq_true ?_
           rcases cfT_tot.tri s (nthT zs k) with e | e | e
           · exact absurd e hg
           · exact absurd e.symm hx
           · exact e
         have HP := Lib.hid (hgo (fun hh => absurd hh hg))
         generalize (putAt zs s k).1 = xs at *
         generalize nthT zs k = x at *
         have s2 := sm1 hxl
         have s3 := sm2 hxl
         clear hcell hgo hlay hmem hstep hx hg H h hl c0
         go_wp2_with ((at_builtin; refine wpList_append_any _ rfl (.tmp 35) (.tmp 40) 57 rfl w.heap.size 9 i0 (.string ⟨#[]⟩) 1 16 Tryz.underlying57 hi hz0 hz1 hz2 rfl (Nat.lt_succ_self 0) (.slice A1 xs.length c1) xs.length (cellsT xs) rfl (HO.out.own.alloc _) _ _ 1 1 [.string x] rfl (newT wr _ x) (strOne x) s2 s3 (allocLe HO.out _) ?_; intro v1 w1 hown1 hg1 hat1; have H1 := Lib.hid (HO.out.push hown1 hg1); clear hown1 hg1 hat1))
         go_roundw
         case rel => exact ⟨k + 1, q, by omega, HS, rfl, Lib.hid (by rw [HP.out]; exact hq.out), by rw [HP.out]; exact H1.out, by go_num⟩
         case measure => simp [intOf]; omega
   · obtain rfl : k = n := by omega
     have htk : zs.take k = zs := List.take_of_length_le (by omega)
     have hns := hin.out
     rw [htk] at hns
     have hpe : putL cfT zs s = putEnd cfT s zs := by unfold putL; rw [if_neg hns]
     have hpa : putAt zs s k = putRun cfT s zs := by unfold putAt; rw [htk]
     cases q with
     | true =>
       have hp : putL cfT zs s = (putAt zs s k).1 := by
         rw [hpe]; unfold putEnd
         rw [<- hpa, <- hq.out]; exact if_pos rfl
       have HE := Lib.hid (put_endO (w := w) (by rw [hp]; exact H) h.sz hs A)
       generalize (putAt zs s k).1 = xs at *
       clear hp hpe hns htk H h hl
       go_wp2
       go_ret
       exact HE.out
     | false =>
       have hp : putL cfT zs s = (putAt zs s k).1 ++ [s] := by
         rw [hpe]; unfold putEnd
         rw [<- hpa, <- hq.out]; exact if_neg (by decide)
       have HP := Lib.hid hp
       have HZ := Lib.hid h.sz
       have s2 := sm1 hxl
       have s3 := sm2 hxl
       clear hpa
       generalize (putAt zs s k).1 = xs at *
       clear hp hpe hns htk H h hl
       go_wp2_with ((at_builtin; refine wpList_append_any _ rfl (.tmp 44) (.tmp 46) 57 rfl w.heap.size 9 i0 (.string ⟨#[]⟩) 1 16 Tryz.underlying57 hi hz0 hz1 hz2 rfl (Nat.lt_succ_self 0) (.slice A1 xs.length c1) xs.length (cellsT xs) rfl (HO.out.own.alloc _) _ _ 1 1 [.string s] rfl (newT wr _ s) (strOne s) s2 s3 (allocLe HO.out _) ?_; intro v1 w1 hown1 hg1 hat1; have H1 := Lib.hid (HO.out.push hown1 hg1); obtain ⟨A2, c2, rfl, hc21, hc22⟩ := own_form hown1; clear hown1 hg1 hat1))
       go_ret
       exact put_endO (by rw [HP.out]; exact H1.out) HZ.out hs A
theorem once_endO {cf : ByteArray -> ByteArray -> Int} (hT : TotC cf) {w w' : World} {A : Option Addr} {c : Nat} {zs : List ByteArray} (hs : ∀ s ∈ zs, s.size <= maxLen)
 (ho : w'.ownsRow w.heap.size 9 1 (.slice A (compB (msort cf zs)).length c) (compB (msort cf zs)).length (cellsT (compB (msort cf zs)))) (hb : Below w.heap.size w w') :
 TellsO none (onceL cf zs) w (.returned (.slice A (compB (msort cf zs)).length c)) w' := by
 have e := once_bytes hT zs
 generalize compB (msort cf zs) = q at *
 subst e
 exact OwnT.tellsO none ⟨ho, hb⟩ fun s h => hs s (((onceL_spec hT zs).2 s).1 h)
theorem once_own (g : Nat) (cf : ByteArray -> ByteArray -> Int) (hC : CmpFn g cf) (A : Option Addr) (n c : Nat) (zs : List ByteArray) (B : Nat) (w : World) (h : Txt w B A n c zs) (hn : n <= 1000) :
 Calls Tryz.prog 83 #[.slice A n c, .func (.func g) #[] #[]] w (TellsO none (onceL cf zs) w) := by
 have H := Lib.hid h
 have HC := Lib.hid hC
 have HN := Lib.hid hn
 clear h hC hn
 go_enter Tryz.func83, Tryz.ntmps83
 go_wp2_with (first
   | (go_at_call 115; refine (iclone_any A n c zs B w H.out HN.out).mono ?_; rintro e w1 ⟨v, rfl, ho1, hb1⟩; obtain ⟨A1, c1, rfl, hc1, hc2⟩ := own_form ho1; have HO1 := Lib.hid ho1; clear ho1 hc1 hc2)
   | (go_at_call 116; refine (sort_any g cf HC.out A1 n c1 zs w.heap.size w1 HO1.out hb1.size H.out.sz HN.out).mono ?_; rintro e w2 ⟨rfl, ho2, hb2⟩; have HO2 := Lib.hid ho2; have hb3 := hb1.trans hb2; clear ho2)
   | (go_at_call 117; refine (compact_any A1 n c1 (msort cf zs) w.heap.size w2 HO2.out hb3.size HN.out).mono ?_; rintro e w3 ⟨rfl, ho3, hb4⟩; have HO3 := Lib.hid ho3; have hb5 := hb3.trans hb4; clear ho3))
 go_ret
 exact once_endO HC.out.tot H.out.sz HO3.out hb5
def ChkO (zs : List ByteArray) (w : World) (e : Ending) (w' : World) : Prop :=
 ∃ A c, e = .returned (.tuple #[.slice A (chkL zs).length c, .int .i64 (chkE zs)]) /\ Txt w' w'.heap.size A (chkL zs).length c (chkL zs) /\ Below w.heap.size w w' /\ ∀ ad, A = some ad -> w.heap.size <= ad.block
theorem chk_errO {zs : List ByteArray} {w w' : World} {E : Int} (he : chkE zs = E) (h0 : E ≠ 0) (hb : Below w.heap.size w w') : ChkO zs w (.returned (.tuple #[.slice none 0 0, .int .i64 E])) w' := by
 have hl : chkL zs = [] := by unfold chkL; rw [he, if_neg h0]
 unfold ChkO
 rw [hl, he]
 exact ⟨none, 0, rfl, Txt.nil_ _ _, hb, fun ad h => by cases h⟩
theorem chk_okO {zs : List ByteArray} {w w' : World} {A : Option Addr} {c : Nat} (he : chkE zs = 0) (ht : Txt w' w'.heap.size A (onceL cfT zs).length c (onceL cfT zs)) (hb : Below w.heap.size w w') (hf : ∀ ad, A = some ad -> w.heap.size <= ad.block) : ChkO zs w (.returned (.tuple #[.slice A (onceL cfT zs).length c, .int .i64 0])) w' := by
 have hl : chkL zs = onceL cfT zs := by unfold chkL; rw [if_pos he]
 unfold ChkO
 rw [hl, he]
 exact ⟨A, c, rfl, ht, hb, hf⟩
set_option maxHeartbeats 1000000 in
theorem check_own (A : Option Addr) (n c : Nat) (zs : List ByteArray) (B : Nat) (w : World) (h : Txt w B A n c zs) (hn : n <= 9223372036854775807) :
 Calls Tryz.prog 48 #[.slice A n c] w (ChkO zs w) := by
 have hl := h.len
 have hle := h.le
 have hcap := h.cap
 by_cases h0 : n = 0
 · have HE := Lib.hid (chk_none (zs := zs) (by omega))
   subst h0
   go_enter Tryz.func48, Tryz.ntmps48
   go_wp2
   go_ret2
   exact chk_errO HE.out (by omega) (Below.refl _ _)
 by_cases h64 : 64 < n
 · have HE := Lib.hid (chk_many (zs := zs) (by omega))
   have d1 : ((n : Int) == 0) = false := by rw [beq_eq_false_iff_ne]; omega
   clear hl h
   go_enter Tryz.func48, Tryz.ntmps48
   go_wp2
   go_ret2
   exact chk_errO HE.out (by omega) (Below.refl _ _)
 have hp : 0 < n := by omega
 have hl64 : n <= 64 := by omega
 have d1 : ((n : Int) == 0) = false := by rw [beq_eq_false_iff_ne]; omega
 clear h0 h64
 go_enter Tryz.func48, Tryz.ntmps48
 go_wp2
 go_loopw [4, 18] (fun v i wr => ∃ k q : Nat, k <= n /\ Hid (∀ j, j < k -> okB (nthT zs j) = true) /\ v = .int .i64 (szB k zs : Nat) /\ i = .int .i64 k /\ wr = w.drewN q) (fun _ i _ => n - (intOf i).toNat)
 case atStart => exact ⟨0, 0, Nat.zero_le _, Lib.hid (fun j hj => absurd hj (by omega)), rfl, rfl, rfl⟩
 case round =>
   obtain ⟨k, q, hk, hall, rfl, rfl, rfl⟩ := hrel
   have hsz := szB_le hall.out
   have HH := Lib.hid h
   have HL := Lib.hid hl
   by_cases hlt : k < n
   · obtain ⟨b, off, rfl, hb, hcell⟩ := h.at_ hp
     have c0 := hcell k hlt
     have hz := h.size hlt
     have HZ := Lib.hid hz
     unfold maxLen at hz
     by_cases hbig : 1024 < (nthT zs k).size
     · have HE := Lib.hid (chk_big (zs := zs) (k := k) (by omega) (by omega) hall.out hbig)
       generalize nthT zs k = s at *
       clear hcell h hl
       go_wp2
       go_ret2
       exact chk_errO HE.out (by omega) (below_drewn (Below.refl _ _) q)
     · cases ho : spOk (nthT zs k) with
       | false =>
         have HE := Lib.hid (chk_name (zs := zs) (k := k) (by omega) (by omega) hall.out (by omega) ho)
         have HO := Lib.hid ho
         generalize nthT zs k = s at *
         clear hcell h hl ho
         go_wp2_with (go_at_call 82; refine (split_any s _ HZ.out).mono ?_; rw [HO.out]; rintro e w1 ⟨rfl, n1, rfl⟩)
         go_ret2
         exact chk_errO HE.out (by omega) (by first | exact below_drewn (below_drewn (Below.refl _ _) _) _ | exact below_drewn (Below.refl _ _) _)
       | true =>
         have hok : okB (nthT zs k) = true := by unfold okB; rw [ho, decide_eq_true (by omega)]; rfl
         have HK := Lib.hid hok
         have HO := Lib.hid ho
         have HS := Lib.hid (show szB (k + 1) zs = szB k zs + (nthT zs k).size from rfl)
         generalize hx : nthT zs k = s at *
         have HX := Lib.hid hx
         clear hcell h hl ho hok hx
         go_wp2_with (go_at_call 82; refine (split_any s _ HZ.out).mono ?_; rw [HO.out]; rintro e w1 ⟨rfl, n1, rfl⟩)
         go_roundw
         case rel => exact ⟨k + 1, _, by omega, Lib.hid (fun j hj => by
           rcases Nat.lt_or_ge j k with e | e
           · exact hall.out j e
           · obtain rfl : j = k := by omega
             rw [HX.out]; exact HK.out), by rw [HS.out]; go_num, by go_num, by first | rfl | exact World.drewN_drewN _ _ _⟩
         case measure => simp [intOf]; omega
   · obtain rfl : k = n := by omega
     have hall2 : ∀ j, j < zs.length -> okB (nthT zs j) = true := fun j hj => hall.out j (by omega)
     by_cases hbig : 8192 < szB k zs
     · have HE := Lib.hid (chk_total (zs := zs) (by omega) (by omega) hall2 (by rw [hl]; exact hbig))
       clear hl h hall2
       go_wp2
       go_ret2
       exact chk_errO HE.out (by omega) (below_drewn (Below.refl _ _) q)
     · have HE := Lib.hid (chk_good (zs := zs) (by omega) (by omega) hall2 (by rw [hl]; exact hbig))
       clear hl h hall2
       go_wp2_with (go_at_call 83; refine (once_own _ cfT cmpT A k c zs B _ (HH.out.drewN q) (by omega)).mono ?_; rintro e w1 ⟨A1, c1, rfl, hT, hb1, hfr⟩; have HT := Lib.hid (And.intro hT hfr); clear hT hfr)
       go_ret2
       exact chk_okO HE.out HT.out.1 (below_drewn0 hb1) (fun ad ha => (HT.out.2 ad ha).elim (fun h => by simpa using h) (fun h => by cases h))
theorem find_all {zs : List ByteArray} (h : firstBad zs = 0) : ∀ s ∈ zs, okB s = true := fun s hs => by
 unfold firstBad at h
 cases hc : zs.find? (fun s => !okB s) with
 | some a => rw [hc] at h; simp only at h; split at h <;> omega
 | none =>
   have := List.find?_eq_none.1 hc s hs
   simpa using this
theorem chk_zero {zs : List ByteArray} (h : chkE zs = 0) : 0 < zs.length /\ zs.length <= 64 /\ (∀ s ∈ zs, okB s = true) /\ chkL zs = onceL cfT zs := by
 have hl : chkL zs = onceL cfT zs := if_pos h
 unfold chkE at h
 by_cases h0 : zs.length = 0
 · rw [if_pos h0] at h; omega
 rw [if_neg h0] at h
 by_cases h1 : 64 < zs.length
 · rw [if_pos h1] at h; omega
 rw [if_neg h1] at h
 by_cases h2 : firstBad zs = 0
 · exact ⟨by omega, by omega, find_all h2, hl⟩
 · rw [if_pos h2] at h; exact absurd h h2
theorem okB_iff {s : ByteArray} (h : okB s = true) : spOk s = true /\ s.size <= 1024 := by
 unfold okB at h
 rw [Bool.and_eq_true, decide_eq_true_eq] at h
 exact ⟨h.2, h.1⟩
theorem good_of_chk {zs : List ByteArray} (h : chkE zs = 0) : Good64 (chkL zs) := by
 obtain ⟨h0, h1, h2, h3⟩ := chk_zero h
 obtain ⟨hr, hm⟩ := onceL_spec cfT_tot zs
 rw [h3]
 refine ⟨?_, ?_, fun s hs => okB_iff (h2 s ((hm s).1 hs)), ?_⟩
 · refine List.length_pos_of_mem ((hm zs[0]).2 (List.getElem_mem h0))
 · rw [once_put cfT_tot]
   exact Nat.le_trans (putAll_length _) h1
 · rw [List.nodup_iff_pairwise_ne]
   refine hr.imp fun {a b} hlt e => ?_
   subst e
   exact cfT_tot.irr _ hlt
def RC.chk (r : RC) : RC := { r with its := chkL r.its }
theorem txt_nobox {w : World} {B n c g : Nat} {A : Option Addr} {zs : List ByteArray} {v0 v1 v2 v3 : Int} {A1 : Option Addr} {n1 c1 : Nat} {t : TypeId} (h : Txt w B A n c zs) (hn : 0 < n) (hk : Blk w g t #[.int .u64 v0, .int .u64 v1, .int .u64 v2, .int .u64 v3, .slice A1 n1 c1]) : ∀ ad, A = some ad -> ad.block ≠ g := by
 obtain ⟨b, off, rfl, hb, hc⟩ := h.at_ hn
 intro ad ha
 injection ha with ha
 subst ha
 intro e
 have e2 : b = g := e
 subst e2
 have h0 := hc 0 hn
 rw [hk.cell] at h0
 match off, h0 with
 | 0, h0 => simp at h0
 | 1, h0 => simp at h0
 | 2, h0 => simp at h0
 | 3, h0 => simp at h0
 | 4, h0 => simp at h0
 | (q + 5), h0 => simp at h0
section
variable {hI hM k d f : Int} {w w' wr : World} {base : Nat} {S T : Nat -> Prop} {p lim : Nat} {was bs : List Int} {R : List DR} {O : List GO} {Lr : List Int} {tl cnt : Nat}
def AddTold (hI hM k d f : Int) (w : World) (base : Nat) (S : Nat -> Prop) (p lim : Nat) (bs : List Int) (R : List DR) (O : List GO) (Lr : List Int) (E : List (List (List Int))) (tl : Nat) (r : RC) (e : Ending) (w' : World) : Prop :=
 (¬ chkE r.its = 0 /\ e = .returned (.tuple #[.int .i64 0, .int .i64 (chkE r.its)]) /\ Below w.heap.size w w') ∨
 (chkE r.its = 0 /\ ∃ (a : Nat) (R' : List DR) (ps : List Int), e = .returned (.tuple #[.int .i64 a, .int .i64 0]) /\ 256 <= a /\ a <= 1099511627776 /\ Chg S w w' /\ EX hI hM k d f w' base (grow S w w') p lim bs R' (O ++ [entO k r.chk a ps]) (Lr ++ [(a : Int)]) (tl + budE R O ((chkL r.its).map nums)) 300 /\ EL R' (O ++ [entO k r.chk a ps]) (Lr ++ [(a : Int)]) (E ++ [(chkL r.its).map nums]) /\ ∀ y, y ∉ (chkL r.its).map nums -> findD R' y = findD R y) ∨
 (chkE r.its = 0 /\ lim < tl + budE R O ((chkL r.its).map nums) /\ e = .returned (.tuple #[.int .i64 0, .int .i64 21]) /\ Chg S w w' /\ ED hI hM k d f w' base (grow S w w') p lim bs R O Lr tl)
set_option maxHeartbeats 4000000 in
theorem eadd_any {E : List (List (List Int))} {B : Nat} (r : RC) (hr : RCOk w B r) (hB : B <= w.heap.size) (hn : r.n <= 9223372036854775807) (h : ED hI hM k d f w base S p lim bs R O Lr tl) (hE : EL R O Lr E) (hO : O.length <= 900) (htb : tl <= 900000000) :
 Calls Tryz.prog 22 #[.pointer (some ⟨p, 0, none⟩), r.v] w (AddTold hI hM k d f w base S p lim bs R O Lr E tl r) := by
 obtain ⟨hr0, hr1, hr2, hr3, hT⟩ := hr
 have hbas := h.bas
 have hft := Lib.hid h.foot
 obtain ⟨v0, hv0⟩ : ∃ v0, r.seq = v0 := ⟨_, rfl⟩
 obtain ⟨v1, hv1⟩ : ∃ v1, r.real = v1 := ⟨_, rfl⟩
 obtain ⟨v2, hv2⟩ : ∃ v2, r.mono = v2 := ⟨_, rfl⟩
 obtain ⟨v3, hv3⟩ : ∃ v3, r.boot = v3 := ⟨_, rfl⟩
 have hrv : r.v = .agg #[.int .u64 v0, .int .u64 v1, .int .u64 v2, .int .u64 v3, .slice r.A r.n r.c] := by rw [<- hv0, <- hv1, <- hv2, <- hv3]; rfl
 rw [hrv]
 have CH := Lib.hid (fun w0 (hb0 : Below w.heap.size w w0) => check_own r.A r.n r.c r.its B w0 (hT.below (hb0.mono hB)) hn)
 have hcE : (0 : Int) <= chkE r.its /\ chkE r.its <= 100 := by
   unfold chkE firstBad
   repeat' split
   all_goals omega
 have PU := Lib.hid (fun (w1 : World) (A1 : Option Addr) (c1 : Nat) (he : chkE r.its = 0) (hF : Below w.heap.size w w1) (hT1 : Txt w1 w1.heap.size A1 (chkL r.its).length c1 (chkL r.its)) (hfr : ∀ ad, A1 = some ad -> w.heap.size <= ad.block) =>
   eput_any (w := w1) (r := ⟨v0, v1, v2, v3, A1, (chkL r.its).length, c1, chkL r.its⟩) ⟨hv0 ▸ hr0, hv1 ▸ hr1, hv2 ▸ hr2, hv3 ▸ hr3, hT1⟩ (Nat.le_refl _) (fun ad ha e => by have := (hft.out _ e).2; have := hfr ad ha; omega) (good_of_chk he) (h.toEX.below hF) hE (by omega) (by omega) (by omega))
 have HH := Lib.hid h
 have HV := Lib.hid (And.intro hv0 (And.intro hv1 (And.intro hv2 hv3)))
 have HG := Lib.hid (fun he => good_of_chk (zs := r.its) he)
 obtain ⟨A, hAe⟩ : ∃ A, r.A = A := ⟨_, rfl⟩
 obtain ⟨n, hne⟩ : ∃ n, r.n = n := ⟨_, rfl⟩
 obtain ⟨c, hce⟩ : ∃ c, r.c = c := ⟨_, rfl⟩
 rw [hAe, hne, hce] at CH ⊢
 obtain ⟨ec, hec⟩ : ∃ ec, chkE r.its = ec := ⟨_, rfl⟩
 obtain ⟨L, hL⟩ : ∃ L, chkL r.its = L := ⟨_, rfl⟩
 unfold ChkO at CH
 rw [hec, hL] at CH
 rw [hec, hL] at PU
 rw [hec, hL] at HG
 rw [hec] at hcE
 have HEQ := Lib.hid (And.intro hec hL)
 clear hT hr0 hr1 hr2 hr3 hv0 hv1 hv2 hv3 hrv h hE hO hAe hne hce hec hL hn
 by_cases he : ec = 0
 · subst he
   have hG := HG.out rfl
   have hnL : 0 < L.length := hG.pos
   have BK := Lib.hid (fun (w3 : World) (S3 : Nat -> Prop) (hh : HX hI hM k d f w3 base S3 p lim bs) => back_ed hh HH.out.old HH.out.key_ HH.out.small.1 HH.out.small.2.2 HH.out.small.2.1)
   go_enter Tryz.func22, Tryz.ntmps22
   go_wp2_with (first
     | (go_at_call 48; (refine (CH.out _ (boxed _ _)).mono ?_; rintro e w1 ⟨A1, c1, rfl, ht1, hb1, hfr1⟩; have hsb : (w.alloc (.cells #[.int .u64 v0, .int .u64 v1, .int .u64 v2, .int .u64 v3, .slice A n c] 59)).heap.size = w.heap.size + 1 := World.size_alloc _ _; have hbk1 := (Blk.new w 59 #[.int .u64 v0, .int .u64 v1, .int .u64 v2, .int .u64 v3, .slice A n c]).below hb1 (by omega); have c4 := hbk1.cell 4; have f4 := hbk1.frozen 4; have hbk2 : Blk (w1.setCell ⟨w.heap.size, 4, none⟩ (.slice A1 L.length c1)) w.heap.size 59 #[.int .u64 v0, .int .u64 v1, .int .u64 v2, .int .u64 v3, .slice A1 L.length c1] := hbk1.set_ 4 _; have d0 := hbk2.cell 0; have d1 := hbk2.cell 1; have d2 := hbk2.cell 2; have d3 := hbk2.cell 3; have d4 := hbk2.cell 4; have HF2 : Hid (Below w.heap.size w (w1.setCell ⟨w.heap.size, 4, none⟩ (.slice A1 L.length c1))) := Lib.hid (((boxed w _).trans (hb1.mono (by omega))).setCell (p := ⟨w.heap.size, 4, none⟩) (Nat.le_refl _) _); have hnb := txt_nobox ht1 hnL hbk1; have HT2 : Hid (Txt (w1.setCell ⟨w.heap.size, 4, none⟩ (.slice A1 L.length c1)) (w1.setCell ⟨w.heap.size, 4, none⟩ (.slice A1 L.length c1)).heap.size A1 L.length c1 L) := Lib.hid ((ht1.chg (chg_set w1 ⟨w.heap.size, 4, none⟩ (.slice A1 L.length c1)) (Nat.le_refl _) hnb).more (by rw [size_set]; exact Nat.le_refl _)); have PUT := Lib.hid (PU.out _ A1 c1 rfl HF2.out HT2.out (fun ad ha => by have := hfr1 ad ha; omega)); clear hbk1 hbk2 ht1 hb1 hfr1 hnb))
     | (go_at_call 49; (refine PUT.out.mono ?_; rintro e w3 (⟨a, R', ps, rfl, ha1, ha2, hc3, hx3, hE3, hsm3⟩ | ⟨hlm, ⟨v, rfl⟩, hc3, hh3⟩)))
     | (go_at_call 50; (refine (BK.out _ _ hh3).mono ?_; rintro e w4 ⟨rfl, hc4, hd4⟩)))
   all_goals
     have hF3 := (show Fp S w S _ from ⟨Chg.of_below HF2.out (Nat.le_refl _) S, fun _ h => .inl h⟩).next hc3
   · go_ret2
     obtain ⟨e1, e2⟩ := HEQ.out
     obtain ⟨q0, q1, q2, q3⟩ := HV.out
     obtain ⟨h1, h2⟩ := hx3.fin hF3 hft.out hbas
     have hent : entO k ⟨v0, v1, v2, v3, A1, L.length, c1, L⟩ a ps = entO k r.chk a ps := by unfold entO RC.chk; simp only [q0, q1, q2, q3, e2]
     rw [hent] at h2 hE3
     have hml := hG.most
     refine .inr (.inl ⟨e1, a, R', ps, rfl, ha1, ha2, h1, ?_, ?_, ?_⟩)
     · rw [e2]
       exact h2.more (Nat.le_refl _) (by show 0 + 4 * L.length + 1 <= 300; omega) (by omega)
     · rw [e2]; exact hE3
     · rw [e2]; exact hsm3
   · go_ret2
     obtain ⟨e1, e2⟩ := HEQ.out
     obtain ⟨h1, h2⟩ := hd4.fin (hF3.next hc4) hft.out hbas
     exact .inr (.inr ⟨e1, by rw [e2]; exact hlm, rfl, h1, h2⟩)
 · have hcf : (ec == 0) = false := by simpa using he
   have HE := Lib.hid he
   clear he PU
   go_enter Tryz.func22, Tryz.ntmps22
   go_wp2_with (go_at_call 48; refine (CH.out _ (boxed _ _)).mono ?_; rintro e w1 ⟨A1, c1, rfl, -, hb1, -⟩)
   go_ret2
   left
   refine ⟨by rw [HEQ.out.1]; exact HE.out, by rw [HEQ.out.1]; rfl, (boxed w _).trans (hb1.mono (by simp))⟩
end
section
variable {hI hM k d f : Int} {w w' wr : World} {base : Nat} {S T : Nat -> Prop} {p lim : Nat} {was bs : List Int} {R : List DR} {O : List GO} {Lr : List Int} {tl cnt : Nat}
end
attribute [local go_sem] Oper.semAt_some
section
variable {hI hM k d f : Int} {w w' wr : World} {base : Nat} {S T : Nat -> Prop} {p lim : Nat} {was bs : List Int} {R : List DR} {O : List GO} {Lr : List Int} {tl cnt : Nat}
end
section
variable {hI hM k d f : Int} {w w' wr : World} {base : Nat} {S T : Nat -> Prop} {p lim : Nat} {was bs : List Int} {R : List DR} {O : List GO} {Lr : List Int} {tl cnt : Nat}
end
attribute [local go_sem] Oper.semAt_some
section
variable {hI hM k d f : Int} {w w' wr : World} {base : Nat} {S T : Nat -> Prop} {p lim : Nat} {was bs : List Int} {R : List DR} {O : List GO} {Lr : List Int} {tl cnt : Nat}
end
end Go.Proofs.YtaeegcohimflbaaGreat
