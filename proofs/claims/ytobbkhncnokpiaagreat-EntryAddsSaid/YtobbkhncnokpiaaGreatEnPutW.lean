/-
  LAYER 16: put: an entry with all that must lead to it: its contract.
-/
import Derived.Test.YtobbkhncnokpiaaGreatEnFp
import Derived.BigRegion
set_option linter.unusedVariables false
set_option maxRecDepth 100000
set_option linter.unusedSimpArgs false
namespace Go.Proofs.YtobbkhncnokpiaaGreat
open Go.RowKit Go.Shelf

/-- The object of an entry. -/
def entO (k : Int) (r : RC) (a : Nat) (ps : List Int) : GO := ⟨0, a, 3, [r.seq, r.real, r.mono, r.boot, xorL k r.its], [], ps⟩
/-- How much an entry may take: the first one of a file, or a later one. -/
def apE (O : List GO) : Nat := if O.length = 0 then 56 else 8216
def rfE (O : List GO) : Nat := if O.length = 0 then 0 else 8216
def budE (R : List DR) (O : List GO) (zs : List (List Int)) : Nat := 1200 * newsD R zs + (56 + 8 * zs.length) + rfE O * zs.length + apE O
theorem apE_le (O : List GO) : apE O ≤ 8216 := by unfold apE; split <;> omega
theorem rfE_le (O : List GO) : rfE O = 8216 ∨ (rfE O = 0 ∧ O.length = 0) := by
  unfold rfE
  split
  · exact .inr ⟨rfl, by assumption⟩
  · exact .inl rfl
theorem budE_le (R : List DR) (O : List GO) {zs : List (List Int)} (h : zs.length ≤ 64) : budE R O zs ≤ 700000 := by
  have := newsD_le R zs
  have := apE_le O
  have h2 : rfE O * zs.length ≤ 8216 * zs.length := Nat.mul_le_mul_right _ (by rcases rfE_le O with e | ⟨e, -⟩ <;> omega)
  unfold budE; omega

section
variable {k d f : Int} {w w' wr : World} {base : Nat} {S T : Nat → Prop} {p lim : Nat} {was bs : List Int} {R : List DR} {O : List GO} {Lr : List Int} {tl cnt : Nat}

theorem words3 (w : World) : Calls Tryz.prog 66 #[.int .i64 3] w fun e w' => e = .returned (.int .i64 5) ∧ w = w' := owords_any 3 w
theorem make5 (W : World) : (Instr.makeSlice 42 (.int .i64 5) (.int .i64 5)).run Tryz.prog W = .ok (.slice (some ⟨W.heap.size, 0, none⟩) 5 5) (W.alloc (.cells #[.int .u64 0, .int .u64 0, .int .u64 0, .int .u64 0, .int .u64 0] 33)) := by
  obtain ⟨i0, hi, hz0, hz1, hz2⟩ := info_parts tabWordInfo
  have h := run_make (P := Tryz.prog) W 42 33 i0 (.int .u64 0) Tryz.underlying42 hi hz0 .i64 .i64 5 5 (by omega) (Int.le_refl _) (by rw [hz2]; decide) (by omega)
  rw [hz1] at h
  have e : madeCells (Value.int IntKind.u64 0).cells (Int.toNat 5 * 1) = #[.int .u64 0, .int .u64 0, .int .u64 0, .int .u64 0, .int .u64 0] := by
    apply Array.toList_inj.1
    show (madeCells #[Value.int IntKind.u64 0] 5).toList = _
    rw [toList_madeCells_one]; rfl
  rw [e] at h
  exact h

/-- A block of numbers that is known whole, as a slice of it reads. -/
theorem Blk.nums5 {w : World} {g : Nat} {Zc : Array Value} {zs : List Int} (h : Blk w g 33 Zc) (hl : Zc.toList = cellsOf .u64 zs) : Reads w w.heap.size 1 (some ⟨g, 0, none⟩) zs.length (cellsOf .u64 zs) := by
  refine ⟨by rw [cellsOf_length]; omega, fun _ => ⟨_, rfl, h.lt, fun j u hj => ?_⟩⟩
  have e : (⟨g, 0, none⟩ : Addr).add j = ⟨g, j, none⟩ := by unfold Addr.add; split <;> simp_all
  rw [e, h.cell]
  rw [← hl] at hj
  simpa using hj

/-- Ahead of Put: its object lies in memory. -/
theorem put_ready {E : List (List (List Int))} {w1 wx : World} {g n gw : Nat} {v0 v1 v2 v3 x : Int} {O' : List GO} {R0 : List DR} {ps : List Int} {zs : List (List Int)} {b1 : Nat} (h : EX k d f w1 base T p lim was R O Lr tl cnt) (hI : InsAt R0 R zs ps O' Lr E) (hn : zs.length = n) (h1 : 0 < n) (h2 : n ≤ 64) (hb : Below w1.heap.size w1 wx)
    (hk : Blk wx gw 33 #[.int .u64 v0, .int .u64 v1, .int .u64 v2, .int .u64 v3, .int .u64 x]) (hr : w1.ownsRow b1 33 1 (.slice (some ⟨g, 0, none⟩) n n) n (cellsOf .u64 ps)) (hu : ∀ z ∈ [v0, v1, v2, v3, x], 0 ≤ z ∧ z < 18446744073709551616) :
    Calls Tryz.prog 67 #[.pointer (some ⟨p, 0, none⟩), obV 3 (some ⟨gw, 0, none⟩) 5 5 none 0 0 (some ⟨g, 0, none⟩) n n] wx fun e w' =>
      (∃ a : Nat, e = .returned (.tuple #[.int .i64 (a : Nat), .int .i64 0]) ∧ 256 ≤ a ∧ a ≤ 1099511627776 ∧ Chg T wx w' ∧ EX k d f w' base (grow T wx w') p lim was R (O ++ [⟨0, a, 3, [v0, v1, v2, v3, x], [], ps⟩]) Lr (tl + (56 + 8 * n)) cnt) ∨
      (lim < tl + (56 + 8 * n) ∧ e = .returned (.tuple #[.int .i64 0, .int .i64 21]) ∧ Below wx.heap.size wx w') :=
  put_ex2 (L := wx.heap.size) (some ⟨gw, 0, none⟩) 5 5 [v0, v1, v2, v3, x] none 0 0 (some ⟨g, 0, none⟩) n n ps
    ⟨hk.nums5 rfl, Reads.none_, Reads.of_own (own_below hr hb), ⟨by omega, by omega⟩, ⟨by omega, by omega⟩, ⟨Nat.le_refl _, by omega⟩⟩ (Nat.le_refl _) (by simp [rightN, hasI, kwN, mostN]; omega) hu
    (fun z hz => by
      obtain ⟨i, hi⟩ := List.getElem?_of_mem hz
      have hil : i < zs.length := by rw [← hI.len]; exact (List.getElem?_eq_some_iff.1 hi).1
      obtain ⟨a, ha, hpa⟩ := hI.known i zs[i] (List.getElem?_eq_getElem hil)
      rw [hi] at hpa
      injection hpa with hpa
      have := (h.at_le ha).1
      omega) (h.below hb)

/-- Append to the list of all. -/
theorem listed_e {O0 : List GO} (x : Int) (hx : IsU x) (hx0 : ¬ x = 0) (h : EX k d f w base S p lim was R O Lr tl cnt) (hc : cnt ≤ 100000) (hln : Lr.length ≤ 1000000000) (hl : Lr.length = O0.length) :
    Calls Tryz.prog 69 #[.pointer (some ⟨p, 0, none⟩), .int .i64 192, .int .u64 x] w fun e w' =>
      (e = .returned (.int .i64 0) ∧ Chg S w w' ∧ EX k d f w' base (grow S w w') p lim was R O (Lr ++ [x]) (tl + apE O0) (cnt + 1)) ∨ (lim < tl + apE O0 ∧ e = .returned (.int .i64 21) ∧ Below w.heap.size w w') := by
  unfold apE
  split
  · exact listed_nil x hx hx0 h hc (List.eq_nil_of_length_eq_zero (by omega))
  · exact listed_ex x hx hx0 h hc hln

set_option maxHeartbeats 4000000 in
theorem eput_any {E : List (List (List Int))} {B : Nat} (r : RC) (hr : RCOk w B r) (hB : B ≤ w.heap.size) (hA : ∀ ad, r.A = some ad → ¬ S ad.block) (hZ : Good64 r.its) (h : EX k d f w base S p lim was R O Lr tl cnt) (hE : EL R O Lr E) (hO : O.length ≤ 1000) (hc : cnt ≤ 5000) (htb : tl ≤ 1000000000) :
    Calls Tryz.prog 37 #[.pointer (some ⟨p, 0, none⟩), r.v] w fun e w' =>
      (∃ (a : Nat) (R' : List DR) (ps : List Int), e = .returned (.tuple #[.int .i64 a, .bool true]) ∧ 256 ≤ a ∧ a ≤ 1099511627776 ∧ Chg S w w' ∧ EX k d f w' base (grow S w w') p lim was R' (O ++ [entO k r a ps]) (Lr ++ [(a : Int)]) (tl + budE R O (r.its.map nums)) (cnt + 4 * r.n + 1) ∧ EL R' (O ++ [entO k r a ps]) (Lr ++ [(a : Int)]) (E ++ [r.its.map nums]) ∧ ∀ y, y ∉ r.its.map nums → findD R' y = findD R y) ∨
      (lim < tl + budE R O (r.its.map nums) ∧ (∃ v, e = .returned (.tuple #[v, .bool false])) ∧ Chg S w w' ∧ HX k d f w' base (grow S w w') p lim was) := by
  obtain ⟨hr0, hr1, hr2, hr3, hT⟩ := hr
  have hl := hT.len
  have hbas := h.bas
  have hft := Lib.hid h.foot
  have HTT := Lib.hid (fun wx (hx : Chg S w wx) => hT.chg hx hB hA)
  have HU := Lib.hid (And.intro hr0 (And.intro hr1 (And.intro hr2 hr3)))
  have hn0 : 0 < r.n := by rw [← hl]; exact hZ.pos
  have hn64 : r.n ≤ 64 := by rw [← hl]; exact hZ.most
  obtain ⟨v0, hv0⟩ : ∃ v0, r.seq = v0 := ⟨_, rfl⟩
  obtain ⟨v1, hv1⟩ : ∃ v1, r.real = v1 := ⟨_, rfl⟩
  obtain ⟨v2, hv2⟩ : ∃ v2, r.mono = v2 := ⟨_, rfl⟩
  obtain ⟨v3, hv3⟩ : ∃ v3, r.boot = v3 := ⟨_, rfl⟩
  have hrv : r.v = .agg #[.int .u64 v0, .int .u64 v1, .int .u64 v2, .int .u64 v3, .slice r.A r.n r.c] := by rw [← hv0, ← hv1, ← hv2, ← hv3]; rfl
  rw [hrv]
  have HV := Lib.hid (And.intro hv0 (And.intro hv1 (And.intro hv2 hv3)))
  have IT := Lib.hid (fun w0 (hb0 : Below w.heap.size w w0) => eintern_any (B := B) r.A r.n r.c r.its (h.below hb0) hE (hT.below (hb0.mono hB)) (Nat.le_trans hB hb0.size) hA hZ (by omega) (by omega))
  have HH := Lib.hid (And.intro h (And.intro hE (And.intro hO hZ)))
  have HL := Lib.hid hl
  obtain ⟨A, hAe⟩ : ∃ A, r.A = A := ⟨_, rfl⟩
  obtain ⟨n, hne⟩ : ∃ n, r.n = n := ⟨_, rfl⟩
  obtain ⟨c, hce⟩ : ∃ c, r.c = c := ⟨_, rfl⟩
  rw [hAe, hne, hce] at IT HTT ⊢
  rw [hne] at hn0 hn64 HL
  have HQ := Lib.hid (And.intro hAe (And.intro hne hce))
  clear hT hA hr0 hr1 hr2 hr3 hv0 hv1 hv2 hv3 hrv hl h hE hO hZ hAe hne hce
  go_enter Tryz.func37, Tryz.ntmps37
  have hsb : (w.alloc (.cells #[.int .u64 v0, .int .u64 v1, .int .u64 v2, .int .u64 v3, .slice A n c] 36)).heap.size = w.heap.size + 1 := World.size_alloc _ _
  have HB0 : Hid (∀ w1, Chg S (w.alloc (.cells #[.int .u64 v0, .int .u64 v1, .int .u64 v2, .int .u64 v3, .slice A n c] 36)) w1 → Chg S w w1 ∧ w.heap.size < w1.heap.size ∧ Blk w1 w.heap.size 36 #[.int .u64 v0, .int .u64 v1, .int .u64 v2, .int .u64 v3, .slice A n c]) := Lib.hid (fun w1 hc1 => by
    have hs1 := hc1.size
    rw [hsb] at hs1
    exact ⟨(Chg.of_below (boxed w _) (Nat.le_refl _) S).trans hc1 (fun _ _ e => e), by omega, (Blk.new w _ _).chg hc1 (fun e => by have := (hft.out _ e).2; omega)⟩)
  go_wp2_with (first
    | (go_at_call 65; refine (IT.out _ (boxed _ _)).mono ?_; rintro e w1 (⟨R', ps, g, rfl, hg, hc1, hx1, hi1, hrow⟩ | ⟨hlm, ⟨v, rfl⟩, hc1, hh1⟩))
    | (go_at_call 66; refine (words3 _).mono ?_; rintro e w2 ⟨rfl, rfl⟩; have hmk := make5))
  rotate_left
  · go_ret2
    have hh := HB0.out _ hc1
    refine .inr ⟨by unfold budE; omega, ⟨_, rfl⟩, hh.1, hh1.mono (fun q hq => ?_) (chg_lt hft.out hh.1 hbas)⟩
    rcases hq with hq | hq
    · exact .inl hq
    · right; omega
  · obtain ⟨hcw, hs1, hbx⟩ := HB0.out _ hc1
    have hgl := (hrow.lt g rfl).2
    have HG := Lib.hid (And.intro hg (And.intro hgl (And.intro hsb hcw)))
    have HX1 := Lib.hid hx1
    have HI1 := Lib.hid hi1
    have HR1 := Lib.hid hrow
    have hbw : Blk (w1.alloc (.cells #[.int .u64 0, .int .u64 0, .int .u64 0, .int .u64 0, .int .u64 0] 33)) w1.heap.size 33 #[.int .u64 0, .int .u64 0, .int .u64 0, .int .u64 0, .int .u64 0] := Blk.new _ _ _
    have hb2 : Below w1.heap.size w1 (w1.alloc (.cells #[.int .u64 0, .int .u64 0, .int .u64 0, .int .u64 0, .int .u64 0] 33)) := boxed _ _
    have hbx2 := hbx.below hb2 (by omega)
    clear hc1 hx1 hi1 hrow hg hgl hsb hcw hbx HB0 IT hmk
    obtain ⟨gw, hgw⟩ : ∃ gw, w1.heap.size = gw := ⟨_, rfl⟩
    rw [hgw] at hs1 hbw hb2 ⊢
    have HGW := Lib.hid hgw
    clear hgw
    generalize w1.alloc (.cells #[.int .u64 0, .int .u64 0, .int .u64 0, .int .u64 0, .int .u64 0] 33) = w2 at *
    have c0 := hbx2.cell 0
    have c1 := hbx2.cell 1
    have c2 := hbx2.cell 2
    have c3 := hbx2.cell 3
    have z0 := hbw.cell 0
    have z1 := hbw.cell 1
    have z2 := hbw.cell 2
    have z3 := hbw.cell 3
    have y0 := hbw.frozen 0
    have y1 := hbw.frozen 1
    have y2 := hbw.frozen 2
    have y3 := hbw.frozen 3
    have hne : ¬ w.heap.size = gw := by omega
    have hne2 : ¬ gw = w.heap.size := by omega
    go_region
    have hk3 : Blk _ gw 33 #[.int .u64 v0, .int .u64 v1, .int .u64 v2, .int .u64 v3, .int .u64 0] := ((((hbw.set_ 0 (.int .u64 v0)).set_ 1 (.int .u64 v1)).set_ 2 (.int .u64 v2)).set_ 3 (.int .u64 v3)).drew
    have hq3 := ((((hbx2.far (p := ⟨gw, 0, none⟩) hne (.int .u64 v0)).far (p := ⟨gw, 1, none⟩) hne (.int .u64 v1)).far (p := ⟨gw, 2, none⟩) hne (.int .u64 v2)).far (p := ⟨gw, 3, none⟩) hne (.int .u64 v3)).drew
    have hb3 := below_drewn ((((hb2.setCell (p := ⟨gw, 0, none⟩) (Nat.le_refl _) (.int .u64 v0)).setCell (p := ⟨gw, 1, none⟩) (Nat.le_refl _) (.int .u64 v1)).setCell (p := ⟨gw, 2, none⟩) (Nat.le_refl _) (.int .u64 v2)).setCell (p := ⟨gw, 3, none⟩) (Nat.le_refl _) (.int .u64 v3)) 1
    clear c0 c1 c2 c3 z0 z1 z2 z3 y0 y1 y2 y3 hne hne2 hbw hbx2 hb2
    have hw3 : ((((w2.setCell ⟨gw, 0, none⟩ (.int .u64 v0)).setCell ⟨gw, 1, none⟩ (.int .u64 v1)).setCell ⟨gw, 2, none⟩ (.int .u64 v2)).setCell ⟨gw, 3, none⟩ (.int .u64 v3)).drewN 1 = ((((w2.setCell ⟨gw, 0, none⟩ (.int .u64 v0)).setCell ⟨gw, 1, none⟩ (.int .u64 v1)).setCell ⟨gw, 2, none⟩ (.int .u64 v2)).setCell ⟨gw, 3, none⟩ (.int .u64 v3)).drew := rfl
    rw [hw3] at hb3
    clear hw3
    generalize ((((w2.setCell ⟨gw, 0, none⟩ (.int .u64 v0)).setCell ⟨gw, 1, none⟩ (.int .u64 v1)).setCell ⟨gw, 2, none⟩ (.int .u64 v2)).setCell ⟨gw, 3, none⟩ (.int .u64 v3)).drew = w3 at *
    have c4 := hq3.cell 4
    have HK3 := Lib.hid (And.intro hk3 (And.intro hb3 (show gw ≤ w3.heap.size from by have := hb3.size; have := HGW.out; omega)))
    have XO := Lib.hid (exor_any A n c r.its B (HX1.out.below (by rw [HGW.out]; exact hb3)) (HTT.out w3 (HG.out.2.2.2.trans (Chg.of_below (by rw [HGW.out]; exact hb3) (Nat.le_refl _) (fun _ => False)) (fun _ _ e => e.elim))) (Nat.le_trans hB (Nat.le_trans (Nat.le_of_lt (by have := HGW.out; omega)) hb3.size)) (fun s hs => by have := (HH.out.2.2.2.ok s hs).2; omega))
    obtain ⟨xo, hxo⟩ : ∃ xo, xorL k r.its = xo := ⟨_, rfl⟩
    rw [hxo] at XO
    have HXO := Lib.hid hxo
    have PUT := Lib.hid (fun wx (hb : Below gw w1 wx) hk => put_ready (wx := wx) (g := g) (n := n) (gw := gw) (v0 := v0) (v1 := v1) (v2 := v2) (v3 := v3) (x := xo) HX1.out HI1.out (by rw [List.length_map]; exact HL.out) hn0 hn64 (by rw [HGW.out]; exact hb) hk HR1.out (fun z hz => by
      obtain ⟨q0, q1, q2, q3⟩ := HU.out
      obtain ⟨e0, e1, e2, e3⟩ := HV.out
      have hx := xorL_isU k r.its
      rw [HXO.out] at hx
      rw [e0] at q0; rw [e1] at q1; rw [e2] at q2; rw [e3] at q3
      simp at hz
      rcases hz with rfl | rfl | rfl | rfl | rfl
      · exact q0
      · exact q1
      · exact q2
      · exact q3
      · exact hx))
    clear hk3 hb3 hq3 hxo hs1
    go_wp2_with (first
      | (go_at_call 19; go_loud (refine XO.out.mono ?_; rintro e w4 ⟨rfl, hb4⟩; have hk4 := HK3.out.1.below hb4 HK3.out.1.lt; have z4 := hk4.cell 4; have y4 := hk4.frozen 4; have HK5 : Hid (Blk (w4.setCell ⟨gw, 4, none⟩ (.int .u64 xo)) gw 33 #[.int .u64 v0, .int .u64 v1, .int .u64 v2, .int .u64 v3, .int .u64 xo]) := Lib.hid (hk4.set_ 4 (.int .u64 xo)); have HB5 : Hid (Below gw w1 (w4.setCell ⟨gw, 4, none⟩ (.int .u64 xo))) := Lib.hid ((HK3.out.2.1.trans (hb4.mono HK3.out.2.2)).setCell (p := ⟨gw, 4, none⟩) (Nat.le_refl _) _); clear hk4 hb4))
      | (go_at_call 67; refine (PUT.out _ HB5.out HK5.out).mono ?_; rintro e w6 (⟨a, rfl, ha1, ha2, hc6, hx6⟩ | ⟨hlm, rfl, hb6⟩)))
    all_goals
      have HBW : ∀ wx, Below gw w1 wx → Below w1.heap.size w1 wx := fun wx h => by rw [HGW.out]; exact h
      have hF1 : Fp S w (fun q => grow S (w.alloc (.cells #[.int .u64 v0, .int .u64 v1, .int .u64 v2, .int .u64 v3, .slice A n c] 36)) w1 q ∧ q ≠ g) w1 := ⟨HG.out.2.2.2, fun q hq => by
        rcases hq.1 with e | e
        · exact .inl e
        · right; have := HG.out.2.2.1; omega⟩
      have hF5 := hF1.below (HBW _ HB5.out)
    rotate_left
    · go_ret2
      have hh := (HX1.out.below (HBW _ HB5.out)).half.below hb6
      obtain ⟨h1, h2⟩ := hh.fin (hF5.below hb6) hft.out hbas
      exact .inr ⟨by unfold budE; rw [List.length_map, HL.out]; omega, ⟨_, rfl⟩, h1, h2⟩
    · obtain ⟨W5, hW5⟩ : ∃ W5, w4.setCell ⟨gw, 4, none⟩ (.int .u64 xo) = W5 := ⟨_, rfl⟩
      rw [hW5] at hc6 hx6 HB5 hF5
      have hF6 := hF5.next hc6
      have hgT : ¬ (grow S (w.alloc (.cells #[.int .u64 v0, .int .u64 v1, .int .u64 v2, .int .u64 v3, .slice A n c] 36)) w1 g ∧ g ≠ g) := fun e => e.2 rfl
      have hr5 := own_below HR1.out (HBW _ HB5.out)
      have hob : ∀ q, (Value.slice (some (⟨g, 0, none⟩ : Addr)) n n).ownBlock = some q → q = g := fun q hq => by
        have : g = q := by simpa [Value.ownBlock] using hq
        exact this.symm
      have hr6 := own_chg hr5 hc6 (fun q hq e => by rw [hob q hq] at e; exact e.2 rfl)
      have hg5 : g < W5.heap.size := (hr5.lt g rfl).2
      have HPR := Lib.hid (fun (wr : World) (hx : Chg (grow (fun q => grow S (w.alloc (.cells #[.int .u64 v0, .int .u64 v1, .int .u64 v2, .int .u64 v3, .slice A n c] 36)) w1 q ∧ q ≠ g) W5 w6) w6 wr) (j b : Nat) (hj : ps[j]? = some (b : Int)) => (show wr.cell? ⟨g, j, none⟩ = some (.int .u64 b) from by
        have hr := own_chg hr6 hx (fun q hq e => by
          rw [hob q hq] at e
          rcases e with e | e
          · exact e.2 rfl
          · omega)
        obtain ⟨h1, h2⟩ := List.getElem?_eq_some_iff.1 hj
        have hpl : ps.length = n := by rw [HI1.out.len, List.length_map]; exact HL.out
        have q1 := hr.cellAt j (by omega)
        rw [cellsOf_get h1] at q1
        rw [q1, List.getD_eq_getElem?_getD, hj]; rfl))
      have HR0 : Hid (RefAtE k d f w w6 base S p lim was R' (O ++ [⟨0, a, 3, [v0, v1, v2, v3, xo], [], ps⟩]) Lr (tl + 1200 * newsD R (r.its.map nums) + (56 + 8 * n)) (cnt + 3 * n) (r.its.map nums) (a : Int) _ w6 (rfE O) 0) := Lib.hid ⟨_, hx6, hF6, Fp.refl _ _⟩
      have hxa : ¬ ((a : Nat) : Int) = 0 := by omega
      have hxu : IsU ((a : Nat) : Int) := ⟨by omega, by omega⟩
      have hwa : IntKind.u64.wrap (a : Int) = (a : Int) := wrap_u64_of (by omega) (by omega)
      have HU2 := Lib.hid (And.intro hxa hxu)
      clear hF1 hF5 hF6 hgT hr5 hob hr6 hg5 hx6 hc6 hW5 hxa hxu PUT XO HK3 HK5 HB5
      go_loopw [58] (fun i wr => ∃ j : Nat, i = .int .i64 j ∧ j ≤ n ∧ Hid (RefAtE k d f w wr base S p lim was R' (O ++ [⟨0, a, 3, [v0, v1, v2, v3, xo], [], ps⟩]) Lr (tl + 1200 * newsD R (r.its.map nums) + (56 + 8 * n)) (cnt + 3 * n) (r.its.map nums) (a : Int) (grow (fun q => grow S (w.alloc (.cells #[.int .u64 v0, .int .u64 v1, .int .u64 v2, .int .u64 v3, .slice A n c] 36)) w1 q ∧ q ≠ g) W5 w6) w6 (rfE O) j)) (fun i _ => n - (intOf i).toNat)
      case atStart => exact ⟨0, rfl, Nat.zero_le _, HR0⟩
      case round =>
        clear HR0
        obtain ⟨j, rfl, hj, HRJ⟩ := hrel
        by_cases hlt : j < n
        · obtain ⟨z, hz⟩ : ∃ z, (r.its.map nums)[j]? = some z := ⟨_, List.getElem?_eq_getElem (by rw [List.length_map, HL.out]; exact hlt)⟩
          obtain ⟨b, hpb, hble, hRF⟩ := RefAtE.next HRJ.out HI1.out (by have := HH.out.2.2.1; omega) (rfE_le O) HH.out.2.2.2.nums hz HU2.out.2 HU2.out.1 (by omega) hft.out hbas
          have c0 := HPR.out wr (by obtain ⟨T, -, -, h2⟩ := HRJ.out; exact h2.chg) j b hpb
          have hwb : IntKind.i64.wrap (b : Int) = (b : Int) := wrap_i64_of (by omega) (by omega)
          have RF := Lib.hid hRF
          clear hz hpb hRF
          go_wp2_with (go_at_call 68; refine RF.out.mono ?_; rintro e w7 (⟨rfl, h7⟩ | ⟨hlm, rfl, hc7, hh7⟩))
          · go_roundw
            case rel => exact ⟨j + 1, by go_num, by omega, Lib.hid h7⟩
            case measure => simp [intOf]; omega
          · go_ret2
            exact .inr ⟨by unfold budE; rw [List.length_map, HL.out]; have := Nat.mul_le_mul_left (rfE O) (show j + 1 ≤ n from hlt); omega, ⟨_, rfl⟩, hc7, hh7⟩
        · obtain rfl : j = n := by omega
          obtain ⟨T, hex, hF, hF2⟩ := HRJ.out
          have htk : (r.its.map nums).take j = r.its.map nums := List.take_of_length_le (by rw [List.length_map, HL.out]; exact Nat.le_refl _)
          rw [htk] at hex
          have hlr : Lr.length ≤ 1000 := by rw [HH.out.2.1.lr, List.length_map]; exact HH.out.2.2.1
          have AP := Lib.hid (listed_e (O0 := O) (a : Int) HU2.out.2 HU2.out.1 hex (by omega) (by omega) (by rw [HH.out.2.1.lr, List.length_map]))
          have HFF := Lib.hid (And.intro hex hF)
          clear hex hF hF2 htk
          go_wp2_with (go_at_call 69; refine AP.out.mono ?_; rintro e w8 (⟨rfl, hc8, hx8⟩ | ⟨hlm, rfl, hb8⟩))
          · go_ret2
            obtain ⟨h1, h2⟩ := hx8.fin (HFF.out.2.next hc8) hft.out hbas
            obtain ⟨e0, e1, e2, e3⟩ := HV.out
            have hent : (⟨0, a, 3, [v0, v1, v2, v3, xo], [], ps⟩ : GO) = entO k r a ps := by unfold entO; rw [e0, e1, e2, e3, HXO.out]
            rw [hent] at h2
            have hE2 := HI1.out.el.add HH.out.2.2.2.nums HI1.out.mem (o := entO k r a ps) HI1.out.eq
            left
            refine ⟨a, _, ps, rfl, ha1, ha2, h1, ?_, hE2, fun y hy => (findD_pushAll _ _ _ _).trans (HI1.out.same y hy)⟩
            refine h2.more ?_ ?_ ?_
            · unfold budE; rw [List.length_map, HL.out]; omega
            · omega
            · omega
          · go_ret2
            obtain ⟨h1, h2⟩ := (HFF.out.1.half.below hb8).fin (HFF.out.2.below hb8) hft.out hbas
            exact .inr ⟨by unfold budE; rw [List.length_map, HL.out]; omega, ⟨_, rfl⟩, h1, h2⟩
end

end Go.Proofs.YtobbkhncnokpiaaGreat
