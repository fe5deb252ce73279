/-
  LAYER 16: Get; read and Get of what is no entry: contracts.
-/
import Derived.Test.YtobbkhncnokpiaaGreatEnGet
set_option linter.unusedVariables false
set_option maxRecDepth 100000
set_option linter.unusedSimpArgs false
namespace Go.Proofs.YtobbkhncnokpiaaGreat
open Go.RowKit Go.Shelf

/-- The record that is nobody's. -/
def rcZ : Value := .agg #[.int .u64 0, .int .u64 0, .int .u64 0, .int .u64 0, .slice none 0 0]

set_option maxHeartbeats 1000000 in
theorem eread_no (mv : Value) (pl : Int) (w : World) (hat : ∀ wx, Below w.heap.size w wx → Calls Tryz.prog 16 #[mv, .int .u64 pl, .int .i64 3] wx fun e w' => e = .returned (.tuple #[obZ, .bool false]) ∧ Below wx.heap.size wx w') :
    Calls Tryz.prog 40 #[mv, .int .u64 pl] w fun e w' => e = .returned (.tuple #[rcZ, .bool false]) ∧ Below w.heap.size w w' := by
  have AT := Lib.hid (hat _ (boxed w (.cells #[.int .u64 0, .int .u64 0, .int .u64 0, .int .u64 0, .slice none 0 0] 36)))
  have hsb : (w.alloc (.cells #[.int .u64 0, .int .u64 0, .int .u64 0, .int .u64 0, .slice none 0 0] 36)).heap.size = w.heap.size + 1 := World.size_alloc _ _
  have HB0 := Lib.hid (And.intro hsb (And.intro (boxed w (.cells #[.int .u64 0, .int .u64 0, .int .u64 0, .int .u64 0, .slice none 0 0] 36)) (Blk.new w 36 #[.int .u64 0, .int .u64 0, .int .u64 0, .int .u64 0, .slice none 0 0])))
  clear hat hsb
  go_enter Tryz.func40, Tryz.ntmps40
  go_wp2_with (go_at_call 16; refine AT.out.mono ?_; rintro e w1 ⟨rfl, hb1⟩; have hbl := (HB0.out.2.2.below hb1 (by rw [HB0.out.1]; omega)).alloc (.cells #[.int .i64 0, .slice none 0 0, .slice none 0 0, .slice none 0 0] 44); have z0 := hbl.cell 0; have z1 := hbl.cell 1; have z2 := hbl.cell 2; have z3 := hbl.cell 3; have z4 := hbl.cell 4; have f0 := hbl.frozen 0; have f1 := hbl.frozen 1; have f2 := hbl.frozen 2; have f3 := hbl.frozen 3; have f4 := hbl.frozen 4; have HBL := Lib.hid hbl; have HB1 : Hid (Below w.heap.size w (w1.alloc (.cells #[.int .i64 0, .slice none 0 0, .slice none 0 0, .slice none 0 0] 44))) := Lib.hid ((HB0.out.2.1.trans (hb1.mono (by rw [HB0.out.1]; omega))).alloc (by have := hb1.size; have := HB0.out.1; omega) _); clear hbl hb1)
  have hp5 := put5r (a0 := .int .u64 0) (a1 := .int .u64 0) (a2 := .int .u64 0) (a3 := .int .u64 0) (a4 := .slice none 0 0) HBL.out
  refine bodyPost_ret (results_cell2 rfl _ _ w.heap.size 36 _ (0, 0) _ rfl hp5.1 Tryz.underlying36 rfl (by kernel_rfl)) rfl ?_
  exact ⟨rfl, HB1.out.trans (hp5.2.below HB1.out.size (fun q _ e => by omega))⟩

set_option maxHeartbeats 1000000 in
theorem eget_no (mv : Value) (pl : Int) (w : World) (hat : ∀ wx, Below w.heap.size w wx → Calls Tryz.prog 16 #[mv, .int .u64 pl, .int .i64 3] wx fun e w' => e = .returned (.tuple #[obZ, .bool false]) ∧ Below wx.heap.size wx w') :
    Calls Tryz.prog 15 #[mv, .int .u64 pl] w fun e w' => e = .returned (.tuple #[rcZ, .bool false]) ∧ Below w.heap.size w w' := by
  have hb0 := boxed w (.cells #[.int .u64 0, .int .u64 0, .int .u64 0, .int .u64 0, .slice none 0 0] 36)
  have RD := Lib.hid (eread_no mv pl _ (fun wx hb => hat wx (hb0.trans (hb.mono hb0.size))))
  have hsb : (w.alloc (.cells #[.int .u64 0, .int .u64 0, .int .u64 0, .int .u64 0, .slice none 0 0] 36)).heap.size = w.heap.size + 1 := World.size_alloc _ _
  have HB0 := Lib.hid (And.intro hsb (And.intro hb0 (Blk.new w 36 #[.int .u64 0, .int .u64 0, .int .u64 0, .int .u64 0, .slice none 0 0])))
  clear hat hsb hb0
  unfold rcZ at RD ⊢
  go_enter Tryz.func15, Tryz.ntmps15
  go_wp2_with (go_at_call 40; refine RD.out.mono ?_; rintro e w1 ⟨rfl, hb1⟩; have hbl := (HB0.out.2.2.below hb1 (by rw [HB0.out.1]; omega)).alloc (.cells #[.int .u64 0, .int .u64 0, .int .u64 0, .int .u64 0, .slice none 0 0] 36); have z0 := hbl.cell 0; have z1 := hbl.cell 1; have z2 := hbl.cell 2; have z3 := hbl.cell 3; have z4 := hbl.cell 4; have f0 := hbl.frozen 0; have f1 := hbl.frozen 1; have f2 := hbl.frozen 2; have f3 := hbl.frozen 3; have f4 := hbl.frozen 4; have HBL := Lib.hid hbl; have HB1 : Hid (Below w.heap.size w (w1.alloc (.cells #[.int .u64 0, .int .u64 0, .int .u64 0, .int .u64 0, .slice none 0 0] 36))) := Lib.hid ((HB0.out.2.1.trans (hb1.mono (by rw [HB0.out.1]; omega))).alloc (by have := hb1.size; have := HB0.out.1; omega) _); clear hbl hb1)
  have hp5 := put5r (a0 := .int .u64 0) (a1 := .int .u64 0) (a2 := .int .u64 0) (a3 := .int .u64 0) (a4 := .slice none 0 0) HBL.out
  refine bodyPost_ret (results_cell2 rfl _ _ w.heap.size 36 _ (0, 0) _ rfl hp5.1 Tryz.underlying36 rfl (by kernel_rfl)) rfl ?_
  exact ⟨rfl, HB1.out.trans (hp5.2.below HB1.out.size (fun q _ e => by omega))⟩

section
variable {k d f : Int} {w w' wr : World} {base : Nat} {S T : Nat → Prop} {p lim : Nat} {was bs : List Int} {R : List DR} {O : List GO} {Lr : List Int} {tl cnt : Nat}
/-- What Get tells of an entry. -/
def RecTold (o : GO) (zs : List ByteArray) (w : World) (e : Ending) (w' : World) : Prop :=
  ∃ A, e = .returned (.tuple #[.agg #[.int .u64 (o.ws.getD 0 0), .int .u64 (o.ws.getD 1 0), .int .u64 (o.ws.getD 2 0), .int .u64 (o.ws.getD 3 0), .slice A zs.length zs.length], .bool true]) ∧ Txt w' w'.heap.size A zs.length zs.length zs ∧ Below w.heap.size w w'

set_option maxHeartbeats 2000000 in
theorem eget_yes {E : List (List (List Int))} {i : Nat} {o : GO} {zs : List ByteArray} (h : EX k d f w base S p lim was R O Lr tl cnt) (hE : EL R O Lr E) (ho : O[i]? = some o) (hz : E[i]? = some (zs.map nums)) (hsz : ∀ s ∈ zs, s.size ≤ maxLen) (hO : O.length ≤ 1000) :
    Calls Tryz.prog 15 #[.pointer (some ⟨p, 0, none⟩), .int .u64 (o.at_ : Nat)] w (RecTold o zs w) := by
  have hb0 := boxed w (.cells #[.int .u64 0, .int .u64 0, .int .u64 0, .int .u64 0, .slice none 0 0] 36)
  have RD := Lib.hid (eread_yes (h.below hb0) hE ho hz hsz)
  have hmem : (o.at_ : Int) ∈ Lr := by rw [hE.lr]; exact List.mem_map.2 ⟨o, List.mem_of_getElem? ho, rfl⟩
  have LI := Lib.hid (fun wx (hb : Below w.heap.size w wx) => (show Calls Tryz.prog 41 #[.pointer (some ⟨p, 0, none⟩), .int .u64 (o.at_ : Nat)] wx fun e w' => e = .returned (.bool true) ∧ Below wx.heap.size wx w' from by
    obtain ⟨its, hL⟩ := (h.below hb).all (by rw [hE.lr, List.length_map]; omega)
    exact elisted_yes (o.at_ : Int) wx hL hmem (h.lrise hE)))
  have hsb : (w.alloc (.cells #[.int .u64 0, .int .u64 0, .int .u64 0, .int .u64 0, .slice none 0 0] 36)).heap.size = w.heap.size + 1 := World.size_alloc _ _
  have HB0 := Lib.hid (And.intro hsb (And.intro hb0 (Blk.new w 36 #[.int .u64 0, .int .u64 0, .int .u64 0, .int .u64 0, .slice none 0 0])))
  obtain ⟨v0, hv0⟩ : ∃ v, o.ws.getD 0 0 = v := ⟨_, rfl⟩
  obtain ⟨v1, hv1⟩ : ∃ v, o.ws.getD 1 0 = v := ⟨_, rfl⟩
  obtain ⟨v2, hv2⟩ : ∃ v, o.ws.getD 2 0 = v := ⟨_, rfl⟩
  obtain ⟨v3, hv3⟩ : ∃ v, o.ws.getD 3 0 = v := ⟨_, rfl⟩
  obtain ⟨at_, hate⟩ : ∃ a, o.at_ = a := ⟨_, rfl⟩
  obtain ⟨n, hn⟩ : ∃ n, zs.length = n := ⟨_, rfl⟩
  unfold RecTold
  rw [hv0, hv1, hv2, hv3, hate, hn] at RD ⊢
  rw [hate] at LI
  clear hsb hb0 h hE ho hz hsz hO hmem hv0 hv1 hv2 hv3 hate hn
  go_enter Tryz.func15, Tryz.ntmps15
  go_wp2_with (first
    | (go_at_call 40; refine RD.out.mono ?_; rintro e w1 ⟨A, rfl, ht1, hb1, -⟩; have HB1 : Hid (Below w.heap.size w (w1.alloc (.cells #[.int .u64 v0, .int .u64 v1, .int .u64 v2, .int .u64 v3, .slice A n n] 36))) := Lib.hid ((HB0.out.2.1.trans (hb1.mono (by rw [HB0.out.1]; omega))).alloc (by have := hb1.size; have := HB0.out.1; omega) _); have HW1 := Lib.hid (And.intro ht1 hb1); clear ht1 hb1)
    | (go_at_call 41; refine (LI.out _ HB1.out).mono ?_; rintro e w2 ⟨rfl, hb2⟩; have hbk := ((HB0.out.2.2.below HW1.out.2 (by rw [HB0.out.1]; omega)).alloc (.cells #[.int .u64 v0, .int .u64 v1, .int .u64 v2, .int .u64 v3, .slice A n n] 36)).below hb2 (by have := HW1.out.2.size; have := HB0.out.1; simp; omega); have hbl := (Blk.new w1 36 #[.int .u64 v0, .int .u64 v1, .int .u64 v2, .int .u64 v3, .slice A n n]).below hb2 (by simp); have z0 := hbk.cell 0; have z1 := hbk.cell 1; have z2 := hbk.cell 2; have z3 := hbk.cell 3; have z4 := hbk.cell 4; have f0 := hbk.frozen 0; have f1 := hbk.frozen 1; have f2 := hbk.frozen 2; have f3 := hbk.frozen 3; have f4 := hbk.frozen 4; have x0 := hbl.cell 0; have x1 := hbl.cell 1; have x2 := hbl.cell 2; have x3 := hbl.cell 3; have x4 := hbl.cell 4; have HBK := Lib.hid hbk; have HB2 := Lib.hid hb2; clear hbk hbl hb2))
  have hp5 := put5r (a0 := .int .u64 v0) (a1 := .int .u64 v1) (a2 := .int .u64 v2) (a3 := .int .u64 v3) (a4 := .slice A n n) HBK.out
  refine bodyPost_ret (results_cell2 rfl _ _ w.heap.size 36 _ (0, 0) _ rfl hp5.1 Tryz.underlying36 rfl (by kernel_rfl)) rfl ?_
  have hs1 := HW1.out.2.size
  rw [HB0.out.1] at hs1
  have hsz2 : (w1.alloc (.cells #[.int .u64 v0, .int .u64 v1, .int .u64 v2, .int .u64 v3, .slice A n n] 36)).heap.size = w1.heap.size + 1 := World.size_alloc _ _
  have hs2 := HB2.out.size
  rw [hsz2] at hs2
  have hnb : 0 < n → ∀ ad, A = some ad → ¬ ad.block = w.heap.size := fun hn => txt_nobox HW1.out.1 hn (HB0.out.2.2.below HW1.out.2 (by rw [HB0.out.1]; omega))
  have ht2 := (HW1.out.1.below (boxed w1 (.cells #[.int .u64 v0, .int .u64 v1, .int .u64 v2, .int .u64 v3, .slice A n n] 36))).below (HB2.out.mono (by rw [hsz2]; omega))
  refine ⟨A, rfl, ⟨(ht2.reads.chg hp5.2 (by omega) hnb).more (by have := hp5.2.size; omega), ht2.le, ht2.cap, ht2.sz⟩, ?_⟩
  exact (HB1.out.trans (HB2.out.mono (by rw [hsz2]; omega))).trans (hp5.2.below (by omega) (fun q _ e => by omega))

/-- Nothing stands at place 0. -/
theorem eget_zero (h : EX k d f w base S p lim was R O Lr tl cnt) :
    Calls Tryz.prog 15 #[.pointer (some ⟨p, 0, none⟩), .int .u64 0] w fun e w' => e = .returned (.tuple #[rcZ, .bool false]) ∧ Below w.heap.size w w' := by
  refine eget_no _ 0 w fun wx hb => ?_
  obtain ⟨⟨m, bv, sv, l, H, V, hg, hl, hw, htl, hcnt⟩, hs, hk⟩ := h.below hb
  have h0 := V.db.hD
  have h1 := V.db.hF
  exact iat_bare 0 3 wx H hg.bb V.db.gb.most V.db.hD V.db.hF (by omega) (.inl (by omega))

/-- At of no image. -/
theorem iat_nil (pl kd : Int) (w : World) (hp : 0 ≤ pl) : Calls Tryz.prog 16 #[.pointer none, .int .u64 pl, .int .i64 kd] w fun e w' => e = .returned (.tuple #[obZ, .bool false]) ∧ Below w.heap.size w w' := by
  have hp2 : (0 : Int) ≤ pl := hp
  have hb := boxed w (.cells #[.int .i64 0, .slice none 0 0, .slice none 0 0, .slice none 0 0] 44)
  have hbk := Blk.new w 44 #[.int .i64 0, .slice none 0 0, .slice none 0 0, .slice none 0 0]
  have HB := Lib.hid (And.intro hb hbk)
  have z0 := hbk.cell 0
  have z1 := hbk.cell 1
  have z2 := hbk.cell 2
  have z3 := hbk.cell 3
  have f0 := hbk.frozen 0
  have f1 := hbk.frozen 1
  have f2 := hbk.frozen 2
  have f3 := hbk.frozen 3
  clear hb hbk
  go_enter Tryz.func16, Tryz.ntmps16
  go_wp2_with (go_at_call 42; refine (itail_nil _).mono ?_; rintro e w1 ⟨rfl, rfl⟩)
  refine bodyPost_ret (results_cell2 rfl _ _ w.heap.size 44 _ (0, 0) _ rfl HB.out.2 Tryz.underlying44 rfl (by kernel_rfl)) rfl ?_
  exact ⟨rfl, HB.out.1⟩
end

end Go.Proofs.YtobbkhncnokpiaaGreat
