/-
  LAYER 16: contracts that EntryItems and EntryAdds want beside the others: Find, Count, Nth of package data; Same of bytes. (Of layers 1, 13 and 15.)
-/
import Derived.Test.YtobbkhncnokpiaaGreatEnBase
set_option linter.unusedVariables false
set_option maxRecDepth 100000
set_option linter.unusedSimpArgs false
namespace Go.Proofs.YtobbkhncnokpiaaGreat

section
open Go.RowKit
open Go.RowKit
theorem same_any {B B' : Nat} (A A' : Option Addr) (n n' c c' : Nat) (xs ys : List Int) (w : World) (hx : Reads w B 1 A n (cellsOf .u8 xs)) (hy : Reads w B' 1 A' n' (cellsOf .u8 ys)) (bx : AreB xs) (byy : AreB ys) :
    Calls Tryz.prog 13 #[.slice A n c, .slice A' n' c'] w fun e w' => e = .returned (.bool (decide (xs = ys))) ∧ w = w' := by
  have h1 := run_text (P := Tryz.prog) 28 5 9 Tryz.underlying28 Tryz.underlying5 Tryz.underlying9 hx c
  have h2 := run_text (P := Tryz.prog) 28 5 9 Tryz.underlying28 Tryz.underlying5 Tryz.underlying9 hy c'
  clear hx hy
  go_enter Tryz.func13, Tryz.ntmps13
  go_wp2
  go_ret
  exact ⟨ret_bool (strOfNums_beq bx byy), rfl⟩

end

section
open Go.RowKit
open Go.RowKit
open Go.RowKit
open Go.RowKit
open Go.RowKit Go.Shelf
attribute [local go_sem] Oper.semAt_some
open Go.RowKit
open Go.RowKit
open Go.RowKit Go.Shelf
open Go.RowKit Go.Shelf
attribute [local go_sem] Oper.semAt_some
variable {base p : Nat} {S : Nat → Prop} {i k d f h : Int} {m : IM} {bv sv : Value}
set_option maxHeartbeats 4000000 in
theorem tfindG_any {B : Nat} {its : List It} (kd : Nat) (hkd : kd = 1 ∨ kd = 2) (A : Option Addr) (n c : Nat) (zs : List Int) (w : World) (H : IX w base S p i k d f h m bv sv) (hbm : AreB m.b) (hk : IsU k) (T : BkAt kd k d f m zs its) (hr : Reads w B 1 A n (cellsOf .u8 zs)) (hB : B ≤ w.heap.size) (hz : AreB zs) (hl : n ≤ c) (hcap : c ≤ 9223372036854775807) (hn : n ≤ 140737488355328) :
    Calls Tryz.prog 49 #[.pointer (some ⟨p, 0, none⟩), .int .i64 kd, .slice A n c] w fun e w' => e = .returned (.tuple #[.int .i64 ((findI its zs).getD 0 : Nat), .bool (findI its zs).isSome]) ∧ Below w.heap.size w w' := by
  obtain ⟨w0, hw0⟩ : ∃ w0, ((w.alloc (.cells #[.slice A n c] 28)).alloc (.cells #[.int .i64 0] 3)).alloc (.cells #[.bool false] 4) = w0 := ⟨_, rfl⟩
  have hb0 : Below w.heap.size w w0 := by rw [← hw0]; exact (((Below.refl _ w).alloc (Nat.le_refl _) _).alloc (by simp) _).alloc (by simp; omega) _
  have hsz : w0.heap.size = w.heap.size + 1 + 1 + 1 := by rw [← hw0]; simp
  have x0 : Blk w0 w.heap.size 28 #[.slice A n c] := by rw [← hw0]; exact ((Blk.new w _ _).alloc _).alloc _
  have x1 : Blk w0 (w.heap.size + 1) 3 #[.int .i64 0] := by rw [← hw0]; have := (Blk.new (w.alloc (.cells #[.slice A n c] 28)) 3 #[.int .i64 0]); rw [World.size_alloc] at this; exact this.alloc _
  have x2 : Blk w0 (w.heap.size + 1 + 1) 4 #[.bool false] := by rw [← hw0]; have := (Blk.new ((w.alloc (.cells #[.slice A n c] 28)).alloc (.cells #[.int .i64 0] 3)) 4 #[.bool false]); rw [World.size_alloc, World.size_alloc] at this; exact this
  have c0 := x0.cell 0
  have hsU := hsh_isU k zs
  have SU := Lib.hid (tsum_any A n c zs w0 (H.below hb0) hk (hr.below (hb0.mono hB)) (Nat.le_trans hB hb0.size) hz hl hcap hn)
  have AL := Lib.hid (fun w1 (hb : Below w0.heap.size w0 w1) => tall_any kd hkd (hsh k zs) w1 (H.below (hb0.trans (hb.mono hb0.size))) hbm hsU T.hD T.hF)
  have X := Lib.hid (And.intro x0 (And.intro x1 x2))
  have HX := Lib.hid hr
  clear x0 x1 x2 hr
  refine (callsIn_wide (n := 9)).1 ?_
  refine callsIn_of_wp_marks Tryz.func49 rfl trivial ?_ rfl
  simp only [Tryz.ntmps49, List.size_toArray, List.length_cons, List.length_nil, Nat.reduceAdd, Nat.reduceSub, Array.replicate_succ, Array.replicate_zero, List.push_toArray, List.append_toArray, List.nil_append, List.cons_append]
  gi_wp2_with (first
    | (refine ⟨trivial, ?_⟩; gi_at_call 45; refine (callsIn_wide.2 SU.out).mono ?_; rintro e w1 ⟨rfl, hb1⟩)
    | (refine ⟨trivial, ?_⟩; gi_at_call 80; refine (callsIn_wide.2 (AL.out _ hb1)).mono ?_; rintro e w2 ⟨g, rfl, hb2, hg, hfl⟩))
  have hb02 : Below w0.heap.size w0 w2 := hb1.trans (hb2.mono hb1.size)
  have hbw2 : Below w.heap.size w w2 := hb0.trans (hb02.mono hb0.size)
  have H2 := H.below hbw2
  obtain ⟨X0, X1, X2⟩ := X.out
  have y0 := X0.below hb02 (by omega)
  have y1 := X1.below hb02 (by omega)
  have y2 := X2.below hb02 (by omega)
  have hs2 := hb02.size
  have hs1 := hb1.size
  have hr2 : Reads w2 B 1 A n (cellsOf .u8 zs) := HX.out.below (hbw2.mono hB)
  obtain ⟨hq1, hq2⟩ := bktN_eq T.hD T.hF (kd := kd) hsU
  have hch := T.ch
  have hfin := chain_fine hbm hch
  have hword := T.isU
  have hgl := hfl.lo
  clear X X0 X1 X2 HX SU AL c0
  refine wp_range_tellsH (F := Fence.wide) (n := 9) rfl (by omega) (gf := 151) (lb := #[.pointer (some ⟨g + 3, 0, none⟩), .pointer (some ⟨g + 2, 0, none⟩), .pointer (some ⟨g + 1, 0, none⟩), .pointer (some ⟨g, 0, none⟩)]) rfl trivial (enters_of Tryz.func151 (by kernel_rfl) rfl)
    (follow_tells 8 (by omega) w2.heap.size (fun _ => False) (g + 3) (g + 2) (g + 1) g kd 1 _ its w2 H2 hbm T.most T.hD T.hF (fun j hj => ⟨(H2.foot j hj).2, fun e => e⟩) ⟨by omega, by omega, by omega, by omega, Nat.le_refl _⟩ ⟨id, id, id, id⟩ hfl.cw hfl.ck hfl.cp hfl.cm
      (by rcases hkd with rfl | rfl <;> decide) hword hch)
    keepC_t (keepC_b (Nat.le_refl _)) (fun pre x W l o o' _ hl ho hx => hx.put hl ho) (Below.refl _ _) (fun _ => rfl)
    (fun pre W => (∀ y ∈ pre, y.t.rs ≠ zs) ∧ KeepC w2.heap.size (fun _ => False) w2 W)
    (fun c pre W => ((c = .ret ∧ ∃ pre0 x, pre = pre0 ++ [x] ∧ (∀ y ∈ pre0, y.t.rs ≠ zs) ∧ x.t.rs = zs) ∧ KeepC w2.heap.size (fun k => k = w.heap.size + 1 ∨ k = w.heap.size + 1 + 1) w2 W) ∧ Blk W (w.heap.size + 1) 3 #[.int .i64 ((findI (pre.map (·.t)) zs).getD 0 : Nat)] ∧ Blk W (w.heap.size + 1 + 1) 4 #[.bool true])
    (own_keepC (Nat.le_refl _) _)
    (fun c => OwnFrom.and (own_keepC (Nat.le_refl _) _) (OwnFrom.and (own_blkOf (by omega) _) (own_blkOf (by omega) _)))
    ⟨by simp, Chg.refl _ _⟩
    (fun x a' W => ∃ b, Blk W b 44 #[.int .i64 kd, .slice x.A x.n x.c, .slice x.B x.m x.d, .slice x.C x.p x.q] ∧ w2.heap.size ≤ b ∧ a' = { tmps := #[.pointer (some ⟨p, 0, none⟩), .int .i64 kd, .slice A n c, undef, undef, .pointer (some ⟨w.heap.size, 0, none⟩), .pointer (some ⟨w.heap.size + 1, 0, none⟩), .pointer (some ⟨w.heap.size + 1 + 1, 0, none⟩), .int .i64 x.t.j, .pointer (some ⟨b, 0, none⟩), .pointer (some ⟨p, 0, none⟩), .int .i64 kd, .pointer (some ⟨p, 0, none⟩), .slice A n c, .int .u64 (hsh k zs), flV g, .int .i64 x.t.j, x.v kd, undef, undef, undef, undef, undef], defers := [] })
    (fun x a' W l o o' _ hl ho ⟨b, h1, h2, h3⟩ => ⟨b, h1.put_other hl ho, h2, h3⟩)
    ?assign ?body ?done ?stop
  case assign =>
    intro l pre x W K hi hpx hK
    dsimp only [Ob.encs, Ob.v, obV]
    gi_wp2
    exact hK _ _ (KeepsOthers.alloc _ _) (keepC_below (boxed _ _)) ⟨hi.1, keepC_t hi.2 (keepC_below (boxed _ _))⟩ (hpx.alloc _) ⟨W.heap.size, Blk.new _ _ _, hi.2.size, rfl⟩
  case body =>
    rintro l pre x W ⟨hne, hkw⟩ _ hpx a' ⟨b, hbx, hbn, rfl⟩
    have b2 := hbx.cell 2
    have r0 := (keepC_blk y0 hkw (by omega) id).cell 0
    have z1 := keepC_blk y1 hkw (by omega) id
    have z2 := keepC_blk y2 hkw (by omega) id
    have k1 := z1.cell 0
    have k2 := z2.cell 0
    have f1 := z1.frozen 0
    have f2 := z2.frozen 0
    have hxm := hfin x.t hpx.mem
    have BQ := Lib.hid (beq_any x.B A x.m n x.d c x.t.rs zs W hpx.2.rr (reads_keepC hr2 hkw (by omega) (by omega) (fun _ _ => id)) hxm.1 hz)
    have Z := Lib.hid (And.intro z1 z2)
    clear z1 z2
    gi_wp2_with (refine ⟨trivial, ?_⟩; gi_at_call 81; refine (CallsIn.inRound l (callsIn_wide.2 BQ.out)).mono ?_; rintro e w9 ⟨rfl, rfl⟩)
    · rename_i hx
      have hx' : x.t.rs = zs := by simpa using hx
      have e1 : findI ((pre ++ [x]).map (·.t)) zs = some x.t.j := by have := findI_snoc (rest := []) hne hx'; rwa [List.append_nil] at this
      refine ⟨(KeepsOthers.setCell _ _ _).trans (KeepsOthers.setCell _ _ _), ⟨⟨rfl, pre, x, rfl, hne, hx'⟩, keepC_set (keepC_set (keepC_mono hkw (fun _ e => e.elim)) (.inr (.inl rfl)) _) (.inr (.inr rfl)) _⟩, ?_, ?_⟩
      · rw [e1]; exact (Z.out.1.set_ 0 _).far (by show w.heap.size + 1 ≠ w.heap.size + 1 + 1; omega) _
      · exact (Z.out.2.far (by show w.heap.size + 1 + 1 ≠ w.heap.size + 1; omega) _).set_ 0 _
    · rename_i hx
      have hx' : ¬ x.t.rs = zs := by simpa using hx
      exact ⟨KeepsOthers.refl _, Chg.refl _ _, fun y hy => (List.mem_append.1 hy).elim (hne y) (fun e => by rw [List.mem_singleton.1 e]; exact hx'), hkw⟩
  case done =>
    rintro D xs W hD hxs ⟨hne, hkw⟩ hK
    have z1 := keepC_blk y1 hkw (by omega) id
    have z2 := keepC_blk y2 hkw (by omega) id
    have k1 := z1.cell 0
    have k2 := z2.cell 0
    have f1 := z1.frozen 0
    have f2 := z2.frozen 0
    have Z := Lib.hid (And.intro z1 z2)
    have e2 : findI its zs = none := by rw [← hxs]; exact findI_all hne
    clear z1 z2
    gi_wp2
    have hK' := ((KeepsOthers.setCell W ⟨w.heap.size + 1, 0, none⟩ (.int .i64 0)).trans (KeepsOthers.setCell _ ⟨w.heap.size + 1 + 1, 0, none⟩ (.bool false))).same D _ hK rfl
    refine ⟨by simp, .inl ⟨_, _, rfl, run_takeDeferred hK', ?_⟩⟩
    have q1 : Blk ((W.setCell ⟨w.heap.size + 1, 0, none⟩ (.int .i64 0)).setCell ⟨w.heap.size + 1 + 1, 0, none⟩ (.bool false)) (w.heap.size + 1) 3 #[.int .i64 0] := (Z.out.1.set_ 0 _).far (by show w.heap.size + 1 ≠ w.heap.size + 1 + 1; omega) _
    have q2 : Blk ((W.setCell ⟨w.heap.size + 1, 0, none⟩ (.int .i64 0)).setCell ⟨w.heap.size + 1 + 1, 0, none⟩ (.bool false)) (w.heap.size + 1 + 1) 4 #[.bool false] := (Z.out.2.far (by show w.heap.size + 1 + 1 ≠ w.heap.size + 1; omega) _).set_ 0 _
    refine ⟨_, results_cc rfl _ _ (w.heap.size + 1) (w.heap.size + 1 + 1) (.int .i64 0) (.bool false) rfl rfl (load_int ((q1.put_other hK' rfl).cell 0)) (load_bool ((q2.put_other hK' rfl).cell 0)), ?_, ?_⟩
    · rw [e2]; rfl
    · exact hbw2.trans (keepC_to (T := fun k => k = w.heap.size + 1 ∨ k = w.heap.size + 1 + 1) (keepC_put (keepC_set (keepC_set (keepC_mono hkw (fun _ e => e.elim)) (.inr (.inl rfl)) _) (.inr (.inr rfl)) _) hD _) (by omega) hbw2.size (fun j hj e => by omega))
  case stop =>
    rintro D cc pre W hD ⟨rest, hpre⟩ ⟨⟨⟨rfl, pre0, x, rfl, hne, hx⟩, hkw⟩, z1, z2⟩ hK
    have e1 : findI ((pre0 ++ [x]).map (·.t)) zs = some x.t.j := by have := findI_snoc (rest := []) hne hx; rwa [List.append_nil] at this
    have e2 : findI its zs = some x.t.j := by rw [← hpre]; exact findI_snoc hne hx
    rw [e1] at z1
    gi_wp2
    refine ⟨by simp, .inl ⟨_, _, rfl, run_takeDeferred hK, ?_⟩⟩
    refine ⟨_, results_cc rfl _ _ (w.heap.size + 1) (w.heap.size + 1 + 1) _ (.bool true) rfl rfl (load_int ((z1.put_other hK rfl).cell 0)) (load_bool ((z2.put_other hK rfl).cell 0)), ?_, ?_⟩
    · rw [e2]; rfl
    · exact hbw2.trans (keepC_to (keepC_put hkw hD _) (by omega) hbw2.size (fun j hj e => by omega))
end

section
open Go.RowKit
open Go.RowKit
open Go.RowKit
open Go.RowKit
open Go.RowKit
open Go.RowKit
open Go.RowKit
open Go.RowKit Go.Shelf
open Go.RowKit Go.Shelf
open Go.RowKit Go.Shelf
variable {fld : List Int → List Int} {base p : Nat} {S : Nat → Prop} {i k d f h : Int} {m : IM} {bv sv : Value} {ex : Nat} {l : List GO} {R : List DR}
/-- What Find tells of an item. -/
theorem gfind_any {B : Nat} (kd : Nat) (hkd : kd = 1 ∨ kd = 2) (A : Option Addr) (n c : Nat) (zs : List Int) (w : World) (D : DB fld k d f 0 ex m.b l) (H : IX w base S p i k d f h m bv sv) (hbm : AreB m.b) (hk : IsU k) (hr : Reads w B 1 A n (cellsOf .u8 zs)) (hB : B ≤ w.heap.size) (hz : AreB zs) (hl : n ≤ c) (hcap : c ≤ 9223372036854775807) (hn : n ≤ 140737488355328) :
    Calls Tryz.prog 49 #[.pointer (some ⟨p, 0, none⟩), .int .i64 kd, .slice A n c] w fun e w' => e = .returned (.tuple #[.int .i64 ((findG l kd zs).getD 0 : Nat), .bool (findG l kd zs).isSome]) ∧ Below w.heap.size w w' := by
  have h9 := tfindG_any kd hkd A n c zs w H hbm hk (D.bkAt hkd zs) hr hB hz hl hcap hn
  rw [D.find_it hkd zs] at h9
  exact h9

end

section
open Go.RowKit Go.ChangeShapes Go.WideShapes Go.Deep
open Go.RowKit Go.Shelf
open Go.RowKit Go.Shelf
attribute [local go_sem] Oper.semAt_some
open Go.RowKit Go.Shelf
attribute [local go_sem] Oper.semAt_some
open Go.RowKit Go.Shelf
open Go.RowKit Go.Shelf
variable {base p : Nat} {S : Nat → Prop} {i k d f h : Int} {m : IM} {bv sv : Value} {l : List GO} {R : List DR}
/-- Find. -/
theorem dfind_any (s : ByteArray) (w : World) (D : DB fldI k d f 0 0 m.b l) (H : IX w base S p i k d f h m bv sv) (hbm : AreB m.b) (hk : IsU k) (hs : s.size ≤ 140737488355328) :
    Calls Tryz.prog 24 #[.pointer (some ⟨p, 0, none⟩), .string s] w fun e w' => e = .returned (.tuple #[.int .i64 ((findG l 1 (nums s)).getD 0 : Nat), .bool (findG l 1 (nums s)).isSome]) ∧ Below w.heap.size w w' := by
  have hm : s.size ≤ maxLen := by unfold maxLen; omega
  have hc := capS_le (w := w) hm
  have hb := textW_below w s
  have FI := Lib.hid (gfind_any 1 (.inl rfl) (some ⟨w.heap.size, 0, none⟩) s.size (capS w s) (nums s) (textW w s) D (H.below hb) hbm hk (textW_reads w s) (Nat.le_refl _) (nums_bytes s) hc.1 hc.2 hs)
  have cv := conv_text s w
  obtain ⟨x, hx⟩ : ∃ x, (findG l 1 (nums s)).getD 0 = x := ⟨_, rfl⟩
  obtain ⟨y, hy⟩ : ∃ y, (findG l 1 (nums s)).isSome = y := ⟨_, rfl⟩
  rw [hx, hy] at FI ⊢
  have HB := Lib.hid hb
  clear H hc hb hm hx hy
  go_enter Tryz.func24, Tryz.ntmps24
  go_wp2_with (go_at_call 49; refine FI.out.mono ?_; rintro e w2 ⟨rfl, hb2⟩)
  go_ret2
  exact ⟨rfl, HB.out.trans (hb2.mono HB.out.size)⟩

end

section
open Go.RowKit Go.Shelf
attribute [local go_sem] Oper.semAt_some
open Go.RowKit Go.Shelf
open Go.RowKit Go.Shelf
open Go.RowKit Go.Shelf
attribute [local go_sem] Oper.semAt_some
open Go.RowKit Go.Shelf
variable {w : World} {base : Nat} {S : Nat → Prop} {p lim : Nat} {k d f : Int} {R : List DR} {tl cnt : Nat} {l : List GO} {b : List Int}
theorem dfind_ds (s : ByteArray) (h : DS fldI k d f w base S p lim R tl cnt) (hs : s.size ≤ 140737488355328) :
    Calls Tryz.prog 24 #[.pointer (some ⟨p, 0, none⟩), .string s] w fun e w' => e = .returned (.tuple #[.int .i64 ((findD R (nums s)).getD 0 : Nat), .bool (findD R (nums s)).isSome]) ∧ Below w.heap.size w w' := by
  obtain ⟨⟨m, bv, sv, l, H, D, hR, hbm, -⟩, hsm, hk⟩ := h
  have h9 := dfind_any s w D H hbm hk hs
  rw [hR.findG] at h9
  exact h9
end

section
open Go.RowKit Go.Shelf
attribute [local go_sem] Oper.semAt_some
open Go.RowKit Go.Shelf
theorem firstD_yes (p a : Nat) (x : Int) (w : World) (h : IsDat p a x w) :
    Calls Tryz.prog 50 #[.pointer (some ⟨p, 0, none⟩), .int .i64 a] w fun e w' => e = .returned (.int .u64 x) ∧ Below w.heap.size w w' := by
  have hs := h.small
  have IS := Lib.hid (h.is w (Below.refl _ _))
  have WW := Lib.hid h.word
  have OA := Lib.hid (fun wx => oat_any 3 wx (by omega) (by omega))
  obtain ⟨r, hr⟩ : ∃ r, a + 40 = r := ⟨_, rfl⟩
  have hw0 : (a : Int) + 40 = (r : Int) := by omega
  have hw1 : IntKind.i64.wrap (r : Int) = (r : Int) := by rw [IntKind.wrap_i64]; omega
  rw [hr] at WW
  clear h hr
  go_enter Tryz.func50, Tryz.ntmps50
  go_wp2_with (first
    | (go_at_call 82; refine IS.out.mono ?_; rintro e w1 ⟨rfl, hb1⟩)
    | (go_at_call 55; refine (OA.out _).mono ?_; rintro e w2 ⟨rfl, rfl⟩)
    | (go_at_call 54; refine (WW.out _ hb1).mono ?_; rintro e w2 ⟨rfl, rfl⟩))
  go_ret
  exact ⟨rfl, hb1⟩

end

section
open Go.RowKit Go.Shelf
attribute [local go_sem] Oper.semAt_some
open Go.RowKit Go.Shelf
variable {base p : Nat} {S : Nat → Prop} {a : Nat} {x : Int} {its : List It} {Ld : List Int}
theorem countD_yes (w : World) (h : IsDat p a x w) (hL : ListAt w base p S ((a + 48 : Nat) : Int) its Ld) (hm : Ld.length ≤ 1000000) :
    Calls Tryz.prog 26 #[.pointer (some ⟨p, 0, none⟩), .int .i64 a] w fun e w' => e = .returned (.int .i64 ((entsL x Ld).length : Nat)) ∧ Below w.heap.size w w' := by
  have FI := Lib.hid (firstD_yes p a x w h)
  have hs := h.small
  by_cases hx : x = 0
  · subst hx
    clear h hL
    go_enter Tryz.func26, Tryz.ntmps26
    go_wp2_with (go_at_call 50; refine FI.out.mono ?_; rintro e w1 ⟨rfl, hb1⟩)
    go_ret
    exact ⟨rfl, hb1⟩
  · have RT := Lib.hid (fun wx => rootD_any a wx hs)
    have LE := Lib.hid (fun wx (hb : Below w.heap.size w wx) => clen_any wx (hL.below hb))
    have hl : (entsL x Ld).length = 1 + Ld.length := by unfold entsL; rw [if_neg hx, List.length_cons]; omega
    rw [hl]
    obtain ⟨n, hn⟩ : ∃ n, Ld.length = n := ⟨_, rfl⟩
    rw [hn] at LE hm ⊢
    obtain ⟨t, ht⟩ : ∃ t, 1 + n = t := ⟨_, rfl⟩
    have hx0 : (x == 0) = false := by simpa using hx
    have hw0 : (1 : Int) + (n : Int) = (t : Int) := by omega
    have hw1 : IntKind.i64.wrap (t : Int) = (t : Int) := by rw [IntKind.wrap_i64]; omega
    rw [ht]
    clear ht
    clear h hL hl hn
    go_enter Tryz.func26, Tryz.ntmps26
    go_wp2_with (first
      | (go_at_call 50; refine FI.out.mono ?_; rintro e w1 ⟨rfl, hb1⟩)
      | (go_at_call 51; refine (RT.out _).mono ?_; rintro e w2 ⟨rfl, rfl⟩)
      | (go_at_call 48; refine (LE.out _ hb1).mono ?_; rintro e w3 ⟨rfl, hb3⟩))
    go_ret
    exact ⟨rfl, hb1.trans (hb3.mono hb1.size)⟩

end

section
open Go.RowKit Go.Shelf
attribute [local go_sem] Oper.semAt_some
open Go.RowKit Go.Shelf
variable {base p : Nat} {S : Nat → Prop} {a : Nat} {x : Int} {its : List It} {Ld : List Int}
theorem nthD_yes (n : Int) (w : World) (h : IsDat p a x w) (hL : ListAt w base p S ((a + 48 : Nat) : Int) its Ld) (hn0 : -9223372036854775808 ≤ n) (hn1 : n ≤ 9223372036854775807) :
    Calls Tryz.prog 27 #[.pointer (some ⟨p, 0, none⟩), .int .i64 a, .int .i64 n] w fun e w' => e = .returned (.tuple #[.int .u64 (nthV (entsL x Ld) n), .bool (nthQ (entsL x Ld) n)]) ∧ Below w.heap.size w w' := by
  have FI := Lib.hid (firstD_yes p a x w h)
  have hs := h.small
  by_cases hx : x = 0
  · have e1 : nthV (entsL x Ld) n = 0 ∧ nthQ (entsL x Ld) n = false := nth_no (by unfold entsL; rw [if_pos hx, List.length_nil]; omega)
    rw [e1.1, e1.2]
    subst hx
    clear h hL e1
    go_enter Tryz.func27, Tryz.ntmps27
    go_wp2_with (go_at_call 50; refine FI.out.mono ?_; rintro e w1 ⟨rfl, hb1⟩)
    go_ret2
    exact ⟨rfl, hb1⟩
  · have hx0 : (x == 0) = false := by simpa using hx
    by_cases hneg : n < 0
    · have e1 : nthV (entsL x Ld) n = 0 ∧ nthQ (entsL x Ld) n = false := nth_no (.inl hneg)
      rw [e1.1, e1.2]
      clear h hL e1
      go_enter Tryz.func27, Tryz.ntmps27
      go_wp2_with (go_at_call 50; refine FI.out.mono ?_; rintro e w1 ⟨rfl, hb1⟩)
      go_ret2
      exact ⟨rfl, hb1⟩
    · by_cases hz : n = 0
      · subst hz
        have e1 : nthV (entsL x Ld) 0 = x ∧ nthQ (entsL x Ld) 0 = true := by unfold entsL; rw [if_neg hx]; exact nth_yes (L := x :: Ld) (q := 0) (by simp)
        rw [e1.1, e1.2]
        clear h hL e1
        go_enter Tryz.func27, Tryz.ntmps27
        go_wp2_with (go_at_call 50; refine FI.out.mono ?_; rintro e w1 ⟨rfl, hb1⟩)
        go_ret2
        exact ⟨rfl, hb1⟩
      · have RT := Lib.hid (fun wx => rootD_any a wx hs)
        have NT := Lib.hid (fun wx (hb : Below w.heap.size w wx) => cnth_any (n - 1) wx (hL.below hb) (by omega) (by omega))
        have e1 : nthV (entsL x Ld) n = nthV Ld (n - 1) ∧ nthQ (entsL x Ld) n = nthQ Ld (n - 1) := by
          unfold entsL
          rw [if_neg hx]
          by_cases hin : n < (Ld.length : Int) + 1
          · obtain ⟨q, hq⟩ : ∃ q : Nat, n = ((q + 1 : Nat) : Int) := ⟨(n - 1).toNat, by omega⟩
            subst hq
            have h1 := nth_yes (L := x :: Ld) (q := q + 1) (by simp; omega)
            have h2 := nth_yes (L := Ld) (q := q) (by omega)
            have h3 : ((q + 1 : Nat) : Int) - 1 = (q : Nat) := by omega
            rw [h3, h1.1, h1.2, h2.1, h2.2]
            exact ⟨rfl, rfl⟩
          · have h1 := nth_no (L := x :: Ld) (i := n) (.inr (by simp; omega))
            have h2 := nth_no (L := Ld) (i := n - 1) (.inr (by omega))
            rw [h1.1, h1.2, h2.1, h2.2]
            exact ⟨rfl, rfl⟩
        rw [e1.1, e1.2]
        obtain ⟨u, hu⟩ : ∃ u, nthV Ld (n - 1) = u := ⟨_, rfl⟩
        obtain ⟨v, hv⟩ : ∃ v, nthQ Ld (n - 1) = v := ⟨_, rfl⟩
        rw [hu, hv] at NT ⊢
        obtain ⟨n1, hn1'⟩ : ∃ n1, n - 1 = n1 := ⟨_, rfl⟩
        rw [hn1'] at NT
        have hw1 : IntKind.i64.wrap n1 = n1 := by rw [IntKind.wrap_i64]; omega
        have hz0 : (n == 0) = false := by simpa using hz
        clear h hL e1 hu hv
        go_enter Tryz.func27, Tryz.ntmps27
        go_wp2_with (first
          | (go_at_call 50; refine FI.out.mono ?_; rintro e w1 ⟨rfl, hb1⟩)
          | (go_at_call 51; refine (RT.out _).mono ?_; rintro e w2 ⟨rfl, rfl⟩)
          | (go_at_call 46; refine (NT.out _ hb1).mono ?_; rintro e w3 ⟨rfl, hb3⟩))
        go_ret2
        exact ⟨rfl, hb1.trans (hb3.mono hb1.size)⟩
end

section
open Go.RowKit Go.Shelf
open Go.RowKit Go.Shelf
variable {k d f : Int} {w w' : World} {base : Nat} {S : Nat → Prop} {p lim : Nat} {was : List Int} {R : List DR} {O : List GO} {Lr : List Int} {tl cnt : Nat}
theorem EX.toDS (h : EX k d f w base S p lim was R O Lr tl cnt) : DS fldI k d f w base S p lim R tl cnt := by
  obtain ⟨⟨m, bv, sv, l, H, V, hg, hl, hw, htl, hcnt⟩, hsm, hk⟩ := h
  exact ⟨⟨m, bv, sv, l, H, V.db, V.rows, hg.bb, hl, htl, hcnt, by rw [hw]; exact hsm.2.2⟩, ⟨hsm.1, hsm.2.1⟩, hk⟩
end

end Go.Proofs.YtobbkhncnokpiaaGreat
