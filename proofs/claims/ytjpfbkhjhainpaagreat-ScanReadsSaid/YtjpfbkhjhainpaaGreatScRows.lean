/-
  LAYER 17: All; the statements' rows: contracts.
-/
import Derived.Test.YtjpfbkhjhainpaaGreatScPl
import Derived.Test.YtjpfbkhjhainpaaGreatRegionR
set_option linter.unusedVariables false
set_option maxRecDepth 100000
set_option linter.unusedSimpArgs false
namespace Go.Proofs.YtjpfbkhjhainpaaGreat
open Go.RowKit Go.Shelf
attribute [local go_sem] Oper.semAt_some

set_option maxHeartbeats 2000000 in
theorem scAll_any {B : Nat} (A : Option Addr) (n c : Nat) (zs : List Int) (pl to : Int) (L : List SR) (w : World) (hr : Reads w B 1 A n (cellsOf .u8 zs)) (hB : B ≤ w.heap.size) (hz : AreB zs) (hl : n ≤ c) (hcap : c ≤ 9223372036854775807) (hm : n ≤ 1099511627776)
    (h0 : -9223372036854775808 ≤ pl) (h1 : pl ≤ 9223372036854775807) (t0 : -9223372036854775808 ≤ to) (t1 : to ≤ 9223372036854775807) (hL : scanAt (zs.take (cutN n to)) pl L) :
    Calls Tryz.prog 39 #[.slice A n c, .int .i64 pl, .int .i64 to] w fun e w' => ∃ g, e = .returned (.func (.func 55) #[] (scB g)) ∧ Below w.heap.size w w' ∧ ∀ fp₀ : Nat → Prop, (∀ k, fp₀ k → k < w.heap.size) →
      SeqF Fence.wide 8 Tryz.prog 55 (scB g) So.encs (TellsS (zs.take (cutN n to)) L) fp₀ (fun xs => xs.map (·.r) = L) (fun pre => ∃ rest, pre.map (·.r) ++ rest = L) L.length w' := by
  have hn : (zs.take (cutN n to)).length = cutN n to := by
    have := hr.len
    rw [List.length_take, this]; unfold cutN; omega
  obtain ⟨T, hT⟩ : ∃ T, cutN n to = T := ⟨_, rfl⟩
  have hTn : T ≤ n := by rw [← hT]; exact cutN_le _ _
  rw [hT] at hL hn ⊢
  have AH := Lib.hid (fun wx => ahead_any A n c to wx hl hcap t0 t1)
  rw [hT] at AH
  have CL := Lib.hid (bclone_any A T c (zs.take T) B w (hr.pre hTn) hB (by omega))
  have OB := Lib.hid (fun (A2 : Option Addr) (N2 c2 : Nat) wx => objects_any A2 N2 c2 pl wx)
  have HZ := Lib.hid (And.intro hz (And.intro hL hn))
  clear hT hL hn hz hr
  go_enter Tryz.func39, Tryz.ntmps39
  go_wp2_with (first
    | (go_at_call 27; refine (AH.out _).mono ?_; rintro e w1 ⟨rfl, rfl⟩)
    | (go_at_call 29; refine CL.out.mono ?_; rintro e w1 ⟨A2, N2, c2, rfl, hN2, how, hb1, hle, hcp⟩; have HOW := Lib.hid (And.intro hN2 (And.intro how (And.intro hb1 (And.intro hle hcp)))); clear hN2 how hb1 hle hcp)
    | (go_at_call 26; refine (OB.out _ _ _ _).mono ?_; rintro e w2 ⟨rfl, rfl⟩))
  go_ret
  obtain ⟨hN2, how, hb1, hle, hcp⟩ := HOW.out
  obtain ⟨hz, hL, hn⟩ := HZ.out
  have hs1 := hb1.size
  refine ⟨w1.heap.size, rfl, hb1.trans (((boxed w1 _).alloc (boxed w1 _).size _).mono hs1), fun fp₀ hfp => ?_⟩
  have hsq := objects_seq fp₀ w1.heap.size A2 N2 c2 (zs.take T) pl L w1 (Reads.of_own how) (Nat.le_refl _) (fun hn ad ha e => by
    subst ha
    have := (how.lt ad.block rfl).1
    have := hfp _ e
    omega) (hz.take _) hle hcp (by omega) (fun k hk => by have := hfp _ hk; omega) h0 h1 hL
  have hb : Below w1.heap.size w1 ((w1.alloc (.cells #[.slice A2 N2 c2] 41)).alloc (.cells #[.int .i64 pl] 3)) := (boxed w1 _).alloc (boxed w1 _).size _
  have b1 := (Blk.new w1 41 #[.slice A2 N2 c2]).alloc (.cells #[.int .i64 pl] 3)
  have b2 := Blk.new (w1.alloc (.cells #[.slice A2 N2 c2] 41)) 3 #[.int .i64 pl]
  rw [World.size_alloc] at b2
  exact objects_F 8 (by omega) fp₀ w1.heap.size w1.heap.size A2 N2 c2 (zs.take T) pl L _ ((Reads.of_own how).below hb) hb.size (fun hn ad ha e => by
    subst ha
    have := (how.lt ad.block rfl).1
    have := hfp _ e
    omega) (hz.take _) hle hcp (by omega) (by simp)
    ⟨fun e => by have := hfp _ e; omega, fun e => by have := hfp _ e; omega⟩ (b2.cell 0) (b1.cell 0) h0 h1 hL

theorem rowInfo17 : (Tryz.prog.info? 55).map (fun i => (i.zero, i.size, i.bytes)) = some (some (.agg #[.int .i64 0, .int .i64 0, .int .i64 0, .slice none 0 0, .slice none 0 0, .slice none 0 0]), 6, 96) := by kernel_rfl
/-- A row of what is told: the place, the place behind, the object. -/
def So.cs (x : So) : List Value := [.int .i64 x.r.j, .int .i64 x.r.fin, .int .i64 x.r.k, .slice x.A x.n x.c, .slice x.B x.m x.d, .slice x.C x.p x.q]
def cellsS (l : List So) : List Value := (l.map So.cs).flatten
theorem cellsS_snoc (l : List So) (r : So) : cellsS (l ++ [r]) = cellsS l ++ r.cs := by unfold cellsS; rw [List.map_append, List.flatten_append]; simp
theorem row6At {w : World} {g : Nat} (hg : w.heap.size = g) (t : TypeId) (cs : Array Value) (h : cs.size = 6) : Reads (w.alloc (.cells cs t)) (g + 1) 6 (some ⟨g, 0, none⟩) 1 cs.toList := by
  subst hg
  refine ⟨by simp [h], fun _ => ⟨_, rfl, by simp, fun j u hj => ?_⟩⟩
  have e1 : (⟨w.heap.size, 0, none⟩ : Addr).add j = ⟨w.heap.size, j, none⟩ := by unfold Addr.add; split <;> simp_all
  rw [e1, (Blk.new w t cs).cell]
  simpa using hj
theorem row6One (a b c : Int) (A : Option Addr) (n m : Nat) (B : Option Addr) (p q : Nat) (C : Option Addr) (r s : Nat) : ∀ u ∈ [Value.int .i64 a, .int .i64 b, .int .i64 c, .slice A n m, .slice B p q, .slice C r s], u.oneCell' = true := fun u hu => by
  simp at hu
  rcases hu with rfl | rfl | rfl | rfl | rfl | rfl <;> rfl
theorem sq1 {m : Nat} (h : m ≤ 1099511627776) : m + 1 ≤ maxLen := by unfold maxLen; omega
theorem sq2 {m : Nat} (h : m ≤ 1099511627776) : (m + 1) * 96 ≤ 140737488355328 := by omega
/-- None of what it is handed lies in a footprint, if it is any. -/
def So.apart (x : So) (fp : Nat → Prop) : Prop := (0 < x.n → ∀ ad, x.A = some ad → ¬ fp ad.block) ∧ (0 < x.m → ∀ ad, x.B = some ad → ¬ fp ad.block) ∧ (0 < x.p → ∀ ad, x.C = some ad → ¬ fp ad.block)
theorem So.apart.sub {x : So} {fp fq : Nat → Prop} (h : x.apart fp) (hs : ∀ k, fq k → fp k) : x.apart fq := ⟨fun hn ad ha e => h.1 hn ad ha (hs _ e), fun hn ad ha e => h.2.1 hn ad ha (hs _ e), fun hn ad ha e => h.2.2 hn ad ha (hs _ e)⟩
theorem So.free.apart {x : So} {fp : Nat → Prop} (h : x.free fp) : x.apart fp := ⟨fun _ => h.1, fun _ => h.2.1, fun _ => h.2.2⟩
theorem So.apart.grow {x : So} {fp fp' : Nat → Prop} {W W' : World} {zs : List Int} (h : x.apart fp) (hx : x.lies zs W) (hG : GrowF fp W fp' W') : x.apart fp' ∧ x.lies zs W' := by
  refine ⟨⟨fun hn ad ha e => ?_, fun hn ad ha e => ?_, fun hn ad ha e => ?_⟩, ⟨?_, ?_, ?_, hx.wc, hx.rc, hx.ic⟩⟩
  · obtain ⟨ad2, ea, hb, -⟩ := hx.wr.2 hn
    rw [ha] at ea; injection ea with ea; subst ea
    exact (hG.2 _ e).1.elim (h.1 hn ad ha) (fun e => by omega)
  · obtain ⟨ad2, ea, hb, -⟩ := hx.rr.2 hn
    rw [ha] at ea; injection ea with ea; subst ea
    exact (hG.2 _ e).1.elim (h.2.1 hn ad ha) (fun e => by omega)
  · obtain ⟨ad2, ea, hb, -⟩ := hx.ir.2 hn
    rw [ha] at ea; injection ea with ea; subst ea
    exact (hG.2 _ e).1.elim (h.2.2 hn ad ha) (fun e => by omega)
  · exact (hx.wr.chg hG.1 (Nat.le_refl _) h.1).more hG.1.size
  · exact (hx.rr.chg hG.1 (Nat.le_refl _) h.2.1).more hG.1.size
  · exact (hx.ir.chg hG.1 (Nat.le_refl _) h.2.2).more hG.1.size
/-- What rows holds between two rounds. -/
def RoI (w : World) (zs : List Int) (fq : Nat → Prop) (pre : List So) (W : World) : Prop :=
  ∃ v, fq = fpR w.heap.size v ∧ Boxed W w.heap.size 51 v ∧ W.ownsRow w.heap.size 55 6 v pre.length (cellsS pre) ∧ (∀ x ∈ pre, x.lies zs W ∧ x.apart fq) ∧ Below w.heap.size w W
theorem roI_own (w : World) (zs : List Int) (C : Nat) (hC : w.heap.size < C) (fq : Nat → Prop) : OwnFrom C (RoI w zs fq) := by
  rintro pre W W' row ⟨v, e1, hv, hr, he, hbw⟩ hg hrow
  obtain ⟨v2, h2, h3, h4⟩ := own_row w.heap.size w.heap.size C 51 55 6 (fun s : List So => s.length) cellsS pre W W' row ⟨v, hv, hr, trivial⟩ hg hrow
  have e2 := box_same hv hg (fun r e => (hrow r e).2) h2
  subst e2
  exact ⟨v2, e1, h2, h3, fun x hx => ⟨(ObR.grown (he x hx).1 hg (fun r e => (hrow r e).2)).upto hg.size, (he x hx).2⟩, hbw.grown hg (by have := hbw.size; omega) (fun k e => by have := (hrow k e).1; omega)⟩
/-- Rows in memory: what rows tells. -/
structure RowsS (zs : List Int) (W : World) (base : Nat) (v : Value) (l : List So) : Prop where
  own : W.ownsRow base 55 6 v l.length (cellsS l)
  lies : ∀ x ∈ l, x.lies zs W
theorem RowsS.below {zs : List Int} {W W' : World} {base : Nat} {v : Value} {l : List So} (h : RowsS zs W base v l) (hb : Below W.heap.size W W') : RowsS zs W' base v l :=
  ⟨own_below h.own hb, fun x hx => (ObR.below (h.lies x hx) hb (Nat.le_refl _)).upto hb.size⟩

set_option maxHeartbeats 4000000 in
theorem rows_any {B : Nat} (A : Option Addr) (n c : Nat) (zs : List Int) (pl to : Int) (L : List SR) (w : World) (hr : Reads w B 1 A n (cellsOf .u8 zs)) (hB : B ≤ w.heap.size) (hz : AreB zs) (hl : n ≤ c) (hcap : c ≤ 9223372036854775807) (hm : n ≤ 1099511627776)
    (h0 : -9223372036854775808 ≤ pl) (h1 : pl ≤ 9223372036854775807) (t0 : -9223372036854775808 ≤ to) (t1 : to ≤ 9223372036854775807) (hL : scanAt (zs.take (cutN n to)) pl L) :
    Calls Tryz.prog 17 #[.slice A n c, .int .i64 pl, .int .i64 to] w fun e w' => ∃ v l, e = .returned v ∧ RowsS (zs.take (cutN n to)) w' w.heap.size v l ∧ l.map (·.r) = L ∧ Below w.heap.size w w' := by
  have hn : (zs.take (cutN n to)).length = cutN n to := by
    have := hr.len
    rw [List.length_take, this]; unfold cutN; omega
  have hTn := cutN_le n to
  have hb0 : Below w.heap.size w (w.alloc (.cells #[.slice none 0 0] 51)) := boxed w _
  have x0 : Boxed (w.alloc (.cells #[.slice none 0 0] 51)) w.heap.size 51 (.slice none 0 0) := Boxed.new w _ _
  have AL := Lib.hid (scAll_any A n c zs pl to L _ (hr.below (hb0.mono hB)) (Nat.le_trans hB hb0.size) hz hl hcap hm h0 h1 t0 t1 hL)
  have SC := Lib.hid (And.intro hL hn)
  have X := Lib.hid (And.intro hb0 x0)
  obtain ⟨zt, hzt⟩ : ∃ zt, zs.take (cutN n to) = zt := ⟨_, rfl⟩
  obtain ⟨T, hT⟩ : ∃ T, cutN n to = T := ⟨_, rfl⟩
  rw [hzt] at AL SC ⊢
  rw [hT] at SC hTn
  clear hb0 x0 hL hr hz hn hzt hT
  refine (callsIn_wide (n := 9)).1 ?_
  refine callsIn_of_wp_marks Tryz.func17 rfl trivial ?_ rfl
  simp only [Tryz.ntmps17, List.size_toArray, List.length_cons, List.length_nil, Nat.reduceAdd, Nat.reduceSub, Array.replicate_succ, Array.replicate_zero, List.push_toArray, List.append_toArray, List.nil_append, List.cons_append]
  have FN := fun w f a lb => func_nil Tryz.underlying72 w f a lb
  gi_wp2_with (refine ⟨trivial, ?_⟩; gi_at_call 39; refine (callsIn_wide.2 AL.out).mono ?_; rintro e w2 ⟨g, rfl, hb2, hseq0⟩)
  obtain ⟨hb0, x0⟩ := X.out
  have hs0 : (w.alloc (.cells #[.slice none 0 0] 51)).heap.size = w.heap.size + 1 := World.size_alloc _ _
  rw [hs0] at hseq0
  have hseq := hseq0 (fpR w.heap.size (.slice none 0 0)) (fun k hk => by
    rcases hk with rfl | hk
    · omega
    · cases hk)
  have hs2 := hb2.size
  rw [hs0] at hs2
  have hbw2 : Below w.heap.size w w2 := hb0.trans (hb2.mono (by rw [hs0]; omega))
  have y0 : Boxed w2 w.heap.size 51 (.slice none 0 0) := Blk.below (t := 51) (cs := #[.slice none 0 0]) x0 hb2 (by rw [hs0]; omega)
  clear X AL hseq0 hb0 x0 hb2 hs0
  refine wp_range_F (F := Fence.wide) (n := 9) rfl (by omega) (gf := 55) (lb := scB g) rfl trivial (enters_of Tryz.func55 (by kernel_rfl) rfl) hseq
      (fun k hk => by rcases hk with rfl | hk; · omega
                      · cases hk)
      (fun fp pre x => tellsS_own _ L _ fp pre x) (fun _ => rfl)
      (fun fq pre W => RoI w zt fq pre W)
      (fun c pre W => False)
      (fun fq => roI_own _ _ _ (by omega) fq)
      (fun c => own_never)
      ⟨_, rfl, y0, World.ownsRow_nil _ _ _ _, (fun x hx => by cases hx), hbw2⟩
      (fun x a' W => ∃ b, Blk W b 50 #[.int .i64 x.r.k, .slice x.A x.n x.c, .slice x.B x.m x.d, .slice x.C x.p x.q] ∧ a' = { tmps := #[.slice A n c, .int .i64 pl, .int .i64 to, undef, undef, undef, .slice none 0 0, .pointer (some ⟨w.heap.size, 0, none⟩), .func (.func 55) #[] (scB g), .int .i64 x.r.j, .pointer (some ⟨b, 0, none⟩), .slice A n c, .int .i64 pl, .int .i64 to, .func (.func 55) #[] (scB g), .func (.func 55) #[] (scB g), .bool false, .func (.func 55) #[] (scB g), .int .i64 x.r.j, x.v, undef, undef, undef, undef, undef, undef, undef, undef, undef, undef, undef, undef, undef, undef, undef, undef, undef, undef, undef], defers := [] })
      (fun x a' _ A C row hs hg hr => by
        obtain ⟨b, h1, h2⟩ := hs
        exact ⟨b, own_blkAny b 50 (fun _ : Unit => _) () A C row h1 hg hr, h2⟩)
      ?assign ?body ?done ?stop
  case assign =>
    intro l2 x W3 K hW hK
    dsimp only [So.encs, So.v, obV]
    gi_wp2
    exact hK _ _ (boxed _ _) ⟨_, Blk.new _ _ _, rfl⟩
  case body =>
    rintro l2 fp fq pre x W3 ⟨v, rfl, hv, hrow, heach, hbW⟩ hok hsub hlen hpx - a' ⟨b, hbx, rfl⟩
    obtain ⟨A1, c1, rfl, -, -⟩ := own_form hrow
    have hmem : x.r ∈ L := by obtain ⟨rest, e⟩ := hpx.ex; rw [← e]; simp
    have hsh := SC.out.1.short
    rw [SC.out.2] at hsh
    have his := SC.out.1.mem _ hmem
    have hroom := his.room
    rw [SC.out.2] at hroom
    unfold SR.fin at hroom
    obtain ⟨fn, hfn⟩ : ∃ fn, x.r.fin = fn := ⟨_, rfl⟩
    have hadd : IntKind.i64.wrap ((x.r.j : Int) + ((x.r.s : Int) + (padn x.r.s 8 : Nat))) = (fn : Int) := by rw [← hfn, IntKind.wrap_i64]; unfold SR.fin; omega
    have SZ := Lib.hid (fun wx (hx : Below W3.heap.size W3 wx) => so_size (W := wx) ((ObR.below hpx.lies hx (Nat.le_refl _)).upto hx.size) his (by rw [SC.out.2]; omega))
    have HC : Hid (∀ wx, Below W3.heap.size W3 wx → (wx.cell? ⟨w.heap.size, 0, none⟩ = some (.slice A1 pre.length c1) ∧ wx.cell? ⟨b, 0, none⟩ = some (.int .i64 x.r.k) ∧ wx.cell? ⟨b, 1, none⟩ = some (.slice x.A x.n x.c) ∧ wx.cell? ⟨b, 2, none⟩ = some (.slice x.B x.m x.d) ∧ wx.cell? ⟨b, 3, none⟩ = some (.slice x.C x.p x.q))) := Lib.hid (fun wx hx => by
      have h1 := hbx.below hx hbx.lt
      have h2 : Boxed wx w.heap.size 51 (.slice A1 pre.length c1) := Blk.below (t := 51) (cs := #[.slice A1 pre.length c1]) hv hx hv.lt
      exact ⟨h2.cell, h1.cell 0, h1.cell 1, h1.cell 2, h1.cell 3⟩)
    obtain ⟨i0, hi, hz0, hz1, hz2⟩ := info_parts rowInfo17
    have s1 := sq1 (m := pre.length) (by omega)
    have s2 := sq2 (m := pre.length) (by omega)
    gi_wp2
    refine wpIn_mono (Q := OnNormal fun a' W' => ∃ fq', RoI w zt fq' (pre ++ [x]) W' ∧ GrowF (fpR w.heap.size (.slice A1 pre.length c1)) W3 fq' W') ?_ (fun e a w h => by cases e <;> first | exact h.elim | exact h)
    have hb : Below W3.heap.size W3 W3.drew := below_drewn (Below.refl _ _) 1
    refine region_round (S := fun w' => w'.cell? ⟨w.heap.size, 0, none⟩ = some (.slice A1 pre.length c1) ∧ w'.cell? ⟨b, 0, none⟩ = some (.int .i64 x.r.k) ∧ w'.cell? ⟨b, 1, none⟩ = some (.slice x.A x.n x.c) ∧ w'.cell? ⟨b, 2, none⟩ = some (.slice x.B x.m x.d) ∧ w'.cell? ⟨b, 3, none⟩ = some (.slice x.C x.p x.q)) 18 (by kernel_rfl) (by kernel_rfl) (HC.out _ hb) (fun hHeld => ?_)
    refine takeZ_yes (i := 0) (v := ?_) rfl (by kernel_rfl) (by kernel_rfl) (by kernel_rfl) (by kernel_rfl) (fun _ _ _ h => h) (by kernel_rfl) ?_ (by assumption) ?_
    rotate_left
    · intro wz hSw; (try dsimp only at hSw); go_simp; try with_reducible rfl
    simp only [Act.put, List.setIfInBounds_toArray, List.set_cons_zero, List.set_cons_succ]
    refine takeZ_yes (i := 1) (v := ?_) rfl (by kernel_rfl) (by kernel_rfl) (by kernel_rfl) (by kernel_rfl) (fun _ _ _ h => h) (by kernel_rfl) ?_ (by assumption) ?_
    rotate_left
    · intro wz hSw; (try dsimp only at hSw); go_simp; try with_reducible rfl
    simp only [Act.put, List.setIfInBounds_toArray, List.set_cons_zero, List.set_cons_succ]
    refine takeZ_yes (i := 2) (v := ?_) rfl (by kernel_rfl) (by kernel_rfl) (by kernel_rfl) (by kernel_rfl) (fun _ _ _ h => h) (by kernel_rfl) ?_ (by assumption) ?_
    rotate_left
    · intro wz hSw; (try dsimp only at hSw); go_simp; try with_reducible rfl
    simp only [Act.put, List.setIfInBounds_toArray, List.set_cons_zero, List.set_cons_succ]
    refine takeZ_yes (i := 3) (v := ?_) rfl (by kernel_rfl) (by kernel_rfl) (by kernel_rfl) (by kernel_rfl) (fun _ _ _ h => h) (by kernel_rfl) ?_ (by assumption) ?_
    rotate_left
    · intro wz hSw; (try dsimp only at hSw); go_simp; try with_reducible rfl
    simp only [Act.put, List.setIfInBounds_toArray, List.set_cons_zero, List.set_cons_succ]
    refine takeZ_yes (i := 6) (v := ?_) rfl (by kernel_rfl) (by kernel_rfl) (by kernel_rfl) (by kernel_rfl) (fun _ _ _ h => h) (by kernel_rfl) ?_ (by assumption) ?_
    rotate_left
    · intro wz hSw; (try dsimp only at hSw); go_simp; try with_reducible rfl
    simp only [Act.put, List.setIfInBounds_toArray, List.set_cons_zero, List.set_cons_succ]
    refine takeZ_yes (i := 7) (v := ?_) rfl (by kernel_rfl) (by kernel_rfl) (by kernel_rfl) (by kernel_rfl) (fun _ _ _ h => h) (by kernel_rfl) ?_ (by assumption) ?_
    rotate_left
    · intro wz hSw; (try dsimp only at hSw); go_simp; try with_reducible rfl
    simp only [Act.put, List.setIfInBounds_toArray, List.set_cons_zero, List.set_cons_succ]
    refine takeZ_yes (i := 8) (v := ?_) rfl (by kernel_rfl) (by kernel_rfl) (by kernel_rfl) (by kernel_rfl) (fun _ _ _ h => h) (by kernel_rfl) ?_ (by assumption) ?_
    rotate_left
    · intro wz hSw; (try dsimp only at hSw); go_simp; try with_reducible rfl
    simp only [Act.put, List.setIfInBounds_toArray, List.set_cons_zero, List.set_cons_succ]
    refine takeZ_yes (i := 9) (v := ?_) rfl (by kernel_rfl) (by kernel_rfl) (by kernel_rfl) (by kernel_rfl) (fun _ _ _ h => h) (by kernel_rfl) ?_ (by assumption) ?_
    rotate_left
    · intro wz hSw; (try dsimp only at hSw); go_simp; try with_reducible rfl
    simp only [Act.put, List.setIfInBounds_toArray, List.set_cons_zero, List.set_cons_succ]
    refine takeZ_yes (i := 10) (v := ?_) rfl (by kernel_rfl) (by kernel_rfl) (by kernel_rfl) (by kernel_rfl) (fun _ _ _ h => h) (by kernel_rfl) ?_ (by assumption) ?_
    rotate_left
    · intro wz hSw; (try dsimp only at hSw); go_simp; try with_reducible rfl
    simp only [Act.put, List.setIfInBounds_toArray, List.set_cons_zero, List.set_cons_succ]
    refine takeZ_yes (i := 11) (v := ?_) rfl (by kernel_rfl) (by kernel_rfl) (by kernel_rfl) (by kernel_rfl) (fun _ _ _ h => h) (by kernel_rfl) ?_ (by assumption) ?_
    rotate_left
    · intro wz hSw; (try dsimp only at hSw); go_simp; try with_reducible rfl
    simp only [Act.put, List.setIfInBounds_toArray, List.set_cons_zero, List.set_cons_succ]
    refine takeZ_yes (i := 12) (v := ?_) rfl (by kernel_rfl) (by kernel_rfl) (by kernel_rfl) (by kernel_rfl) (fun _ _ _ h => h) (by kernel_rfl) ?_ (by assumption) ?_
    rotate_left
    · intro wz hSw; (try dsimp only at hSw); go_simp; try with_reducible rfl
    simp only [Act.put, List.setIfInBounds_toArray, List.set_cons_zero, List.set_cons_succ]
    refine takeZ_yes (i := 13) (v := ?_) rfl (by kernel_rfl) (by kernel_rfl) (by kernel_rfl) (by kernel_rfl) (fun _ _ _ h => h) (by kernel_rfl) ?_ (by assumption) ?_
    rotate_left
    · intro wz hSw; (try dsimp only at hSw); go_simp; try with_reducible rfl
    simp only [Act.put, List.setIfInBounds_toArray, List.set_cons_zero, List.set_cons_succ]
    refine takeZ_yes (i := 14) (v := ?_) rfl (by kernel_rfl) (by kernel_rfl) (by kernel_rfl) (by kernel_rfl) (fun _ _ _ h => h) (by kernel_rfl) ?_ (by assumption) ?_
    rotate_left
    · intro wz hSw; (try dsimp only at hSw); go_simp; try with_reducible rfl
    simp only [Act.put, List.setIfInBounds_toArray, List.set_cons_zero, List.set_cons_succ]
    refine wpAnyZ_ready (rs := [4]) (by kernel_rfl) (by simp) (AllReadyZ.cons rfl (fun K hK => ?_) AllReadyZ.nil)
    go_simp
    go_at_call 32
    refine (SZ.out _ hb).mono ?_
    rintro e w4 ⟨rfl, hb4⟩
    have hb := hb.trans (hb4.mono hb.size)
    refine hK.out _ _ (HC.out _ hb) (fun hHeld => ?_)
    clear hK K
    try simp only [Act.put, List.setIfInBounds_toArray, List.set_cons_zero, List.set_cons_succ]
    refine takeZ_yes (i := 5) (v := ?_) rfl (by kernel_rfl) (by kernel_rfl) (by kernel_rfl) (by kernel_rfl) (fun _ _ _ h => h) (by kernel_rfl) ?_ (by assumption) ?_
    rotate_left
    · intro wz hSw; (try dsimp only at hSw); go_simp; try with_reducible rfl
    simp only [Act.put, List.setIfInBounds_toArray, List.set_cons_zero, List.set_cons_succ]
    refine takeZ_yes (i := 15) (v := ?_) rfl (by kernel_rfl) (by kernel_rfl) (by kernel_rfl) (by kernel_rfl) (fun _ _ _ h => h) (by kernel_rfl) ?_ (by assumption) ?_
    rotate_left
    · intro wz hSw; (try dsimp only at hSw); go_simp; try with_reducible rfl
    simp only [Act.put, List.setIfInBounds_toArray, List.set_cons_zero, List.set_cons_succ]
    refine wpAnyZ_ready (rs := [16]) (by kernel_rfl) (by simp) (AllReadyZ.cons rfl (fun K hK => ?_) AllReadyZ.nil)
    go_simp
    have hv4 : Boxed w4 w.heap.size 51 (.slice A1 pre.length c1) := Blk.below (t := 51) (cs := #[.slice A1 pre.length c1]) hv hb hv.lt
    have hrow4 := own_below hrow hb
    have hb6 : Below W3.heap.size W3 (w4.alloc (.cells #[.int .i64 x.r.j, .int .i64 fn, .int .i64 x.r.k, .slice x.A x.n x.c, .slice x.B x.m x.d, .slice x.C x.p x.q] 55)) := hb.alloc hb.size _
    refine hK.out _ _ (HC.out _ hb6) (fun hHeld => ?_)
    clear hK K
    try simp only [Act.put, List.setIfInBounds_toArray, List.set_cons_zero, List.set_cons_succ]
    refine wpAnyZ_ready (rs := [17]) (by kernel_rfl) (by simp) (AllReadyZ.cons rfl (fun K hK => ?_) AllReadyZ.nil)
    refine step_append_any _ rfl (.tmp 20) (.tmp 36) _ rfl w.heap.size 55 i0 (.agg #[.int .i64 0, .int .i64 0, .int .i64 0, .slice none 0 0, .slice none 0 0, .slice none 0 0]) 6 96 Tryz.underlying51 hi hz0 hz1 hz2 rfl (by decide) _ pre.length (cellsS pre) rfl (hrow4.alloc _) (w4.heap.size + 1) (some ⟨w4.heap.size, 0, none⟩) 1 1 [.int .i64 x.r.j, .int .i64 fn, .int .i64 x.r.k, .slice x.A x.n x.c, .slice x.B x.m x.d, .slice x.C x.p x.q] rfl (row6At rfl _ _ rfl) (row6One _ _ _ _ _ _ _ _ _ _ _ _) s1 s2 (by have := hbW.size; have := hb6.size; simp at this ⊢; omega) ?_
    intro v' w1 hown' hgrow hat
    obtain ⟨g', cap', rfl⟩ := ownsRow_succ hown'
    obtain ⟨hv1, hv2, hr2, hg2⟩ := appendedF hv4 (by decide) hrow4 hown' hgrow hat
    have h6 : w1.cell? ⟨w.heap.size, 0, none⟩ = some (.slice A1 pre.length c1) ∧ w1.cell? ⟨b, 0, none⟩ = some (.int .i64 x.r.k) ∧ w1.cell? ⟨b, 1, none⟩ = some (.slice x.A x.n x.c) ∧ w1.cell? ⟨b, 2, none⟩ = some (.slice x.B x.m x.d) ∧ w1.cell? ⟨b, 3, none⟩ = some (.slice x.C x.p x.q) := by
      have hbx4 := hbx.below hb hbx.lt
      have hbx1 : Blk w1 b 50 #[.int .i64 x.r.k, .slice x.A x.n x.c, .slice x.B x.m x.d, .slice x.C x.p x.q] := (hbx4.alloc _).grown hgrow (own_blk_ne hrow4 hbx4 (by decide)).symm
      exact ⟨hv1.cell, hbx1.cell 0, hbx1.cell 1, hbx1.cell 2, hbx1.cell 3⟩
    refine hK.out _ _ h6 (fun hHeld => ?_)
    clear hK K
    try simp only [Act.put, List.setIfInBounds_toArray, List.set_cons_zero, List.set_cons_succ]
    have hc1 := hv1.cell
    have hf1 := hv1.frozen
    refine wpAnyZ_ready (rs := [18]) (by kernel_rfl) (by simp) (AllReadyZ.last rfl (fun K hK => ?_))
    go_simp
    refine hK.out _ _ ?_
    clear hK K
    refine wpAnyZ_done (by kernel_rfl) ?_ _
    have G := (GrowF.below hok hb).trans hg2
    refine ⟨_, ⟨_, rfl, hv2, ?_, fun y hy => ?_, ?_⟩, G⟩
    · rw [List.length_append, cellsS_snoc]
      unfold So.cs
      rw [hfn]
      exact hr2
    · rcases List.mem_append.1 hy with hy | hy
      · have := (heach y hy).2.grow (heach y hy).1 G
        exact ⟨this.2, this.1⟩
      · rw [List.mem_singleton.1 hy]
        have hfr : x.apart (fpR w.heap.size (.slice A1 pre.length c1)) := (So.free.apart hpx.free).sub hsub
        have := hfr.grow hpx.lies G
        exact ⟨this.2, this.1⟩
    · exact hbW.trans (G.1.below hbW.size (fun q _ e => by
        rcases e with e | e
        · omega
        · exact (hrow.lt _ e).1))
  case done =>
    rintro D fq xs W hD hxs ⟨v, rfl, hv, hrow, heach, hbW⟩ hK
    have cv := hv.cell
    gi_wp2
    refine ⟨by simp, .inl ⟨_, _, rfl, run_takeDeferred hK, ?_⟩⟩
    refine ⟨_, results_tmp rfl _ _ _, v, xs, rfl, ⟨own_base (ownsRow_putObj hrow _ hK rfl) (by omega), fun x hx => (ObR.put_other (heach x hx).1 hK rfl).upto (by simp)⟩, hxs, below_put1 hbW (by omega) _⟩
  case stop =>
    rintro D cc pre W hD hp hf hK
    exact hf.elim
end Go.Proofs.YtjpfbkhjhainpaaGreat
