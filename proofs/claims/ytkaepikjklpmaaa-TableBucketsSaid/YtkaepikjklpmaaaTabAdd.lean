/-
  LAYER 13: WHAT Add OF PACKAGE table DOES: a contract.
-/
import Derived.Test.YtkaepikjklpmaaaTabFind
set_option linter.unusedVariables false
set_option maxRecDepth 100000
set_option linter.unusedSimpArgs false
namespace Go.Proofs.Ytkaepikjklpmaaa
open Go.RowKit Go.Shelf
attribute [local go_sem] Oper.semAt_some

/-- The plain way on, alone. -/
def OnNormal (R : Act → World → Prop) : Exit → Act → World → Prop
  | .normal, a, w => R a w
  | .ret, _, _ => False
  | .exit _, _, _ => False
  | .goto _, _, _ => False
  | .panic _, _, _ => False
  | .outgrown, _, _ => False

section
variable {base p : Nat} {S : Nat → Prop} {i k d f h : Int} {m : IM} {bv sv : Value}

set_option maxHeartbeats 8000000 in
theorem tadd_any {B : Nat} {l : List TRow} (kd : Nat) (hkd : kd = 1 ∨ kd = 2) (A : Option Addr) (n c : Nat) (zs : List Int) (w : World) (H : IX w base S p i k d f h m bv sv) (hbm : AreB m.b) (hk : IsU k) (T : TB k d f m.b l) (hlim : m.lim ≤ 1048576) (hN : m.words.length ≤ 1000000000) (hwl : m.was.length ≤ 1099511627776) (hr : Reads w B 1 A n (cellsOf .u8 zs)) (hB : B ≤ w.heap.size) (hz : AreB zs) (hl : n ≤ c) (hcap : c ≤ 9223372036854775807) (hn : n ≤ 140737488355328) (hrt : rightN kd (kwN kd) zs.length 0 = true) :
    Calls Try.prog 12 #[.pointer (some ⟨p, 0, none⟩), .int .i64 kd, .slice A n c] w fun e w' =>
      (∃ a, findR l kd zs = some a ∧ e = .returned (.tuple #[.int .i64 (a : Nat), .bool false, .int .i64 0]) ∧ Below w.heap.size w w') ∨
      (findR l kd zs = none ∧ m.lim < m.b.length + tlen kd zs.length ∧ e = .returned (.tuple #[.int .i64 0, .bool false, .int .i64 21]) ∧ Below w.heap.size w w') ∨
      (findR l kd zs = none ∧ m.b.length + tlen kd zs.length ≤ m.lim ∧ e = .returned (.tuple #[.int .i64 (m.b.length : Nat), .bool true, .int .i64 0]) ∧
        IXT base S p i k d f h ((m.add (tO k ⟨kd, zs, m.b.length⟩ 0)).put8 (linkP d kd (bktN d f kd (hsh k zs)) (chainL k d f kd (bktN d f kd (hsh k zs)) l)) (m.b.length : Nat)) w w') := by
  obtain ⟨w0, hw0⟩ : ∃ w0, (((w.alloc (.cells #[.slice A n c] 39)).alloc (.cells #[.int .i64 0] 3)).alloc (.cells #[.bool false] 4)).alloc (.cells #[.int .i64 0] 36) = w0 := ⟨_, rfl⟩
  have hb0 : Below w.heap.size w w0 := by rw [← hw0]; exact ((((Below.refl _ w).alloc (Nat.le_refl _) _).alloc (by simp) _).alloc (by simp; omega) _).alloc (by simp; omega) _
  have hsz : w0.heap.size = w.heap.size + 1 + 1 + 1 + 1 := by rw [← hw0]; simp
  have x0 : Blk w0 w.heap.size 39 #[.slice A n c] := by rw [← hw0]; exact (((Blk.new w _ _).alloc _).alloc _).alloc _
  have x1 : Blk w0 (w.heap.size + 1) 3 #[.int .i64 0] := by rw [← hw0]; have := (Blk.new (w.alloc (.cells #[.slice A n c] 39)) 3 #[.int .i64 0]); rw [World.size_alloc] at this; exact (this.alloc _).alloc _
  have x2 : Blk w0 (w.heap.size + 1 + 1) 4 #[.bool false] := by rw [← hw0]; have := (Blk.new ((w.alloc (.cells #[.slice A n c] 39)).alloc (.cells #[.int .i64 0] 3)) 4 #[.bool false]); rw [World.size_alloc, World.size_alloc] at this; exact this.alloc _
  have x3 : Blk w0 (w.heap.size + 1 + 1 + 1) 36 #[.int .i64 0] := by rw [← hw0]; have := (Blk.new (((w.alloc (.cells #[.slice A n c] 39)).alloc (.cells #[.int .i64 0] 3)).alloc (.cells #[.bool false] 4)) 36 #[.int .i64 0]); rw [World.size_alloc, World.size_alloc, World.size_alloc] at this; exact this
  have c0 := x0.cell 0
  have hsU := hsh_isU k zs
  have SU := Lib.hid (tsum_any A n c zs w0 (H.below hb0) hk (hr.below (hb0.mono hB)) (Nat.le_trans hB hb0.size) hz hl hcap hn)
  have BU := Lib.hid (fun w1 (hb : Below w0.heap.size w0 w1) => tbucket_any kd hkd (hsh k zs) w1 (H.below (hb0.trans (hb.mono hb0.size))) hsU T.hD T.hF)
  have AL := Lib.hid (fun w1 (hb : Below w0.heap.size w0 w1) => tall_any kd hkd (hsh k zs) w1 (H.below (hb0.trans (hb.mono hb0.size))) hbm hsU T.hD T.hF)
  have X := Lib.hid (And.intro x0 (And.intro x1 (And.intro x2 x3)))
  have HX := Lib.hid hr
  obtain ⟨hq1, hq2⟩ := bktN_eq T.hD T.hF (kd := kd) hsU
  obtain ⟨q, hq⟩ : ∃ q, tb d kd + 8 * bktN d f kd (hsh k zs) = q := ⟨_, rfl⟩
  rw [hq] at BU AL
  clear x0 x1 x2 x3 hr
  refine (callsIn_wide (n := 9)).1 ?_
  refine callsIn_of_wp_marks Try.func12 rfl trivial ?_ rfl
  simp only [Try.ntmps12, List.size_toArray, List.length_cons, List.length_nil, Nat.reduceAdd, Nat.reduceSub, Array.replicate_succ, Array.replicate_zero, List.push_toArray, List.append_toArray, List.nil_append, List.cons_append]
  gi_wp2_with (first
    | (refine ⟨trivial, ?_⟩; gi_at_call 13; refine (callsIn_wide.2 SU.out).mono ?_; rintro e w1 ⟨rfl, hb1⟩)
    | (refine ⟨trivial, ?_⟩; gi_at_call 25; refine (callsIn_wide.2 (BU.out _ hb1)).mono ?_; rintro e w2 ⟨rfl, hb2⟩; have hb3 := (hb1.trans (hb2.mono hb1.size)).trans ((boxed w2 (.cells #[.int .i64 q] 3)).mono (hb1.trans (hb2.mono hb1.size)).size); have xl := Blk.new w2 3 #[.int .i64 q])
    | (refine ⟨trivial, ?_⟩; gi_at_call 26; refine (callsIn_wide.2 (AL.out _ hb3)).mono ?_; rintro e w4 ⟨g, rfl, hb4, hg, hfl⟩))
  have hs1 := hb1.size
  have hs2 := hb2.size
  have hs4 := hb4.size
  have hgl := hfl.lo
  rw [World.size_alloc] at hs4 hg
  have hb04 : Below w0.heap.size w0 w4 := hb3.trans (hb4.mono hb3.size)
  have hbw4 : Below w.heap.size w w4 := hb0.trans (hb04.mono hb0.size)
  have H4 := H.below hbw4
  obtain ⟨X0, X1, X2, X3⟩ := X.out
  have y0 := X0.below hb04 (by omega)
  have y1 := X1.below hb04 (by omega)
  have y2 := X2.below hb04 (by omega)
  have y3 := X3.below hb04 (by omega)
  have yl : Blk w4 w2.heap.size 3 #[.int .i64 q] := xl.below hb4 (by simp)
  have hr4 : Reads w4 B 1 A n (cellsOf .u8 zs) := HX.out.below (hbw4.mono hB)
  obtain ⟨its, hch, hmap⟩ := T.chain hkd hq2
  rw [hq] at hch
  have hfin := chain_fine hbm hch
  have hfd := find_bucket hq1 hmap
  have hword : IsU (m.word (q : Nat)) := by
    have h8 := linked_isU (T.chains kd hkd _ hq2) (fun r hr' => by have := T.fine r (mem_chain hr').1; have := T.most; omega)
    rw [hq] at h8
    exact h8
  have hwB : w.heap.size ≤ w4.heap.size := hbw4.size
  clear X X0 X1 X2 X3 HX SU AL BU c0 xl
  refine wp_range_tellsH (F := Fence.wide) (n := 9) rfl (by omega) (gf := 38) (lb := #[.pointer (some ⟨g + 3, 0, none⟩), .pointer (some ⟨g + 2, 0, none⟩), .pointer (some ⟨g + 1, 0, none⟩), .pointer (some ⟨g, 0, none⟩)]) rfl trivial (enters_of Try.func38 (by kernel_rfl) rfl)
    (follow_tells 8 (by omega) w4.heap.size (fun k => k = w2.heap.size) (g + 3) (g + 2) (g + 1) g kd 1 _ its w4 H4 hbm T.most T.hD T.hF (fun j hj => ⟨(H4.foot j hj).2, fun e => by have := (H.foot j hj).2; omega⟩) ⟨by omega, by omega, by omega, by omega, Nat.le_refl _⟩ ⟨by omega, by omega, by omega, by omega⟩ hfl.cw hfl.ck hfl.cp hfl.cm
      (by rcases hkd with rfl | rfl <;> decide) hword hch)
    keepC_t (keepC_b (Nat.le_refl _)) (fun pre x W l o o' _ hl ho hx => hx.put hl ho) (Below.refl _ _) (fun _ => rfl)
    (fun pre W => ((∀ y ∈ pre, y.t.rs ≠ zs) ∧ KeepC w4.heap.size (fun k => k = w2.heap.size) w4 W) ∧ Blk W w2.heap.size 3 #[.int .i64 (lkO q pre : Nat)])
    (fun c pre W => ((c = .ret ∧ ∃ pre0 x, pre = pre0 ++ [x] ∧ (∀ y ∈ pre0, y.t.rs ≠ zs) ∧ x.t.rs = zs) ∧ KeepC w4.heap.size (fun k => k = w2.heap.size ∨ k = w.heap.size + 1 ∨ k = w.heap.size + 1 + 1 ∨ k = w.heap.size + 1 + 1 + 1) w4 W) ∧ Blk W (w.heap.size + 1) 3 #[.int .i64 ((findI (pre.map (·.t)) zs).getD 0 : Nat)] ∧ Blk W (w.heap.size + 1 + 1) 4 #[.bool false] ∧ Blk W (w.heap.size + 1 + 1 + 1) 36 #[.int .i64 0])
    (OwnFrom.and (own_keepC (Nat.le_refl _) _) (own_blkOf (by omega) _))
    (fun c => OwnFrom.and (own_keepC (Nat.le_refl _) _) (OwnFrom.and (own_blkOf (by omega) _) (OwnFrom.and (own_blkOf (by omega) _) (own_blkOf (by omega) _))))
    ⟨⟨by simp, Chg.refl _ _⟩, yl⟩
    (fun x a' W => ∃ b, Blk W b 54 #[.int .i64 kd, .slice x.A x.n x.c, .slice x.B x.m x.d, .slice x.C x.p x.q] ∧ w4.heap.size ≤ b ∧ a' = { tmps := #[.pointer (some ⟨p, 0, none⟩), .int .i64 kd, .slice A n c, undef, undef, .pointer (some ⟨w.heap.size, 0, none⟩), .pointer (some ⟨w.heap.size + 1, 0, none⟩), .pointer (some ⟨w.heap.size + 1 + 1, 0, none⟩), .pointer (some ⟨w.heap.size + 1 + 1 + 1, 0, none⟩), .int .u64 (hsh k zs), .pointer (some ⟨w2.heap.size, 0, none⟩), .bool true, .int .i64 x.t.j, .pointer (some ⟨b, 0, none⟩), undef, undef, undef, .pointer (some ⟨p, 0, none⟩), .slice A n c, .int .u64 (hsh k zs), .tuple #[.int .i64 q, .bool true], .pointer (some ⟨p, 0, none⟩), .int .i64 kd, .int .u64 (hsh k zs), .tuple #[.int .i64 q, .bool true], .int .i64 q, .bool true, .bool true, .bool false, .pointer (some ⟨p, 0, none⟩), .int .i64 kd, .int .u64 (hsh k zs), flV g, .int .i64 x.t.j, x.v kd, undef, undef, undef, undef, undef, undef, undef, undef, undef, undef, undef, undef, undef, undef, undef, undef, undef, undef, undef, undef, undef, undef, undef, undef, undef, undef, undef, undef, undef, undef, undef, undef, undef], defers := [] })
    (fun x a' W l o o' _ hl ho ⟨b, h1, h2, h3⟩ => ⟨b, h1.put_other hl ho, h2, h3⟩)
    ?assign ?body ?done ?stop
  case assign =>
    intro l pre x W K hi hpx hK
    dsimp only [Ob.encs, Ob.v, obV]
    gi_wp2
    exact hK _ _ (KeepsOthers.alloc _ _) (keepC_below (boxed _ _)) ⟨⟨hi.1.1, keepC_t hi.1.2 (keepC_below (boxed _ _))⟩, hi.2.alloc _⟩ (hpx.alloc _) ⟨W.heap.size, Blk.new _ _ _, hi.1.2.size, rfl⟩
  case body =>
    rintro l pre x W ⟨⟨hne, hkw⟩, zl⟩ _ hpx a' ⟨b, hbx, hbn, rfl⟩
    have b2 := hbx.cell 2
    have r0 := (keepC_blk y0 hkw (by omega) (by omega)).cell 0
    have z1 := keepC_blk y1 hkw (by omega) (by omega)
    have z2 := keepC_blk y2 hkw (by omega) (by omega)
    have z3 := keepC_blk y3 hkw (by omega) (by omega)
    have k1 := z1.cell 0
    have k2 := z2.cell 0
    have k3 := z3.cell 0
    have kl := zl.cell 0
    have f1 := z1.frozen 0
    have f2 := z2.frozen 0
    have f3 := z3.frozen 0
    have fl := zl.frozen 0
    have hxm := hfin x.t hpx.mem
    have hmost := T.most
    have hw1 : IntKind.i64.wrap ((x.t.j : Int) + 24) = (x.t.j : Int) + 24 := wrap_i64_of (by omega) (by omega)
    have BQ := Lib.hid (beq_any x.B A x.m n x.d c x.t.rs zs W hpx.2.rr (reads_keepC hr4 hkw (by omega) (by omega) (fun j hj e => by omega)) hxm.1 hz)
    have AT := Lib.hid (fun wx => oat_any 1 wx (by omega) (by omega))
    have Z := Lib.hid (And.intro z1 (And.intro z2 (And.intro z3 zl)))
    clear z1 z2 z3 zl
    gi_wp2_with (first
      | (refine ⟨trivial, ?_⟩; gi_at_call 27; refine (CallsIn.inRound l (callsIn_wide.2 BQ.out)).mono ?_; rintro e w9 ⟨rfl, rfl⟩)
      | (refine ⟨trivial, ?_⟩; gi_at_call 28; refine (CallsIn.inRound l (callsIn_wide.2 (AT.out _))).mono ?_; rintro e w9 ⟨rfl, rfl⟩))
    · rename_i hx
      have hx' : x.t.rs = zs := by simpa using hx
      have e1 : findI ((pre ++ [x]).map (·.t)) zs = some x.t.j := by have := findI_snoc (rest := []) hne hx'; rwa [List.append_nil] at this
      obtain ⟨z1, z2, z3, -⟩ := Z.out
      refine ⟨((KeepsOthers.setCell _ _ _).trans (KeepsOthers.setCell _ _ _)).trans (KeepsOthers.setCell _ _ _), ⟨⟨rfl, pre, x, rfl, hne, hx'⟩, keepC_set (keepC_set (keepC_set (keepC_mono hkw (fun _ e => .inl e)) (.inr (.inr (.inl rfl))) _) (.inr (.inr (.inr (.inl rfl)))) _) (.inr (.inr (.inr (.inr rfl)))) _⟩, ?_, ?_, ?_⟩
      · rw [e1]; exact ((z1.set_ 0 _).far (by show w.heap.size + 1 ≠ w.heap.size + 1 + 1; omega) _).far (by show w.heap.size + 1 ≠ w.heap.size + 1 + 1 + 1; omega) _
      · exact ((z2.far (by show w.heap.size + 1 + 1 ≠ w.heap.size + 1; omega) _).set_ 0 _).far (by show w.heap.size + 1 + 1 ≠ w.heap.size + 1 + 1 + 1; omega) _
      · exact ((z3.far (by show w.heap.size + 1 + 1 + 1 ≠ w.heap.size + 1; omega) _).far (by show w.heap.size + 1 + 1 + 1 ≠ w.heap.size + 1 + 1; omega) _).set_ 0 _
    · rename_i hx
      have hx' : ¬ x.t.rs = zs := by simpa using hx
      refine ⟨KeepsOthers.setCell _ _ _, keepC_set (p := ⟨w2.heap.size, 0, none⟩) (n₀ := w4.heap.size) (T := fun k => k = w2.heap.size) (Chg.refl _ _) (.inr rfl) _, ⟨fun y hy => (List.mem_append.1 hy).elim (hne y) (fun e => by rw [List.mem_singleton.1 e]; exact hx'), keepC_set hkw (.inr rfl) _⟩, ?_⟩
      have e3 : lkO q (pre ++ [x]) = x.t.j + 24 := by simp [lkO]
      rw [e3]
      exact Z.out.2.2.2.set_ 0 _
  case done =>
    rintro D xs W hD hxs ⟨⟨hne, hkw⟩, zl⟩ hK
    obtain ⟨Zc, hZ1, hZ2, hmk⟩ := make_words (kwN kd) (by have := kwN_le kd; omega)
    have r0 := (keepC_blk y0 hkw (by omega) (by omega)).cell 0
    have hB4W : Below B w4 W := keepC_to hkw (by omega) (by omega) (fun j hj e => by omega)
    have Z := Lib.hid (And.intro (keepC_blk y1 hkw (by omega) (by omega)) (And.intro (keepC_blk y2 hkw (by omega) (by omega)) (And.intro (keepC_blk y3 hkw (by omega) (by omega)) zl)))
    gi_wp2
    refine wpIn_wide.2 ?_
    refine Code.wp_mono (Q := OnNormal fun a' W' => ∃ gr gb, Below W.heap.size W W' ∧ W.heap.size ≤ gr ∧ W.heap.size ≤ gb ∧ gr ≠ gb ∧ Blk W' gr 22 Zc ∧ Blk W' gb 54 #[.int .i64 kd, .slice (some ⟨gr, 0, none⟩) (kwN kd) (kwN kd), .slice A n c, .slice none 0 0] ∧ a' = { tmps := #[.pointer (some ⟨p, 0, none⟩), .int .i64 kd, .slice A n c, undef, undef, .pointer (some ⟨w.heap.size, 0, none⟩), .pointer (some ⟨w.heap.size + 1, 0, none⟩), .pointer (some ⟨w.heap.size + 1 + 1, 0, none⟩), .pointer (some ⟨w.heap.size + 1 + 1 + 1, 0, none⟩), .int .u64 (hsh k zs), .pointer (some ⟨w2.heap.size, 0, none⟩), .bool true, undef, undef, .pointer (some ⟨gb, 0, none⟩), undef, undef, .pointer (some ⟨p, 0, none⟩), .slice A n c, .int .u64 (hsh k zs), .tuple #[.int .i64 q, .bool true], .pointer (some ⟨p, 0, none⟩), .int .i64 kd, .int .u64 (hsh k zs), .tuple #[.int .i64 q, .bool true], .int .i64 q, .bool true, .bool true, .bool false, .pointer (some ⟨p, 0, none⟩), .int .i64 kd, .int .u64 (hsh k zs), flV g, undef, undef, undef, undef, undef, undef, undef, undef, undef, undef, .int .i64 kd, .int .i64 kd, .int .i64 (kwN kd), .slice (some ⟨gr, 0, none⟩) (kwN kd) (kwN kd), .slice A n c, .agg #[.int .i64 kd, .slice (some ⟨gr, 0, none⟩) (kwN kd) (kwN kd), .slice A n c, .slice none 0 0], undef, undef, undef, undef, undef, undef, undef, undef, undef, undef, undef, undef, undef, undef, undef, undef, undef, undef, undef], defers := [{ target := .collected D, args := #[] }] }) ?_ ?_
    rotate_left
    · clear Z y0 y1 y2 y3 zl yl hch hmap hfin hfd
      have HW := Lib.hid (fun wx => owords_any kd wx)
      have HC := Lib.hid (fun (wx : World) (o : Obj) (hx : wx.cell? ⟨w.heap.size, 0, none⟩ = some (.slice A n c)) => (cell_kept1 hx : (wx.alloc o).cell? ⟨w.heap.size, 0, none⟩ = some (.slice A n c)))
      go_region_held3 (fun w' => w'.cell? ⟨w.heap.size, 0, none⟩ = some (.slice A n c))
        (first | assumption | exact HC.out _ _ (by assumption) | exact HC.out _ _ (HC.out _ _ (by assumption)))
        ((go_at_call 29; refine (HW.out _).mono ?_; rintro e w9 ⟨rfl, rfl⟩))
      all_goals
        first
        | (obtain ⟨q1, q2, q3⟩ := two_blocks W Zc #[.int .i64 kd, .slice (some ⟨W.heap.size, 0, none⟩) (kwN kd) (kwN kd), .slice A n c, .slice none 0 0] 22 54
           exact ⟨W.heap.size, W.heap.size + 1, q1, Nat.le_refl _, by omega, by omega, q2, q3, rfl⟩)
        | (obtain ⟨q1, q2, q3⟩ := two_blocks W #[.int .i64 kd, .slice (some ⟨W.heap.size + 1, 0, none⟩) (kwN kd) (kwN kd), .slice A n c, .slice none 0 0] Zc 54 22
           exact ⟨W.heap.size + 1, W.heap.size, q1, by omega, Nat.le_refl _, by omega, q3, q2, rfl⟩)
    · intro e a' W5 hq5
      cases e <;> try exact hq5.elim
      obtain ⟨gr, gb, hb5, hgr, hgb, hne5, zr, zb, rfl⟩ := hq5
      have hpos : 0 < kwN kd := by rcases hkd with rfl | rfl <;> decide
      have u1 := zb.cell 0
      have u2 := zb.cell 1
      have u3 := zb.cell 2
      have u4 := zb.cell 3
      have v0 : W5.cell? ⟨gr, 0, none⟩ = some (.int .u64 0) := by
        rw [zr.cell 0, ← Array.getElem?_toList, hZ1]
        exact (cellsOf_get (by rw [List.length_replicate]; exact hpos)).trans (by rw [List.getD_eq_getElem?_getD, List.getElem?_replicate, if_pos hpos]; rfl)
      have f0 := zr.frozen 0
      clear r0 hmk
      obtain ⟨W6, hW6⟩ : ∃ W6, W5.setCell ⟨gr, 0, none⟩ (.int .u64 (hsh k zs)) = W6 := ⟨_, rfl⟩
      have hbW6 : Below W.heap.size W W6 := by rw [← hW6]; exact hb5.setCell (p := ⟨gr, 0, none⟩) hgr _
      have hsW := hkw.size
      have hB6 : Below w.heap.size w W6 := hbw4.trans ((keepC_to hkw (by omega) hbw4.size (fun j hj e => by omega)).trans (hbW6.mono (by omega)))
      have H6 := H.below hB6
      have hlen : zs.length = n := hr4.len
      have hfine : (⟨kd, zs, m.b.length⟩ : TRow).Fine := ⟨hkd, hrt, hz, T.al⟩
      have hkw2 := hfine.kw
      have zr6 : Blk W6 gr 22 (Zc.setIfInBounds 0 (.int .u64 (hsh k zs))) := by rw [← hW6]; exact zr.set_ 0 _
      have zb6 : Blk W6 gb 54 #[.int .i64 kd, .slice (some ⟨gr, 0, none⟩) (kwN kd) (kwN kd), .slice A n c, .slice none 0 0] := by rw [← hW6]; exact zb.far (by show gb ≠ gr; omega) _
      have w1' := zb6.cell 0
      have w2' := zb6.cell 1
      have w3' := zb6.cell 2
      have w4' := zb6.cell 3
      have hT : tW k ⟨kd, zs, m.b.length⟩ 0 = hsh k zs :: 0 :: List.replicate (kwN kd - 2) 0 := rfl
      have hO : ObR W6 W6.heap.size (some ⟨gr, 0, none⟩) (kwN kd) (kwN kd) (tW k ⟨kd, zs, m.b.length⟩ 0) A n c zs none 0 0 [] := by
        rw [hT]
        exact add_obj zr6 hZ1 hZ2 hkw2.1 hkw2.2 (hr4.below (hB4W.trans (hbW6.mono (by omega)))) (by have := hbW6.size; omega) hl hcap
      have hrn : rightN kd (kwN kd) n 0 = true := by rw [← hlen]; exact hrt
      have hxl : (encO kd (tW k ⟨kd, zs, m.b.length⟩ 0) zs []).length = tlen kd zs.length := by have h := tO_length (key := k) (z := 0) hfine; unfold tO at h; exact h
      have e2 : findR l kd zs = none := by rw [← hfd, ← hxs]; exact findI_all hne
      have hD6 : W6.heap[D]? = some (.deferred (some [])) := (hbW6.block D (Array.getElem?_eq_some_iff.1 hK).1).trans hK
      have hDW := (Array.getElem?_eq_some_iff.1 hK).1
      have Z6 := Lib.hid (And.intro (Z.out.1.below hbW6 (by omega)) (And.intro (Z.out.2.1.below hbW6 (by omega)) (And.intro (Z.out.2.2.1.below hbW6 (by omega)) (Z.out.2.2.2.below hbW6 (by omega)))))
      have hsz6 := hbW6.size
      have hgl6 : w2.heap.size < W.heap.size := by omega
      have HM := Lib.hid hmap
      have HZ := Lib.hid (And.intro zr6 zb6)
      clear zr6 zb6 zr zb zl Z y0 y1 y2 y3 yl hch hmap hfin hfd hword hkw2 hlen hZ1 hZ2
      by_cases hfull : m.lim < m.b.length + tlen kd zs.length
      · have PF := Lib.hid (iput_full kd _ _ _ _ _ _ _ _ _ _ _ _ W6 hO hrn H6 T.most hlim (by rw [hxl]; exact hfull))
        clear hT hO hrn hxl hfine HZ hB4W hr4 hxs hne hfl hB hz hcap hn hrt hq1 hq2 hq hb0 hb1 hb2 hb3 hb4 hkd
        gi_wp2_with (refine ⟨trivial, ?_⟩; gi_at_call 18; refine (callsIn_wide.2 PF.out).mono ?_; rintro e W7 ⟨rfl, hb7⟩; have a1 := Z6.out.1.below hb7 (by omega); have a2 := Z6.out.2.1.below hb7 (by omega); have a3 := Z6.out.2.2.1.below hb7 (by omega); have k1 := a1.cell 0; have k2 := a2.cell 0; have k3 := a3.cell 0; have g1 := a1.frozen 0; have g2 := a2.frozen 0; have g3 := a3.frozen 0; have AA := Lib.hid (And.intro a1 (And.intro a2 a3)); clear a1 a2 a3)
        have hD7 := (hb7.block D (by omega)).trans hD6
        have hK' := (((KeepsOthers.setCell W7 ⟨w.heap.size + 1, 0, none⟩ (.int .i64 0)).trans (KeepsOthers.setCell _ ⟨w.heap.size + 1 + 1, 0, none⟩ (.bool false))).trans (KeepsOthers.setCell _ ⟨w.heap.size + 1 + 1 + 1, 0, none⟩ (.int .i64 21))).same D _ hD7 rfl
        refine ⟨by simp, .inl ⟨_, _, rfl, run_takeDeferred hK', ?_⟩⟩
        obtain ⟨a1, a2, a3⟩ := AA.out
        have q1 := ((a1.set_ 0 (.int .i64 0)).far (p := ⟨w.heap.size + 1 + 1, 0, none⟩) (by show w.heap.size + 1 ≠ w.heap.size + 1 + 1; omega) (.bool false)).far (p := ⟨w.heap.size + 1 + 1 + 1, 0, none⟩) (by show w.heap.size + 1 ≠ w.heap.size + 1 + 1 + 1; omega) (.int .i64 21)
        have q2 := ((a2.far (p := ⟨w.heap.size + 1, 0, none⟩) (by show w.heap.size + 1 + 1 ≠ w.heap.size + 1; omega) (.int .i64 0)).set_ 0 (.bool false)).far (p := ⟨w.heap.size + 1 + 1 + 1, 0, none⟩) (by show w.heap.size + 1 + 1 ≠ w.heap.size + 1 + 1 + 1; omega) (.int .i64 21)
        have q3 := ((a3.far (p := ⟨w.heap.size + 1, 0, none⟩) (by show w.heap.size + 1 + 1 + 1 ≠ w.heap.size + 1; omega) (.int .i64 0)).far (p := ⟨w.heap.size + 1 + 1, 0, none⟩) (by show w.heap.size + 1 + 1 + 1 ≠ w.heap.size + 1 + 1; omega) (.bool false)).set_ 0 (.int .i64 21)
        refine ⟨_, results_ccc rfl _ _ (w.heap.size + 1) (w.heap.size + 1 + 1) (w.heap.size + 1 + 1 + 1) (.int .i64 0) (.bool false) (.int .i64 21) rfl rfl rfl (load_int ((q1.put_other hK' rfl).cell 0)) (load_bool ((q2.put_other hK' rfl).cell 0)) (load_errno ((q3.put_other hK' rfl).cell 0)), ?_⟩
        have hB7 := hB6.trans (hb7.mono hB6.size)
        have hB8 := ((hB7.setCell (p := ⟨w.heap.size + 1, 0, none⟩) (by show w.heap.size ≤ w.heap.size + 1; omega) (.int .i64 0)).setCell (p := ⟨w.heap.size + 1 + 1, 0, none⟩) (by show w.heap.size ≤ w.heap.size + 1 + 1; omega) (.bool false)).setCell (p := ⟨w.heap.size + 1 + 1 + 1, 0, none⟩) (by show w.heap.size ≤ w.heap.size + 1 + 1 + 1; omega) (.int .i64 21)
        exact .inr (.inl ⟨e2, hfull, rfl, below_put1 hB8 (by omega) _⟩)
      · have PY := Lib.hid (iput_yes kd _ _ _ _ _ _ _ _ _ _ _ _ W6 hO (Nat.le_refl _) hrn H6 T.most hlim (by rw [hxl]; omega))
        obtain ⟨x, hx⟩ : ∃ x, encO kd (tW k ⟨kd, zs, m.b.length⟩ 0) zs [] = x := ⟨_, rfl⟩
        have hxB : AreB x := by rw [← hx]; exact encO_bytes hz
        rw [hx] at PY hxl
        obtain ⟨k1', k2', k3', k4'⟩ := T.link hkd hq2
        have hmost := T.most
        have SETC := Lib.hid (fun (W7 : World) (bv7 sv7 : Value) (h7 : IX W7 base (grow S W6 W7) p i k d f h (m.add x) bv7 sv7) => iset_yes (linkP d kd (bktN d f kd (hsh k zs)) (chainL k d f kd (bktN d f kd (hsh k zs)) l)) (m.b.length : Nat) W7 h7 (hbm.append hxB) (by show _ + 8 ≤ (m.b ++ x).length; rw [List.length_append]; omega) k2' (by omega) (by show (m.b ++ x).length ≤ _; rw [List.length_append, hxl]; omega) hN hwl (by show gnum (m.b ++ x) _ 8 = 0; rw [gnum_add k1']; exact k4'))
        have hlk : lkO q xs = linkP d kd (bktN d f kd (hsh k zs)) (chainL k d f kd (bktN d f kd (hsh k zs)) l) := by rw [← hq]; exact lkO_eq hxs HM.out
        rw [hlk] at Z6
        obtain ⟨lk, hlk2⟩ : ∃ lk, linkP d kd (bktN d f kd (hsh k zs)) (chainL k d f kd (bktN d f kd (hsh k zs)) l) = lk := ⟨_, rfl⟩
        have hres : (m.add (tO k ⟨kd, zs, m.b.length⟩ 0)).put8 lk (m.b.length : Nat) = (m.add x).put8 lk (m.b.length : Nat) := by rw [← hx]; rfl
        have HE := Lib.hid (And.intro hlk2 hres)
        rw [hlk2] at SETC Z6 k1' k2' k3' k4'
        have t1 := wrap_u64_of (x := m.b.length) (by omega) (by omega)
        obtain ⟨bl, hbl⟩ : ∃ bl, m.b.length = bl := ⟨_, rfl⟩
        have HL := Lib.hid hbl
        rw [hbl] at PY SETC t1
        have HF := Lib.hid (And.intro hfull e2)
        have hH := Lib.hid (And.intro H.foot H.bas)
        have hc6 := Lib.hid (Chg.of_below hB6 (Nat.le_refl _) S)
        clear hT hO hrn hx hxl hfine HZ hB4W hr4 hxs hne hfl hB hz hcap hn hrt hq1 hq2 hq hb0 hb1 hb2 hb3 hb4 hkd hxB k1' k2' k3' k4' hlk hlk2 hres hfull e2 hbl H H4 H6 T hbm hlim hmost
        have HBK := Lib.hid (show ∀ (W7 W8 : World) (g : Nat) (t : TypeId) (cs : Array Value), Chg S W6 W7 → Chg (grow S W6 W7) W7 W8 → w.heap.size ≤ g → Blk W6 g t cs → Blk W8 g t cs from fun W7 W8 g t cs c7 c8 hg hb => by
          have hlt := hb.lt
          have s7 := c7.size
          have hns : ¬ S g := fun e => by have := (hH.out.1 _ e).2; omega
          exact (c8.block g (by omega) (fun e => e.elim hns (fun e => by omega))).trans ((c7.block g hlt hns).trans hb))
        gi_wp2_with (first
          | (refine ⟨trivial, ?_⟩; gi_at_call 18; refine (callsIn_wide.2 PY.out).mono ?_; rintro e W7 ⟨rfl, h7⟩; have c7 := h7.1; have hs7 := c7.size; have al := (c7.block w2.heap.size (by omega) (fun hj => by have := (hH.out.1 _ hj).2; omega)).trans Z6.out.2.2.2; have kl := Blk.cell al 0; clear al)
          | (refine ⟨trivial, ?_⟩; gi_at_call 30; obtain ⟨-, bv7, sv7, i7⟩ := id h7; refine (callsIn_wide.2 (SETC.out _ _ _ i7)).mono ?_; clear i7; rintro e W8 ⟨rfl, h8⟩; have a1 := HBK.out W7 W8 _ _ _ c7 h8.1 (by omega) Z6.out.1; have a2 := HBK.out W7 W8 _ _ _ c7 h8.1 (by omega) Z6.out.2.1; have a3 := HBK.out W7 W8 _ _ _ c7 h8.1 (by omega) Z6.out.2.2.1; have k1 := a1.cell 0; have k2 := a2.cell 0; have k3 := a3.cell 0; have g1 := a1.frozen 0; have g2 := a2.frozen 0; have g3 := a3.frozen 0; have AA := Lib.hid (And.intro a1 (And.intro a2 a3)); clear a1 a2 a3))
        have hD8 : W8.heap[D]? = some (.deferred (some [])) := by
          have hns : ¬ S D := fun e => by have := (hH.out.1 _ e).2; omega
          exact (h8.1.block D (by omega) (fun e => e.elim hns (fun e => by omega))).trans ((c7.block D (by omega) hns).trans hD6)
        have hK' := (((KeepsOthers.setCell W8 ⟨w.heap.size + 1, 0, none⟩ (.int .i64 bl)).trans (KeepsOthers.setCell _ ⟨w.heap.size + 1 + 1, 0, none⟩ (.bool true))).trans (KeepsOthers.setCell _ ⟨w.heap.size + 1 + 1 + 1, 0, none⟩ (.int .i64 0))).same D _ hD8 rfl
        refine ⟨by simp, .inl ⟨_, _, rfl, run_takeDeferred hK', ?_⟩⟩
        obtain ⟨a1, a2, a3⟩ := AA.out
        have q1 := ((a1.set_ 0 (.int .i64 bl)).far (p := ⟨w.heap.size + 1 + 1, 0, none⟩) (by show w.heap.size + 1 ≠ w.heap.size + 1 + 1; omega) (.bool true)).far (p := ⟨w.heap.size + 1 + 1 + 1, 0, none⟩) (by show w.heap.size + 1 ≠ w.heap.size + 1 + 1 + 1; omega) (.int .i64 0)
        have q2 := ((a2.far (p := ⟨w.heap.size + 1, 0, none⟩) (by show w.heap.size + 1 + 1 ≠ w.heap.size + 1; omega) (.int .i64 bl)).set_ 0 (.bool true)).far (p := ⟨w.heap.size + 1 + 1 + 1, 0, none⟩) (by show w.heap.size + 1 + 1 ≠ w.heap.size + 1 + 1 + 1; omega) (.int .i64 0)
        have q3 := ((a3.far (p := ⟨w.heap.size + 1, 0, none⟩) (by show w.heap.size + 1 + 1 + 1 ≠ w.heap.size + 1; omega) (.int .i64 bl)).far (p := ⟨w.heap.size + 1 + 1, 0, none⟩) (by show w.heap.size + 1 + 1 + 1 ≠ w.heap.size + 1 + 1; omega) (.bool true)).set_ 0 (.int .i64 0)
        refine ⟨_, results_ccc rfl _ _ (w.heap.size + 1) (w.heap.size + 1 + 1) (w.heap.size + 1 + 1 + 1) (.int .i64 bl) (.bool true) (.int .i64 0) rfl rfl rfl (load_int ((q1.put_other hK' rfl).cell 0)) (load_bool ((q2.put_other hK' rfl).cell 0)) (load_errno ((q3.put_other hK' rfl).cell 0)), ?_⟩
        have hfin9 := add_end hH.out.1 hH.out.2 hc6.out h7 h8 (chg_put1 (chg_set1 (chg_set1 (chg_set1 (p := ⟨w.heap.size + 1, 0, none⟩) (Chg.refl _ W8) (by show w.heap.size ≤ w.heap.size + 1 ∧ w.heap.size + 1 < W6.heap.size; omega) (.int .i64 bl)) (p := ⟨w.heap.size + 1 + 1, 0, none⟩) (by show w.heap.size ≤ w.heap.size + 1 + 1 ∧ w.heap.size + 1 + 1 < W6.heap.size; omega) (.bool true)) (p := ⟨w.heap.size + 1 + 1 + 1, 0, none⟩) (by show w.heap.size ≤ w.heap.size + 1 + 1 + 1 ∧ w.heap.size + 1 + 1 + 1 < W6.heap.size; omega) (.int .i64 0)) (l := D) (by show w.heap.size ≤ D ∧ D < W6.heap.size; omega) (.deferred none))
        obtain ⟨g1, g2⟩ := HE.out
        refine .inr (.inr ⟨HF.out.2, Nat.le_of_not_lt HF.out.1, by rw [HL.out], ?_⟩)
        rw [g1, g2, HL.out]
        exact hfin9
  case stop =>
    rintro D cc pre W hD ⟨rest, hpre⟩ ⟨⟨⟨rfl, pre0, x, rfl, hne, hx⟩, hkw⟩, z1, z2, z3⟩ hK
    have e1 : findI ((pre0 ++ [x]).map (·.t)) zs = some x.t.j := by have := findI_snoc (rest := []) hne hx; rwa [List.append_nil] at this
    have e2 : findR l kd zs = some x.t.j := by rw [← hfd, ← hpre]; exact findI_snoc hne hx
    rw [e1] at z1
    gi_wp2
    refine ⟨by simp, .inl ⟨_, _, rfl, run_takeDeferred hK, ?_⟩⟩
    refine ⟨_, results_ccc rfl _ _ (w.heap.size + 1) (w.heap.size + 1 + 1) (w.heap.size + 1 + 1 + 1) _ (.bool false) (.int .i64 0) rfl rfl rfl (load_int ((z1.put_other hK rfl).cell 0)) (load_bool ((z2.put_other hK rfl).cell 0)) (load_errno ((z3.put_other hK rfl).cell 0)), ?_⟩
    exact .inl ⟨x.t.j, e2, rfl, hbw4.trans (keepC_to (keepC_put hkw hD _) (by omega) hbw4.size (fun j hj e => by omega))⟩
end

end Go.Proofs.Ytkaepikjklpmaaa
