/-
  LAYER 13: WHAT Find OF PACKAGE table DOES: a contract.
-/
import Derived.Test.YtkaepikjklpmaaaTabRange
set_option linter.unusedVariables false
set_option maxRecDepth 100000
set_option linter.unusedSimpArgs false
namespace Go.Proofs.Ytkaepikjklpmaaa
open Go.RowKit Go.Shelf
attribute [local go_sem] Oper.semAt_some

section
variable {base p : Nat} {S : Nat → Prop} {i k d f h : Int} {m : IM} {bv sv : Value}

set_option maxHeartbeats 4000000 in
theorem tfind_any {B : Nat} {l : List TRow} (kd : Nat) (hkd : kd = 1 ∨ kd = 2) (A : Option Addr) (n c : Nat) (zs : List Int) (w : World) (H : IX w base S p i k d f h m bv sv) (hbm : AreB m.b) (hk : IsU k) (T : TB k d f m.b l) (hr : Reads w B 1 A n (cellsOf .u8 zs)) (hB : B ≤ w.heap.size) (hz : AreB zs) (hl : n ≤ c) (hcap : c ≤ 9223372036854775807) (hn : n ≤ 140737488355328) :
    Calls Try.prog 15 #[.pointer (some ⟨p, 0, none⟩), .int .i64 kd, .slice A n c] w fun e w' => e = .returned (.tuple #[.int .i64 ((findR l kd zs).getD 0 : Nat), .bool (findR l kd zs).isSome]) ∧ Below w.heap.size w w' := by
  obtain ⟨w0, hw0⟩ : ∃ w0, ((w.alloc (.cells #[.slice A n c] 39)).alloc (.cells #[.int .i64 0] 3)).alloc (.cells #[.bool false] 4) = w0 := ⟨_, rfl⟩
  have hb0 : Below w.heap.size w w0 := by rw [← hw0]; exact (((Below.refl _ w).alloc (Nat.le_refl _) _).alloc (by simp) _).alloc (by simp; omega) _
  have hsz : w0.heap.size = w.heap.size + 1 + 1 + 1 := by rw [← hw0]; simp
  have x0 : Blk w0 w.heap.size 39 #[.slice A n c] := by rw [← hw0]; exact ((Blk.new w _ _).alloc _).alloc _
  have x1 : Blk w0 (w.heap.size + 1) 3 #[.int .i64 0] := by rw [← hw0]; have := (Blk.new (w.alloc (.cells #[.slice A n c] 39)) 3 #[.int .i64 0]); rw [World.size_alloc] at this; exact this.alloc _
  have x2 : Blk w0 (w.heap.size + 1 + 1) 4 #[.bool false] := by rw [← hw0]; have := (Blk.new ((w.alloc (.cells #[.slice A n c] 39)).alloc (.cells #[.int .i64 0] 3)) 4 #[.bool false]); rw [World.size_alloc, World.size_alloc] at this; exact this
  have c0 := x0.cell 0
  have hsU := hsh_isU k zs
  have SU := Lib.hid (tsum_any A n c zs w0 (H.below hb0) hk (hr.below (hb0.mono hB)) (Nat.le_trans hB hb0.size) hz hl hcap hn)
  have AL := Lib.hid (fun w1 (hb : Below w0.heap.size w0 w1) => tall_any kd hkd (hsh k zs) w1 (H.below (hb0.trans (hb.mono hb0.size))) hbm hsU T.hD T.hF)
  have X := Lib.hid (And.intro x0 (And.intro x1 x2))
  have HX := Lib.hid hr
  clear x0 x1 x2 hr
  refine (callsIn_wide (n := 9)).1 ?_
  refine callsIn_of_wp_marks Try.func15 rfl trivial ?_ rfl
  simp only [Try.ntmps15, List.size_toArray, List.length_cons, List.length_nil, Nat.reduceAdd, Nat.reduceSub, Array.replicate_succ, Array.replicate_zero, List.push_toArray, List.append_toArray, List.nil_append, List.cons_append]
  gi_wp2_with (first
    | (refine ⟨trivial, ?_⟩; gi_at_call 13; refine (callsIn_wide.2 SU.out).mono ?_; rintro e w1 ⟨rfl, hb1⟩)
    | (refine ⟨trivial, ?_⟩; gi_at_call 26; refine (callsIn_wide.2 (AL.out _ hb1)).mono ?_; rintro e w2 ⟨g, rfl, hb2, hg, hfl⟩))
  have hb02 : Below w0.heap.size w0 w2 := hb1.trans (hb2.mono hb1.size)
  have hbw2 : Below w.heap.size w w2 := hb0.trans (hb02.mono hb0.size)
  have H2 := H.below hbw2
  obtain ⟨X0, X1, X2⟩ := X.out
  have y0 := X0.below hb02 (by omega)
  have y1 := X1.below hb02 (by omega)
  have y2 := X2.below hb02 (by omega)
  have hs2 := hb02.size
  have hs1 := hb1.size
  have hr2 : Reads w2 B 1 A n (cellsOf .u8 zs) := HX.out.below (hbw2.mono hB)
  obtain ⟨hq1, hq2⟩ := bktN_eq T.hD T.hF (kd := kd) hsU
  obtain ⟨its, hch, hmap⟩ := T.chain hkd hq2
  have hfin := chain_fine hbm hch
  have hfd := find_bucket hq1 hmap
  have hword : IsU (m.word (tb d kd + 8 * bktN d f kd (hsh k zs) : Nat)) := by
    have h8 := linked_isU (T.chains kd hkd _ hq2) (fun r hr' => by have := T.fine r (mem_chain hr').1; have := T.most; omega)
    exact h8
  have hgl := hfl.lo
  clear X X0 X1 X2 HX SU AL c0
  refine wp_range_tellsH (F := Fence.wide) (n := 9) rfl (by omega) (gf := 38) (lb := #[.pointer (some ⟨g + 3, 0, none⟩), .pointer (some ⟨g + 2, 0, none⟩), .pointer (some ⟨g + 1, 0, none⟩), .pointer (some ⟨g, 0, none⟩)]) rfl trivial (enters_of Try.func38 (by kernel_rfl) rfl)
    (follow_tells 8 (by omega) w2.heap.size (fun _ => False) (g + 3) (g + 2) (g + 1) g kd 1 _ its w2 H2 hbm T.most T.hD T.hF (fun j hj => ⟨(H2.foot j hj).2, fun e => e⟩) ⟨by omega, by omega, by omega, by omega, Nat.le_refl _⟩ ⟨id, id, id, id⟩ hfl.cw hfl.ck hfl.cp hfl.cm
      (by rcases hkd with rfl | rfl <;> decide) hword hch)
    keepC_t (keepC_b (Nat.le_refl _)) (fun pre x W l o o' _ hl ho hx => hx.put hl ho) (Below.refl _ _) (fun _ => rfl)
    (fun pre W => (∀ y ∈ pre, y.t.rs ≠ zs) ∧ KeepC w2.heap.size (fun _ => False) w2 W)
    (fun c pre W => ((c = .ret ∧ ∃ pre0 x, pre = pre0 ++ [x] ∧ (∀ y ∈ pre0, y.t.rs ≠ zs) ∧ x.t.rs = zs) ∧ KeepC w2.heap.size (fun k => k = w.heap.size + 1 ∨ k = w.heap.size + 1 + 1) w2 W) ∧ Blk W (w.heap.size + 1) 3 #[.int .i64 ((findI (pre.map (·.t)) zs).getD 0 : Nat)] ∧ Blk W (w.heap.size + 1 + 1) 4 #[.bool true])
    (own_keepC (Nat.le_refl _) _)
    (fun c => OwnFrom.and (own_keepC (Nat.le_refl _) _) (OwnFrom.and (own_blkOf (by omega) _) (own_blkOf (by omega) _)))
    ⟨by simp, Chg.refl _ _⟩
    (fun x a' W => ∃ b, Blk W b 54 #[.int .i64 kd, .slice x.A x.n x.c, .slice x.B x.m x.d, .slice x.C x.p x.q] ∧ w2.heap.size ≤ b ∧ a' = { tmps := #[.pointer (some ⟨p, 0, none⟩), .int .i64 kd, .slice A n c, undef, undef, .pointer (some ⟨w.heap.size, 0, none⟩), .pointer (some ⟨w.heap.size + 1, 0, none⟩), .pointer (some ⟨w.heap.size + 1 + 1, 0, none⟩), .int .i64 x.t.j, .pointer (some ⟨b, 0, none⟩), .pointer (some ⟨p, 0, none⟩), .int .i64 kd, .pointer (some ⟨p, 0, none⟩), .slice A n c, .int .u64 (hsh k zs), flV g, .int .i64 x.t.j, x.v kd, undef, undef, undef, undef, undef], defers := [] })
    (fun x a' W l o o' _ hl ho ⟨b, h1, h2, h3⟩ => ⟨b, h1.put_other hl ho, h2, h3⟩)
    ?assign ?body ?done ?stop
  case assign =>
    intro l pre x W K hi hpx hK
    dsimp only [Ob.encs, Ob.v, obV]
    gi_wp2
    exact hK _ _ (KeepsOthers.alloc _ _) (keepC_below (boxed _ _)) ⟨hi.1, keepC_t hi.2 (keepC_below (boxed _ _))⟩ (hpx.alloc _) ⟨W.heap.size, Blk.new _ _ _, hi.2.size, rfl⟩
  case body =>
    rintro l pre x W ⟨hne, hkw⟩ _ hpx a' ⟨b, hbx, hbn, rfl⟩
    have b2 := hbx.cell 2
    have r0 := (keepC_blk y0 hkw (by omega) id).cell 0
    have z1 := keepC_blk y1 hkw (by omega) id
    have z2 := keepC_blk y2 hkw (by omega) id
    have k1 := z1.cell 0
    have k2 := z2.cell 0
    have f1 := z1.frozen 0
    have f2 := z2.frozen 0
    have hxm := hfin x.t hpx.mem
    have BQ := Lib.hid (beq_any x.B A x.m n x.d c x.t.rs zs W hpx.2.rr (reads_keepC hr2 hkw (by omega) (by omega) (fun _ _ => id)) hxm.1 hz)
    have Z := Lib.hid (And.intro z1 z2)
    clear z1 z2
    gi_wp2_with (refine ⟨trivial, ?_⟩; gi_at_call 27; refine (CallsIn.inRound l (callsIn_wide.2 BQ.out)).mono ?_; rintro e w9 ⟨rfl, rfl⟩)
    · rename_i hx
      have hx' : x.t.rs = zs := by simpa using hx
      have e1 : findI ((pre ++ [x]).map (·.t)) zs = some x.t.j := by have := findI_snoc (rest := []) hne hx'; rwa [List.append_nil] at this
      refine ⟨(KeepsOthers.setCell _ _ _).trans (KeepsOthers.setCell _ _ _), ⟨⟨rfl, pre, x, rfl, hne, hx'⟩, keepC_set (keepC_set (keepC_mono hkw (fun _ e => e.elim)) (.inr (.inl rfl)) _) (.inr (.inr rfl)) _⟩, ?_, ?_⟩
      · rw [e1]; exact (Z.out.1.set_ 0 _).far (by show w.heap.size + 1 ≠ w.heap.size + 1 + 1; omega) _
      · exact (Z.out.2.far (by show w.heap.size + 1 + 1 ≠ w.heap.size + 1; omega) _).set_ 0 _
    · rename_i hx
      have hx' : ¬ x.t.rs = zs := by simpa using hx
      exact ⟨KeepsOthers.refl _, Chg.refl _ _, fun y hy => (List.mem_append.1 hy).elim (hne y) (fun e => by rw [List.mem_singleton.1 e]; exact hx'), hkw⟩
  case done =>
    rintro D xs W hD hxs ⟨hne, hkw⟩ hK
    have z1 := keepC_blk y1 hkw (by omega) id
    have z2 := keepC_blk y2 hkw (by omega) id
    have k1 := z1.cell 0
    have k2 := z2.cell 0
    have f1 := z1.frozen 0
    have f2 := z2.frozen 0
    have Z := Lib.hid (And.intro z1 z2)
    have e2 : findR l kd zs = none := by rw [← hfd, ← hxs]; exact findI_all hne
    clear z1 z2
    gi_wp2
    have hK' := ((KeepsOthers.setCell W ⟨w.heap.size + 1, 0, none⟩ (.int .i64 0)).trans (KeepsOthers.setCell _ ⟨w.heap.size + 1 + 1, 0, none⟩ (.bool false))).same D _ hK rfl
    refine ⟨by simp, .inl ⟨_, _, rfl, run_takeDeferred hK', ?_⟩⟩
    have q1 : Blk ((W.setCell ⟨w.heap.size + 1, 0, none⟩ (.int .i64 0)).setCell ⟨w.heap.size + 1 + 1, 0, none⟩ (.bool false)) (w.heap.size + 1) 3 #[.int .i64 0] := (Z.out.1.set_ 0 _).far (by show w.heap.size + 1 ≠ w.heap.size + 1 + 1; omega) _
    have q2 : Blk ((W.setCell ⟨w.heap.size + 1, 0, none⟩ (.int .i64 0)).setCell ⟨w.heap.size + 1 + 1, 0, none⟩ (.bool false)) (w.heap.size + 1 + 1) 4 #[.bool false] := (Z.out.2.far (by show w.heap.size + 1 + 1 ≠ w.heap.size + 1; omega) _).set_ 0 _
    refine ⟨_, results_cc rfl _ _ (w.heap.size + 1) (w.heap.size + 1 + 1) (.int .i64 0) (.bool false) rfl rfl (load_int ((q1.put_other hK' rfl).cell 0)) (load_bool ((q2.put_other hK' rfl).cell 0)), ?_, ?_⟩
    · rw [e2]; rfl
    · exact hbw2.trans (keepC_to (T := fun k => k = w.heap.size + 1 ∨ k = w.heap.size + 1 + 1) (keepC_put (keepC_set (keepC_set (keepC_mono hkw (fun _ e => e.elim)) (.inr (.inl rfl)) _) (.inr (.inr rfl)) _) hD _) (by omega) hbw2.size (fun j hj e => by omega))
  case stop =>
    rintro D cc pre W hD ⟨rest, hpre⟩ ⟨⟨⟨rfl, pre0, x, rfl, hne, hx⟩, hkw⟩, z1, z2⟩ hK
    have e1 : findI ((pre0 ++ [x]).map (·.t)) zs = some x.t.j := by have := findI_snoc (rest := []) hne hx; rwa [List.append_nil] at this
    have e2 : findR l kd zs = some x.t.j := by rw [← hfd, ← hpre]; exact findI_snoc hne hx
    rw [e1] at z1
    gi_wp2
    refine ⟨by simp, .inl ⟨_, _, rfl, run_takeDeferred hK, ?_⟩⟩
    refine ⟨_, results_cc rfl _ _ (w.heap.size + 1) (w.heap.size + 1 + 1) _ (.bool true) rfl rfl (load_int ((z1.put_other hK rfl).cell 0)) (load_bool ((z2.put_other hK rfl).cell 0)), ?_, ?_⟩
    · rw [e2]; rfl
    · exact hbw2.trans (keepC_to (keepC_put hkw hD _) (by omega) hbw2.size (fun j hj e => by omega))
end

end Go.Proofs.Ytkaepikjklpmaaa
