/-
  LAYER 8: WHAT Create DOES: its contract.
-/
import Derived.Test.YtclglbddibjenaaGreatVdFn7
set_option linter.unusedVariables false
set_option linter.unusedSimpArgs false
set_option maxRecDepth 100000
namespace Go.Proofs.YtclglbddibjenaaGreat
open Go.RowKit Go.Shelf Go.Maps

/-- A file has been made. -/
structure FNew (w w' : World) (base q : Nat) : Prop where
  below : Below w.heap.size w w'
  cf : ∃ nv sv qv, CF w' base (fun k => k = w.heap.size) q FS.new nv sv qv
theorem fnew_ex (w : World) (base : Nat) (hb : base ≤ w.heap.size) : Calls Tryz.prog 65 #[] w fun e w' => ∃ q, e = .returned (.pointer (some ⟨q, 0, none⟩)) ∧ Hid (FNew w w' base q) :=
  (fnew_any w).mono fun e w' ⟨he, hw⟩ => ⟨w.heap.size, he, Lib.hid (by rw [hw.out]; exact ⟨(Below.refl _ _).alloc (Nat.le_refl _) _, _, _, _, CF.new w base hb⟩)⟩
/-- 'm[k] = f', its run. -/
theorem FMap.store {w : World} {b n : Nat} {look : Int → Option Nat} (h : FMap w b n look) (hn : n < 1000000) (i : Int) (hi : (Lit.int .i64 i).wf = true) (p : Nat) :
    ∃ w', (Instr.mapUpdate 56 (.map (some b)) (.int .i64 i) (.pointer (some ⟨p, 0, none⟩))).run Tryz.prog w = .ok () w' ∧ FMap w' b (n + 1) (fun j => if j = i then some p else look j) ∧ Chg (fun k => k = b) w w' := by
  obtain ⟨D, hown, ht⟩ := h
  have him := hown.isMap
  obtain ⟨w', hrun, r1, r2⟩ := hown.store intKeyed Tryz.underlying56 (by unfold maxLen; omega) (keyI_key hi) (ptrE_mk p)
  exact ⟨w', hrun, ⟨_, r1, ht.put him i p⟩, (Chg.of_grown r2.grown).mono (fun k _ e => by injection e with e; exact e.symm)⟩

section
variable {w w0 w' wN w2 : World} {base p dp mb bn bs N q : Nat} {T U T0 Sn : Nat → Prop} {v v' : VS} {os : OsL} {pv nv sv qv : Value} {SD SF : Nat → Prop} {ps : List Nat} {Ss : List (Nat → Prop)}

theorem lookP_push (hl : ps.length = os.length) (f : FS) (i : Int) : lookP (ps ++ [q]) (os ++ [some f]) i = if i = (os.length : Int) then some q else lookP ps os i := by
  by_cases h0 : 0 ≤ i
  · obtain ⟨k, rfl⟩ : ∃ k : Nat, i = k := ⟨i.toNat, by omega⟩
    rcases Nat.lt_trichotomy k os.length with h | h | h
    · rw [if_neg (by omega)]
      unfold lookP
      rw [if_pos (by omega), if_pos (by omega), Int.toNat_natCast, List.getElem?_append_left h, List.getElem?_append_left (by omega)]
    · subst h
      rw [if_pos rfl, lookP_of (f := f) (by rw [List.getElem?_append_right (Nat.le_refl _)]; simp), ← hl, List.getElem?_append_right (Nat.le_refl _)]
      simp
    · rw [if_neg (by omega), lookP_none (.inr (List.getElem?_eq_none (by simp; omega))), lookP_none (.inr (List.getElem?_eq_none (by omega)))]
  · rw [if_neg (by omega), lookP_neg (by omega), lookP_neg (by omega)]
/-- One more file. -/
theorem VDT.create (h : VDT w0 T0 w base p v os dp mb bn bs pv SD SF ps Ss) (hb : Below w.heap.size w wN) (hcf : CF wN base Sn q FS.new nv sv qv) (hSn : ∀ k, Sn k → w.heap.size ≤ k)
    (hm : FMap w2 mb (os.length + 1) (fun j => if j = (os.length : Int) then some q else lookP ps os j)) (hc : Chg (fun k => k = mb) wN w2) (hv : v'.d = v.d ∧ v'.room = v.room ∧ v'.fuse = v.fuse ∧ v'.armed = v.armed ∧ v'.dead = v.dead) :
    VDT w0 T0 (w2.setCell ⟨p, 2, none⟩ (.int .i64 ((os.length + 1 : Nat) : Int))) base p v' (os ++ [some FS.new]) dp mb bn bs pv SD (fun k => SF k ∨ Sn k) (ps ++ [q]) (Ss ++ [Sn]) := by
  have h1 := h.vd.below hb
  have hpm := h.vd.pm
  have hplt := (h.vd.foot p h.vd.inp).2
  have hmlt := (h.vd.foot mb h.vd.inm).2
  obtain ⟨e1, e2, e3, e4, e5⟩ := hv
  have hcp := chg_cell w2 p 2 (.int .i64 ((os.length + 1 : Nat) : Int))
  have hc2 : Chg (fun k => k = mb ∨ k = p) wN (w2.setCell ⟨p, 2, none⟩ (.int .i64 ((os.length + 1 : Nat) : Int))) := (hc.mono (fun _ _ e => .inl e)).trans hcp (fun _ _ e => .inr e)
  have hcT : Chg (grow T0 w0 w) w (w2.setCell ⟨p, 2, none⟩ (.int .i64 ((os.length + 1 : Nat) : Int))) := (Chg.of_below hb (Nat.le_refl _) _).trans hc2 (fun k _ hk => by
    rcases hk with rfl | rfl
    · exact h.vd.inm
    · exact h.vd.inp)
  have hnew : ∀ k, Sn k → k < (w2.setCell ⟨p, 2, none⟩ (.int .i64 ((os.length + 1 : Nat) : Int))).heap.size := fun k hk => by have := (hcf.foot k hk).2; have := hc2.size; omega
  refine h.on hcT ⟨chg_lt h.vd.foot hcT h.vd.bas, by have := hcT.size; have := h.vd.bas; omega, ?_, by rw [e1]; exact h1.dir.keep hc2 (fun k hk hh => by rcases hh with rfl | rfl; exact h.vd.md hk; exact h.vd.pd hk), ?_, ?_, .inl h.vd.inp, .inl h.vd.inm, fun k hk => .inl (h.vd.ind k hk), fun k hk => ?_, h.vd.pd, fun hk => ?_, h.vd.md, fun hk => ?_, fun k hk hf => ?_⟩
  · have hbl := (h1.blk.chg hc (fun e => hpm e.symm)).set_ 2 (.int .i64 ((os.length + 1 : Nat) : Int))
    unfold diskC at hbl ⊢
    rw [e2, e3, e4, e5, List.length_append]
    exact hbl
  · rw [List.length_append]
    exact (hm.chg hcp hpm).congr (lookP_push h.vd.pile.lenP _)
  · refine Pile.push (h1.pile.keep (ofThing base) hc2 (fun k hk hh => ?_)) (f := some FS.new) ⟨nv, sv, qv, hcf.keep hc2 (fun k hk hh => ?_)⟩ (fun k hk hf => ?_) (fun _ hk => .inl hk) (fun _ hk => .inr hk)
    · rcases hh with rfl | rfl
      · exact h.vd.mf hk
      · exact h.vd.pf hk
    · have := hSn k hk
      rcases hh with rfl | rfl <;> omega
    · have := hSn k hk
      have := (h.vd.foot k (h.vd.inf k hf)).2
      omega
  · rcases hk with hk | hk
    · exact .inl (h.vd.inf k hk)
    · exact .inr ⟨hSn k hk, hnew k hk⟩
  · rcases hk with hk | hk
    · exact h.vd.pf hk
    · have := hSn p hk; omega
  · rcases hk with hk | hk
    · exact h.vd.mf hk
    · have := hSn mb hk; omega
  · rcases hf with hf | hf
    · exact h.vd.df k hk hf
    · have := hSn k hf
      have := (h.vd.foot k (h.vd.ind k hk)).2
      omega

set_option maxHeartbeats 2000000 in
theorem vcreate_any (x : ByteArray) (h : VX w base T p v os) (hg : GoodV v os N) (hN : N ≤ 1000) (hx : x.size ≤ 200) :
    Calls Tryz.prog 27 #[.pointer (some ⟨p, 0, none⟩), .string x] w fun e w' => e = .returned (.int .i64 (orStop v (doE v.d.now (createO v x)))) ∧ VOut w T base p (orTick v (v.tick.create x)) (N + 1) w' := by
  obtain ⟨dp, mb, bn, bs, pv, SD, SF, ps, Ss, hv⟩ := h
  have C := vchange_any (VDT.start hv) hg.f0 hg.f1
  have hgt := hg.tick
  cases hs : v.stops with
  | true =>
    rw [orStop_yes hs, orTick_yes hs]
    rw [stopE_yes hs] at C
    have CH := Lib.hid C
    have HG := Lib.hid hgt
    clear hv C hg hgt hs
    go_enter Tryz.func27, Tryz.ntmps27
    go_wp2_with (go_at_call 50; refine CH.out.mono ?_; rintro e w1 ⟨rfl, hx⟩; have HX := Lib.hid hx; clear hx)
    go_ret
    exact ⟨rfl, HX.out.vout (HG.out.more (Nat.le_succ _))⟩
  | false =>
    rw [orStop_no hs, orTick_no hs]
    rw [stopE_no hs] at C
    have CH := Lib.hid C
    have hlen : os.length = v.tick.fs.length := hgt.len
    have hcO : createO v x = createO v.tick x := by unfold createO; rw [tick_fs]
    obtain ⟨n, hn⟩ : ∃ n, n = os.length := ⟨_, rfl⟩
    have hn9 : n ≤ 1000 := by have := hgt.few; omega
    have hcO2 : createO v.tick x = ⟨0, x, ⟨#[]⟩, (n : Int)⟩ := by unfold createO; rw [hn, hlen]
    have DC := Lib.hid (fun (w1 : World) (h1 : VDT w T w1 base p v.tick os dp mb bn bs pv SD SF ps Ss) => (show Calls Tryz.prog 64 #[.pointer (some ⟨dp, 0, none⟩), .string x, .int .i64 (n : Int)] w1 (fun e w' => e = .returned (.int .i64 (doE v.d.now (createO v x))) ∧ ∃ bn' bs' pv' SD', VDT w T w' base p { v.tick with d := doS v.tick.d (createO v.tick x) } os dp mb bn' bs' pv' SD' SF ps Ss) by
      refine (dcreate_any dp base N SD v.tick.d bn bs pv x ⟨#[]⟩ n w1 h1.vd.dir hgt.d (by omega) hx (by show (0 : Nat) ≤ _; omega) (wf_nat (by omega))).mono ?_
      rintro e w' ⟨rfl, hc⟩
      obtain ⟨bn', bs', pv', h2⟩ := h1.turnDir hc
      rw [hcO2]
      exact ⟨by rw [hcO, hcO2, tick_d], bn', bs', pv', grow SD w1 w', h2⟩))
    have HC2 := Lib.hid (fun (w1 : World) (v1 : VS) (bn1 bs1 : Nat) (pv1 : Value) (SD1 : Nat → Prop) (h1 : VDT w T w1 base p v1 os dp mb bn1 bs1 pv1 SD1 SF ps Ss) => (show w1.cell? ⟨p, 0, none⟩ = some (.pointer (some ⟨dp, 0, none⟩)) ∧ w1.cell? ⟨p, 2, none⟩ = some (.int .i64 n) from ⟨h1.vd.cells.c0, by rw [hn]; exact h1.vd.cells.c2⟩))
    by_cases he : doE v.d.now (createO v x) = 0
    · have hcr : v.tick.create x = { v.tick with d := doS v.tick.d (createO v.tick x), fs := v.tick.fs ++ [FS.new] } := by unfold VS.create; rw [if_pos (by rw [← hcO, tick_d]; exact he)]
      have hgc := hgt.create hx (by omega) (by rw [← hcO, tick_d]; exact he)
      rw [← hcr] at hgc
      have HG := Lib.hid hgc
      rw [he] at DC ⊢
      have MS := Lib.hid (fun (w2 : World) (bn' bs' : Nat) (pv' : Value) (SD' : Nat → Prop) (h2 : VDT w T w2 base p { v.tick with d := doS v.tick.d (createO v.tick x) } os dp mb bn' bs' pv' SD' SF ps Ss) =>
        (show w2.cell? ⟨p, 1, none⟩ = some (.map (some mb)) ∧ w2.cell? ⟨p, 2, none⟩ = some (.int .i64 n) ∧ Hid (∀ (wN : World) (q : Nat), FNew w2 wN base q → (wN.cell? ⟨p, 1, none⟩ = some (.map (some mb)) ∧ wN.cell? ⟨p, 2, none⟩ = some (.int .i64 n)) ∧ ∃ w3, (Instr.mapUpdate 56 (.map (some mb)) (.int .i64 (n : Int)) (.pointer (some ⟨q, 0, none⟩))).run Tryz.prog wN = .ok () w3 ∧ (w3.cell? ⟨p, 1, none⟩ = some (.map (some mb)) ∧ w3.cell? ⟨p, 2, none⟩ = some (.int .i64 n)) ∧ w3.frozen? ⟨p, 2, none⟩ = false ∧ Hid (VOut w T base p (v.tick.create x) (N + 1) (w3.setCell ⟨p, 2, none⟩ (.int .i64 ((n + 1 : Nat) : Int))))) from by
        refine ⟨h2.vd.cells.c1, by rw [hn]; exact h2.vd.cells.c2, Lib.hid (fun wN q hf => ?_)⟩
        have hN2 := h2.below hf.below
        obtain ⟨w3, hrun, hm, hc⟩ := FMap.store hN2.vd.map (by omega) (n : Int) (wf_nat (by omega)) q
        obtain ⟨nv, sv, qv, hcf⟩ := hf.cf
        rw [hn] at hm
        have hX := h2.create (v' := v.tick.create x) hf.below hcf (fun k hk => by have hk : k = w2.heap.size := hk; omega) hm hc (by rw [hcr]; exact ⟨rfl, rfl, rfl, rfl, rfl⟩)
        have hb3 := hN2.vd.blk.chg hc (fun e => hN2.vd.pm e.symm)
        exact ⟨⟨hN2.vd.cells.c1, by rw [hn]; exact hN2.vd.cells.c2⟩, w3, hrun, ⟨(diskCells hb3).c1, by rw [hn]; exact (diskCells hb3).c2⟩, (diskCells hb3).f2, Lib.hid (by rw [hn]; exact hX.vout hgc)⟩))
      have FN := Lib.hid (fun (w2 : World) (hb : base ≤ w2.heap.size) => fnew_ex w2 base hb)
      have n1 : IntKind.i64.wrap ((n : Int) + 1) = ((n + 1 : Nat) : Int) := by rw [IntKind.wrap_i64]; omega
      clear hv C hg hgt hs hx hlen hcO hcO2 hn hn9 he hcr hgc
      go_enter Tryz.func27, Tryz.ntmps27
      go_wp2_with (go_at_call 50; refine CH.out.mono ?_; rintro e w1 ⟨rfl, hx⟩; have HX := Lib.hid hx; clear hx)
      have HX2 := Lib.hid (HX.out.below (below_drewn (Below.refl _ _) 1))
      have k0 := HC2.out _ _ _ _ _ _ HX2.out
      go_region_held3 (fun w' => w'.cell? ⟨p, 0, none⟩ = some (.pointer (some ⟨dp, 0, none⟩)) ∧ w'.cell? ⟨p, 2, none⟩ = some (.int .i64 n))
        (first | assumption | exact k0)
        (first
          | (go_at_call 64; go_loud (refine (DC.out _ HX2.out).mono ?_; rintro e w2 ⟨rfl, bn', bs', pv', SD', hy⟩; have HY := Lib.hid hy; have k9 := HC2.out _ _ _ _ _ _ hy; clear hy)))
      go_wp2
      have HY2 := Lib.hid (HY.out.below (below_drewn (Below.refl _ _) 1))
      have hbs := HY2.out.vd.bas
      obtain ⟨k1, k2, HMS⟩ := MS.out _ _ _ _ _ HY2.out
      go_region_held3 (fun w' => w'.cell? ⟨p, 1, none⟩ = some (.map (some mb)) ∧ w'.cell? ⟨p, 2, none⟩ = some (.int .i64 n))
        (first | assumption | exact ⟨k1, k2⟩)
        (first
          | (go_at_call 65; go_loud (refine (FN.out _ hbs).mono ?_; rintro e wN ⟨q, rfl, hf⟩; obtain ⟨k3, w3, hrun, k4, f2, HZ⟩ := HMS.out wN q hf.out; clear hf)))
      go_wp2
      go_ret
      exact ⟨rfl, HZ.out⟩
    · obtain ⟨E, hE⟩ : ∃ E, E = doE v.d.now (createO v x) := ⟨_, rfl⟩
      rw [← hE] at he DC ⊢
      have hq : (E == 0) = false := by simpa using he
      have hEt : doE v.tick.d.now (createO v.tick x) ≠ 0 := by rw [← hcO, tick_d, ← hE]; exact he
      have hcr : v.tick.create x = v.tick := by unfold VS.create; rw [if_neg hEt]
      have hdd : { v.tick with d := doS v.tick.d (createO v.tick x) } = v.tick := by rw [doS_no hEt]
      rw [hcr]
      rw [hdd] at DC
      have HG := Lib.hid (hgt.more (Nat.le_succ _))
      clear hv C hg hgt hs hx hlen hcO hcO2 hn hn9 he hcr hdd hEt hE
      go_enter Tryz.func27, Tryz.ntmps27
      go_wp2_with (go_at_call 50; refine CH.out.mono ?_; rintro e w1 ⟨rfl, hx⟩; have HX := Lib.hid hx; clear hx)
      have HX2 := Lib.hid (HX.out.below (below_drewn (Below.refl _ _) 1))
      have k0 := HC2.out _ _ _ _ _ _ HX2.out
      go_region_held3 (fun w' => w'.cell? ⟨p, 0, none⟩ = some (.pointer (some ⟨dp, 0, none⟩)) ∧ w'.cell? ⟨p, 2, none⟩ = some (.int .i64 n))
        (first | assumption | exact k0)
        (first
          | (go_at_call 64; go_loud (refine (DC.out _ HX2.out).mono ?_; rintro e w2 ⟨rfl, bn', bs', pv', SD', hy⟩; have HY := Lib.hid hy; have k9 := HC2.out _ _ _ _ _ _ hy; clear hy)))
      go_wp2
      go_ret
      exact ⟨rfl, HY.out.vout HG.out⟩
end

end Go.Proofs.YtclglbddibjenaaGreat
