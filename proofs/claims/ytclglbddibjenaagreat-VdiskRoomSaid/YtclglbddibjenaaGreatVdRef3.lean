/-
  LAYER 8: WHAT THE DOCUMENT'S OWN Create DOES: its contract; one more file in its row.
-/
import Derived.Test.YtclglbddibjenaaGreatVdRef2
import Derived.Test.YtclglbddibjenaaGreatVdFn8
set_option linter.unusedVariables false
set_option linter.unusedSimpArgs false
set_option maxRecDepth 100000
namespace Go.Proofs.YtclglbddibjenaaGreat
open Go.RowKit

theorem RF.new8 (w : World) (base : Nat) (hb : base ≤ w.heap.size) : RF (w.alloc (.cells #[.slice none 0 0, .slice none 0 0, .slice none 0 0] 64)) base (fun k => k = w.heap.size) w.heap.size FS.new (.slice none 0 0) (.slice none 0 0) (.slice none 0 0) [] :=
  ⟨fun k hk => by subst hk; simp; exact hb, by simp; omega, rfl, Blk.new _ _ _, World.ownsRow_nil _ _ _ _, World.ownsRow_nil _ _ _ _, World.ownsRow_nil _ _ _ _, fun j o ho => by simp [FS.new] at ho, fun g hg => by simp [Value.ownBlock] at hg, fun g hg => by simp [Value.ownBlock] at hg, fun g hg => by simp [Value.ownBlock] at hg, fun g hg => by simp [Value.ownBlock] at hg⟩
theorem rptrInfo : (Tryz.prog.info? 65).map (fun i => (i.zero, i.size, i.bytes)) = some (some (.pointer none), 1, 8) := by kernel_rfl
theorem rptr_one (r : Nat) : ∀ u ∈ [Value.pointer (some ⟨r, 0, none⟩)], u.oneCell' = true := fun u hu => by simp at hu; subst hu; rfl

section
variable {w w0 w' wb wc : World} {base q dq N r : Nat} {T U T0 Sn : Nat → Prop} {v x : VS} {os : OsL} {fv nv sv ov v' : Value} {SD SF : Nat → Prop} {qs : List Nat} {Ss : List (Nat → Prop)} {f : FS}

theorem ptrC_push : ptrC qs ++ [.pointer (some ⟨r, 0, none⟩)] = ptrC (qs ++ [r]) := by unfold ptrC; rw [List.map_append]; rfl
/-- One more file. -/
theorem RV.push (h : RV w base T q v dq fv nv sv ov SD SF qs Ss) (hb : Below w.heap.size w wb) (hrf : TF base wb Sn r f) (hSn : ∀ k, Sn k → w.heap.size ≤ k) (hg : wb.grownBy wc fv.ownBlock)
    (hown : wc.ownsRow base 65 1 v' (v.fs.length + 1) (ptrC qs ++ [.pointer (some ⟨r, 0, none⟩)])) (hat : v'.ownBlock = fv.ownBlock ∨ v'.ownBlock = some wb.heap.size) (hx : x = { v with fs := v.fs ++ [f] }) :
    Chg (fun k => fv.ownBlock = some k ∨ k = q) w (wc.setCell ⟨q, 1, none⟩ v') ∧ RV (wc.setCell ⟨q, 1, none⟩ v') base (grow T w (wc.setCell ⟨q, 1, none⟩ v')) q x dq v' nv sv ov SD (fun k => SF k ∨ Sn k) (qs ++ [r]) (Ss ++ [Sn]) := by
  subst hx
  have h1 := h.below hb
  have hqr := h.qr
  have lt : ∀ k, T k → k < w.heap.size := fun k hk => (h.foot k hk).2
  have hcg : Chg (fun k => fv.ownBlock = some k) wb wc := Chg.of_grown hg
  have hcq := chg_cell wc q 1 v'
  have hc3 : Chg (fun k => fv.ownBlock = some k ∨ k = q) wb (wc.setCell ⟨q, 1, none⟩ v') := (hcg.mono (fun _ _ e => .inl e)).trans hcq (fun _ _ e => .inr e)
  have hcw : Chg (fun k => fv.ownBlock = some k ∨ k = q) w (wc.setCell ⟨q, 1, none⟩ v') := (Chg.of_below hb (Nat.le_refl _) _).trans hc3 (fun _ _ e => e)
  have hct : Chg T w (wc.setCell ⟨q, 1, none⟩ v') := hcw.mono (fun k _ e => by
    rcases e with e | e
    · exact h.inr k e
    · rw [e]; exact h.inq)
  have hsb := hb.size
  have hs3 := hc3.size
  have snlt : ∀ k, Sn k → k < wb.heap.size := fun k hk => ((tfThing base).foot hrf k hk).2
  refine ⟨hcw, chg_lt h.foot hct h.bas, by have := h.bas; have := hcw.size; omega, ?_, h1.dir.keep hc3 (fun k hk e => ?_), ?_, ?_, .inl h.inq, fun g hg' => ?_, fun k hk => .inl (h.ind k hk), fun k hk => ?_, h.qd, fun hk => ?_, fun g hg' hd => ?_, fun g hg' hk => ?_, fun k hk hf => ?_⟩
  · exact (h1.blk.chg hcg (fun e => hqr e)).set_ 1 v'
  · rcases e with e | e
    · exact h.rd k e hk
    · exact h.qd (e ▸ hk)
  · show (wc.setCell ⟨q, 1, none⟩ v').ownsRow base _ 1 v' (v.fs ++ [f]).length _
    rw [List.length_append, List.length_singleton, ← ptrC_push]
    have hbq := h1.blk.chg hcg (fun e => hqr e)
    exact ownsRow_setCell_other hown (own_blk_ne hown hbq (by decide)) _
  · refine Pile.push (h1.pile.keep (tfThing base) hc3 (fun k hk e => ?_)) ((tfThing base).keep hrf hc3 (fun k hk e => ?_)) (fun k hk hf => ?_) (fun _ hk => .inl hk) (fun _ hk => .inr hk)
    · rcases e with e | e
      · exact h.rf k e hk
      · exact h.qf (e ▸ hk)
    · have := hSn k hk
      rcases e with e | e
      · have := lt k (h.inr k e); omega
      · have := lt q h.inq; omega
    · have := hSn k hk
      have := lt k (h.inf k hf); omega
  · rcases hat with e | e
    · exact .inl (h.inr g (by rw [← e]; exact hg'))
    · rw [hg'] at e; injection e with e; subst e
      have := (hown.lt _ hg').2
      exact .inr ⟨by omega, by rw [size_set]; exact this⟩
  · rcases hk with hk | hk
    · exact .inl (h.inf k hk)
    · have := snlt k hk
      exact .inr ⟨hSn k hk, by omega⟩
  · rcases hk with hk | hk
    · exact h.qf hk
    · have := hSn q hk; have := lt q h.inq; omega
  · rcases hat with e | e
    · exact h.rd g (by rw [← e]; exact hg') hd
    · rw [hg'] at e; injection e with e; subst e
      have := lt _ (h.ind _ hd); omega
  · rcases hat with e | e
    · have he : fv.ownBlock = some g := by rw [← e]; exact hg'
      rcases hk with hk | hk
      · exact h.rf g he hk
      · have := hSn g hk; have := lt g (h.inr g he); omega
    · rw [hg'] at e; injection e with e; subst e
      rcases hk with hk | hk
      · have := lt _ (h.inf _ hk); omega
      · have := snlt _ hk; omega
  · rcases hf with hf | hf
    · exact h.df k hk hf
    · have := hSn k hf; have := lt k (h.ind k hk); omega

set_option maxHeartbeats 2000000 in
theorem rvcreate_any (y : ByteArray) (h : RX w base T q v) (hg : GoodV v os N) (hN : N ≤ 1000) (hy : y.size ≤ 200) :
    Calls Tryz.prog 34 #[.pointer (some ⟨q, 0, none⟩), .string y] w fun e w' => e = .returned (.int .i64 (orStop v (doE v.d.now (createO v y)))) ∧ RXT w T base q (orTick v (v.tick.create y)) w' := by
  obtain ⟨dq, fv, nv, sv, ov, SD, SF, qs, Ss, hv⟩ := h
  have C := rvchange_any (RVT.start hv) hg.f0 hg.f1
  have hgt := hg.tick
  cases hs : v.stops with
  | true =>
    rw [orStop_yes hs, orTick_yes hs]
    rw [hs] at C
    have CH := Lib.hid C
    clear hv C hg hgt hs
    go_enter Tryz.func34, Tryz.ntmps34
    go_wp2_with (go_at_call 71; refine CH.out.mono ?_; rintro e w1 ⟨rfl, hx⟩; have HX := Lib.hid hx; clear hx)
    go_ret
    exact ⟨rfl, HX.out.x⟩
  | false =>
    rw [orStop_no hs, orTick_no hs]
    rw [hs] at C
    have CH := Lib.hid C
    have hcO : createO v y = createO v.tick y := by unfold createO; rw [tick_fs]
    obtain ⟨n, hn⟩ : ∃ n, n = v.tick.fs.length := ⟨_, rfl⟩
    have hn9 : n ≤ 1000 := by have := hgt.few; omega
    have hcO2 : createO v.tick y = ⟨0, y, ⟨#[]⟩, (n : Int)⟩ := by unfold createO; rw [hn]
    obtain ⟨Af, cf, rfl, hfc, hfm⟩ := own_form hv.row
    have hnv : v.fs.length = n := by rw [hn, tick_fs]
    rw [hnv] at hv C CH hfc
    have DO := Lib.hid (fun (w1 : World) (h1 : RVT w T w1 base q v.tick dq (.slice Af n cf) nv sv ov SD SF qs Ss) => (show Calls Tryz.prog 72 #[.pointer (some ⟨dq, 0, none⟩), .agg #[.int .i64 0, .string y, .string ⟨#[]⟩, .int .i64 (n : Int)]] w1 (fun e w' => e = .returned (.int .i64 (doE v.d.now (createO v y))) ∧ ∃ nv' sv' ov' SD', RVT w T w' base q { v.tick with d := doS v.tick.d (createO v.tick y) } dq (.slice Af n cf) nv' sv' ov' SD' SF qs Ss) by
      refine (rdo_any dq base N SD v.tick.d nv sv ov ⟨0, y, ⟨#[]⟩, (n : Int)⟩ w1 h1.rv.dir hgt.d (by omega) ⟨hy, (by show (0 : Nat) ≤ _; omega), wf_nat (by omega), .inl rfl⟩).mono ?_
      rintro e w' ⟨rfl, hc⟩
      obtain ⟨nv', sv', ov', h2⟩ := h1.turnDir hc
      rw [hcO2]
      exact ⟨by rw [hcO, hcO2, tick_d], nv', sv', ov', grow SD w1 w', h2⟩))
    have HC := Lib.hid (fun (w1 : World) (v1 : VS) (nv1 sv1 ov1 : Value) (SD1 : Nat → Prop) (h1 : RVT w T w1 base q v1 dq (.slice Af n cf) nv1 sv1 ov1 SD1 SF qs Ss) => (show w1.cell? ⟨q, 0, none⟩ = some (.pointer (some ⟨dq, 0, none⟩)) ∧ w1.cell? ⟨q, 1, none⟩ = some (.slice Af n cf) from ⟨h1.rv.cells.c0, h1.rv.cells.c1⟩))
    by_cases he : doE v.d.now (createO v y) = 0
    · have hcr : v.tick.create y = { v.tick with d := doS v.tick.d (createO v.tick y), fs := v.tick.fs ++ [FS.new] } := by unfold VS.create; rw [if_pos (by rw [← hcO, tick_d]; exact he)]
      rw [he] at DO ⊢
      obtain ⟨i0, hi, hz0, hz1, hz2⟩ := info_parts rptrInfo
      have HNN := Lib.hid hn
      have HCR := Lib.hid hcr
      have s2 : n + 1 ≤ maxLen := by unfold maxLen; omega
      have s3 : (n + 1) * 8 ≤ 140737488355328 := by omega
      clear hv C hg hgt hs hy hcO hcO2 he hcr hn hnv
      go_enter Tryz.func34, Tryz.ntmps34
      go_wp2_with (go_at_call 71; refine CH.out.mono ?_; rintro e w1 ⟨rfl, hx⟩; have HX := Lib.hid hx; clear hx)
      have HX2 := Lib.hid (HX.out.below (below_drewn (Below.refl _ _) 1))
      have k0 := HC.out _ _ _ _ _ _ HX2.out
      go_region_held3 (fun w' => w'.cell? ⟨q, 0, none⟩ = some (.pointer (some ⟨dq, 0, none⟩)) ∧ w'.cell? ⟨q, 1, none⟩ = some (.slice Af n cf))
        (first | assumption | exact k0)
        (first
          | (go_at_call 72; go_loud (refine (DO.out _ HX2.out).mono ?_; rintro e w2 ⟨rfl, nv', sv', ov', SD', hz⟩; have HY := Lib.hid hz; have k9 := HC.out _ _ _ _ _ _ hz; clear hz)))
      obtain ⟨k1, k2⟩ := HC.out _ _ _ _ _ _ HY.out
      have kf := HY.out.rv.cells.f1
      have hrow := HY.out.rv.row
      rw [show (VS.mk (doS v.tick.d (createO v.tick y)) v.tick.fs v.tick.room v.tick.fuse v.tick.armed v.tick.dead).fs.length = n from HNN.out.symm] at hrow
      have HROW := Lib.hid hrow
      have hql := HY.out.rv.blk.lt
      clear k9 k0 hrow
      go_wp2_with (at_builtin; go_loud (refine wpList_append_any _ rfl _ _ _ rfl base 65 i0 _ 1 8 Tryz.underlying46 hi hz0 hz1 hz2 rfl (Nat.zero_lt_succ 0) (.slice Af n cf) n _ rfl ((HROW.out.alloc _).alloc _) _ _ 1 1 [.pointer (some ⟨w2.heap.size, 0, none⟩)] rfl (newAt _ _ _ 1 _ rfl (by simp)) (rptr_one _) s2 s3 (by have := HY.out.rv.bas; simp; omega) ?_; intro v4 w4 hown4 hg4 hat4; obtain ⟨A4, c4, rfl, -, -⟩ := own_form hown4; obtain ⟨e1, e2⟩ : w4.cell? ⟨q, 1, none⟩ = some (.slice Af n cf) ∧ w4.frozen? ⟨q, 1, none⟩ = false := (by have hb := ((HY.out.rv.blk.alloc _).alloc _).chg (Chg.of_grown hg4) (fun e => HY.out.rv.qr e); exact ⟨hb.cell 1, hb.frozen 1⟩); have H4 := Lib.hid (And.intro hown4 (And.intro hg4 hat4)); clear hown4 hg4 hat4))
      go_ret
      refine ⟨rfl, ?_⟩
      have hpu := HY.out.rv.push (r := w2.heap.size) (Sn := fun k => k = w2.heap.size) (f := FS.new) (((Below.refl _ w2).alloc (Nat.le_refl _) _).alloc (by simp) _) ⟨_, _, _, _, (RF.new8 w2 base HY.out.rv.bas).below ((Below.refl _ _).alloc (Nat.le_refl _) _)⟩ (fun k hk => by have hk : k = w2.heap.size := hk; omega) H4.out.2.1 (by rw [show (VS.mk (doS v.tick.d (createO v.tick y)) v.tick.fs v.tick.room v.tick.fuse v.tick.armed v.tick.dead).fs.length = n from HNN.out.symm]; exact H4.out.1) H4.out.2.2 (x := v.tick.create y) HCR.out
      refine (HY.out.on (hpu.1.mono (fun k _ e => ?_)) hpu.2).x
      rcases e with e | e
      · exact HY.out.rv.inr k e
      · rw [e]; exact HY.out.rv.inq
    · obtain ⟨E, hE⟩ : ∃ E, E = doE v.d.now (createO v y) := ⟨_, rfl⟩
      rw [← hE] at he DO ⊢
      have hq : (E == 0) = false := by simpa using he
      have hEt : doE v.tick.d.now (createO v.tick y) ≠ 0 := by rw [← hcO, tick_d, ← hE]; exact he
      have hcr : v.tick.create y = v.tick := by unfold VS.create; rw [if_neg hEt]
      have hdd : { v.tick with d := doS v.tick.d (createO v.tick y) } = v.tick := by rw [doS_no hEt]
      rw [hcr]
      rw [hdd] at DO
      clear hv C hg hgt hs hy hcO hcO2 hn hn9 he hcr hdd hEt hE hnv
      go_enter Tryz.func34, Tryz.ntmps34
      go_wp2_with (go_at_call 71; refine CH.out.mono ?_; rintro e w1 ⟨rfl, hx⟩; have HX := Lib.hid hx; clear hx)
      have HX2 := Lib.hid (HX.out.below (below_drewn (Below.refl _ _) 1))
      have k0 := HC.out _ _ _ _ _ _ HX2.out
      go_region_held3 (fun w' => w'.cell? ⟨q, 0, none⟩ = some (.pointer (some ⟨dq, 0, none⟩)) ∧ w'.cell? ⟨q, 1, none⟩ = some (.slice Af n cf))
        (first | assumption | exact k0)
        (first
          | (go_at_call 72; go_loud (refine (DO.out _ HX2.out).mono ?_; rintro e w2 ⟨rfl, nv', sv', ov', SD', hz⟩; have HY := Lib.hid hz; have k9 := HC.out _ _ _ _ _ _ hz; clear hz)))
      go_wp2
      go_ret
      exact ⟨rfl, HY.out.x⟩
end

end Go.Proofs.YtclglbddibjenaaGreat
