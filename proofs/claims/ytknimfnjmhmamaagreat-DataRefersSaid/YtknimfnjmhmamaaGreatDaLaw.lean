/-
  LAYER 15: what the statements share: a fresh image; the items of a field, collected.
-/
import Derived.Test.YtknimfnjmhmamaaGreatDaRef2
import Derived.RangeFuncBox
set_option linter.unusedVariables false
set_option maxRecDepth 100000
set_option linter.unusedSimpArgs false
namespace Go.Proofs.YtknimfnjmhmamaaGreat
open Go.RowKit Go.Shelf
attribute [local go_sem] Oper.semAt_some

theorem nz_newB1 {k d f : Int} {j : Nat} (hj : 64 ≤ j) : nz (newB 0 k d f 0) j = 0 := by
  unfold newB
  rw [nz_append, encH_length, if_neg (by omega)]
  exact nz_of_all (fun z hz => (List.mem_replicate.1 hz).2) _

/-- The image that a statement begins with. -/
def freshM (lm : Nat) : IM := ⟨newB 0 3 4 2 0, newB 0 3 4 2 0, [], lm⟩
theorem freshM_len (lm : Nat) : (freshM lm).b.length = 304 := newB_length (k := 3) (d := 4) (f := 2) (by decide)
theorem freshM_good (lm : Nat) : (freshM lm).Good := IM.good_new (newB_bytes _ _ _ _ _) lm
theorem freshM_db (lm : Nat) : DB fldI 3 4 2 0 0 (freshM lm).b [] := DB.nothing (by decide) (by decide) (freshM_len lm) (fun j hj => nz_newB1 (by omega))
theorem dfresh_any {base : Nat} (lm : Nat) (w : World) (hbas : base ≤ w.heap.size) :
    Calls Tryz.prog 5 #[.int .i64 lm] w (IXnew base 0 3 4 2 0 (freshM lm) w) := by
  have NW := Lib.hid (fun G w1 (hb : base ≤ w1.heap.size) (ht : IsTable w1 G) => inew_yes (base := base) G 0 3 4 2 0 lm w1 (by decide) ht hb)
  go_enter Tryz.func5, Tryz.ntmps5
  go_wp2_with (first
    | (go_at_call 19; refine (crcMake_any _).mono ?_; rintro e w1 ⟨rfl, ht, hb1⟩; have HT := Lib.hid ht; clear ht)
    | (go_at_call 18; refine (NW.out _ _ (Nat.le_trans hbas hb1.size) HT.out).mono ?_; rintro e w2 ⟨p, bv, sv, rfl, hb2, H2⟩))
  go_ret
  exact ⟨p, bv, sv, rfl, hb1.trans (hb2.mono hb1.size), H2.mono (fun j hj => ⟨Nat.le_trans hb1.size hj.1, hj.2⟩) (fun j hj => ⟨Nat.le_trans hbas hj.1, hj.2⟩)⟩

/-- What a caller that collects texts holds between two rounds. -/
def CollK (B n₀ : Nat) (w : World) (fq : Nat → Prop) (pre : List (Nat × List Int)) (W : World) : Prop :=
  ∃ v, fq = fpR B v ∧ Boxed W B 22 v ∧ W.ownsRow n₀ 9 1 v (pre.map (fun x => strOfNums x.2)).length (cellsT (pre.map (fun x => strOfNums x.2))) ∧ KeepC n₀ (fun k => k = B) w W
theorem collK_own (B n₀ C : Nat) (w : World) (hC : n₀ ≤ C) (fq : Nat → Prop) : OwnFrom C (CollK B n₀ w fq) := by
  rintro pre W W' row ⟨v, e1, hv, hr, hb⟩ hg hrow
  obtain ⟨v2, h2, h3, h4⟩ := own_row n₀ B C 22 9 1 (fun s : List (Nat × List Int) => (s.map (fun x => strOfNums x.2)).length) (fun s => cellsT (s.map (fun x => strOfNums x.2))) pre W W' row ⟨v, hv, hr, trivial⟩ hg hrow
  have hvv : v2 = v := by
    have := hv.kept hg (fun e => by
      obtain ⟨-, o, ho, hc⟩ := hrow B e.symm
      rw [show W.heap[B]? = _ from hv] at ho; cases ho; cases hc)
    have h5 : some (Obj.cells #[v2] 22 (0, 0)) = some (Obj.cells #[v] 22 (0, 0)) := (show W'.heap[B]? = _ from h2).symm.trans this
    simp at h5
    exact h5
  subst hvv
  exact ⟨v2, e1, h2, h3, keepC_grown hb hC hg (fun r e => (hrow r e).1)⟩

theorem results_c1 {P : Program} {fn : Func} {p : Tmp} {tp : TypeId} (h : fn.results = #[.cell p tp]) (tmps : Array Value) (w : World) (g1 : Nat) (v1 : Value)
    (hp : tmps.getD p undef = .pointer (some ⟨g1, 0, none⟩)) (h1 : (loadVar tp ⟨g1, 0, none⟩).run P w = .ok v1 w) :
    (results fn tmps).run P w = .ok v1 w := by
  have hp' : tmps[p]?.getD undef = .pointer (some ⟨g1, 0, none⟩) := by simpa using hp
  simp [results, h, hp', asAddr, h1]
theorem load_strs {w : World} {g n c : Nat} {A : Option Addr} (h : w.cell? ⟨g, 0, none⟩ = some (.slice A n c)) : (loadVar 22 ⟨g, 0, none⟩).run Tryz.prog w = .ok (.slice A n c) w := by simp [go_sem, h]

section
variable {base p : Nat} {S : Nat → Prop} {i k d f h : Int} {m : IM} {bv sv : Value} {l : List GO}

theorem DB.findG_mem {fld : List Int → List Int} (D : DB fld k d f 0 0 m.b l) {o : GO} (ho : o ∈ l) (hk : o.k = 1) : findG l 1 o.raw = some o.at_ := by
  cases hc : findG l 1 o.raw with
  | none => exact absurd rfl (findG_none hc o ho hk)
  | some a =>
    obtain ⟨q, hq, q1, q2, q3⟩ := findG_some hc
    have := D.uniq q hq o ho (q1.trans hk.symm) (.inl q1) q2
    subst this
    rw [q3]
theorem DB.valsG_fine (D : DB fldI k d f 0 0 m.b l) {fs : List Int} {x : Nat × List Int} (hx : x ∈ valsG l fs) : AreB x.2 ∧ x.2.length ≤ 1024 ∧ findG l 1 x.2 = some x.1 := by
  obtain ⟨o, ho, rfl⟩ := List.mem_map.1 hx
  obtain ⟨h1, h2⟩ := List.mem_filter.1 ho
  have hk := (pFld_iff.1 h2).1.1
  have hf := (D.gb.fine o h1).1
  exact ⟨hf.by_, (rightN_len hf.right).2.1, D.findG_mem h1 hk⟩

set_option maxHeartbeats 4000000 in
theorem lvalues_any (s : ByteArray) (w : World) (D : DB fldI k d f 0 0 m.b l) (H : IX w base S p i k d f h m bv sv) (hbm : AreB m.b) (hk : IsU k) (hss : s.size ≤ 140737488355328) (hmany : (valsG l (nums s)).length ≤ 900) :
    Calls Tryz.prog 17 #[.pointer (some ⟨p, 0, none⟩), .string s] w (Tells ((valsG l (nums s)).map (fun x => strOfNums x.2)) w) := by
  obtain ⟨L, hL⟩ : ∃ L, valsG l (nums s) = L := ⟨_, rfl⟩
  have hfine : ∀ x ∈ L, AreB x.2 ∧ x.2.length ≤ 1024 ∧ findG l 1 x.2 = some x.1 := fun x hx => D.valsG_fine (by rw [hL]; exact hx)
  rw [hL] at hmany
  obtain ⟨w0, hw0⟩ : ∃ w0, ((w.alloc (.cells #[.pointer (some ⟨p, 0, none⟩)] 26)).alloc (.cells #[.slice none 0 0] 22)).alloc (.cells #[.slice none 0 0] 22) = w0 := ⟨_, rfl⟩
  have hb0 : Below w.heap.size w w0 := by rw [← hw0]; exact ((boxed _ _).alloc (boxed _ _).size _).alloc ((boxed _ _).alloc (boxed _ _).size _).size _
  have hsz : w0.heap.size = w.heap.size + 1 + 1 + 1 := by rw [← hw0]; simp
  have x0 : Blk w0 w.heap.size 26 #[.pointer (some ⟨p, 0, none⟩)] := by rw [← hw0]; exact ((Blk.new w _ _).alloc _).alloc _
  have x1 : Blk w0 (w.heap.size + 1) 22 #[.slice none 0 0] := by rw [← hw0]; have := (Blk.new (w.alloc (.cells #[.pointer (some ⟨p, 0, none⟩)] 26)) 22 #[.slice none 0 0]); rw [World.size_alloc] at this; exact this.alloc _
  have x2 : Blk w0 (w.heap.size + 1 + 1) 22 #[.slice none 0 0] := by rw [← hw0]; have := (Blk.new ((w.alloc (.cells #[.pointer (some ⟨p, 0, none⟩)] 26)).alloc (.cells #[.slice none 0 0] 22)) 22 #[.slice none 0 0]); rw [World.size_alloc, World.size_alloc] at this; exact this
  have c0 := x0.cell 0
  have VA := Lib.hid (values_any p s w0)
  have X := Lib.hid (And.intro x0 (And.intro x1 x2))
  have HSZ := Lib.hid (And.intro hb0 hsz)
  clear x0 x1 x2 hb0 hsz
  refine (callsIn_wide (n := 9)).1 ?_
  refine callsIn_of_wp_marks Tryz.func17 rfl trivial ?_ rfl
  simp only [Tryz.ntmps17, List.size_toArray, List.length_cons, List.length_nil, Nat.reduceAdd, Nat.reduceSub, Array.replicate_succ, Array.replicate_zero, List.push_toArray, List.append_toArray, List.nil_append, List.cons_append]
  have FN := fun w f a lb => func_nil Tryz.underlying73 w f a lb
  gi_wp2_with (refine ⟨trivial, ?_⟩; gi_at_call 37; refine (callsIn_wide.2 VA.out).mono ?_; rintro e w2 ⟨rfl, hb2, hvl⟩)
  obtain ⟨hb0, hsz⟩ := HSZ.out
  obtain ⟨x0, x1, x2⟩ := X.out
  have hs2 := hb2.size
  have hlo := hvl.lo
  obtain ⟨g0, hg0⟩ : ∃ g0, w.heap.size = g0 := ⟨_, rfl⟩
  obtain ⟨gv, hgv⟩ : ∃ gv, w0.heap.size = gv := ⟨_, rfl⟩
  have hbw2 : Below w.heap.size w w2 := hb0.trans (hb2.mono hb0.size)
  have H2 := H.below hbw2
  have y0 := x0.below hb2 (by omega)
  have y1 := x1.below hb2 (by omega)
  have y2 : Boxed w2 (w.heap.size + 1 + 1) 22 (.slice none 0 0) := x2.below hb2 (by omega)
  have hft := H.foot
  rw [hg0] at y0 y1 y2 hbw2 hft hsz hb0
  rw [hgv] at hvl hlo hs2 hsz hb2
  have hsz1 : g0 + 3 ≤ gv ∧ gv ≤ g0 + 3 := by omega
  clear hsz
  have hseq := values_F 8 (by omega) (fpR (g0 + 1 + 1) (.slice none 0 0)) gv s w2 D H2 hbm hk hss (fun j hj => ⟨(H2.foot j hj).2, fun e => by
    have := (hft j hj).2
    rcases e with e | e
    · omega
    · cases e⟩) hvl ⟨fun e => e.elim (fun e => by omega) (fun e => by cases e), fun e => e.elim (fun e => by omega) (fun e => by cases e)⟩ L hL.symm
  have HFD := Lib.hid (fun (W : World) (z : List Int) (hz : AreB z ∧ z.length ≤ 1024 ∧ ∃ a, findG l 1 z = some a) (hW : KeepC w2.heap.size (fun k => k = g0 + 1 + 1) w2 W) => dfind_any (strOfNums z) W D (H2.keep hW (fun j hj e => by
    have h1 := (H2.foot j hj).2
    have h2 := (hft j hj).2
    rcases e with e | e <;> omega)) hbm hk (by rw [strOfNums_size]; omega))
  clear X VA x0 x1 x2 HSZ H
  rw [hg0]
  try simp only [hgv]
  refine wp_range_F (F := Fence.wide) (n := 9) rfl (by omega) (gf := 67) (lb := vlB gv) rfl trivial (enters_of Tryz.func67 (by kernel_rfl) rfl) hseq
      (fun k hk => by rcases hk with rfl | hk; · omega
                      · cases hk)
      (fun fp pre x => tellsV_own L _ fp pre x) (fun _ => rfl)
      (fun fq pre W => CollK (g0 + 1 + 1) w2.heap.size w2 fq pre W)
      (fun c pre W => False)
      (fun fq => collK_own _ _ _ _ (Nat.le_refl _) fq)
      (fun c => own_never)
      ⟨_, rfl, y2, World.ownsRow_nil _ _ _ _, Chg.refl _ _⟩
      (fun x a' W => a' = { tmps := #[.pointer (some ⟨p, 0, none⟩), .string s, .pointer (some ⟨g0, 0, none⟩), undef, .pointer (some ⟨g0 + 1, 0, none⟩), .pointer (some ⟨g0 + 1 + 1, 0, none⟩), vlV gv, .int .i64 x.1, .string (strOfNums x.2), undef, undef, .pointer (some ⟨p, 0, none⟩), .string s, vlV gv, vlV gv, .bool false, vlV gv, .int .i64 x.1, .string (strOfNums x.2), undef, undef, undef, undef, undef, undef, undef, undef, undef, undef, undef, undef, undef, undef, undef, undef, undef, undef], defers := [] })
      (fun x a' _ W W' row hs hg hr => hs)
      ?assign ?body ?done ?stop
  case assign =>
    intro l2 x W K hW hK
    dsimp only [itE]
    gi_wp2
    exact hK _ _ (Below.refl _ _) rfl
  case body =>
    rintro l2 fp fq pre x W ⟨v, rfl, hv, hrow, hkW⟩ hok hfp hpl ⟨rest, hrest⟩ - a' rfl
    obtain ⟨i0, hi, hz0, hz1, hz2⟩ := info_parts strInfo
    obtain ⟨hx1, hx2, hx3⟩ := hfine x (by rw [← hrest]; simp)
    have FD := HFD.out W x.2 ⟨hx1, hx2, _, hx3⟩ hkW
    rw [nums_str hx1, hx3] at FD
    have FD2 : Hid (Calls Tryz.prog 38 #[.pointer (some ⟨p, 0, none⟩), .string (strOfNums x.2)] W fun e w' => e = .returned (.tuple #[.int .i64 (x.1 : Nat), .bool true]) ∧ Below W.heap.size W w') := Lib.hid FD
    have hml : (pre.map (fun x => strOfNums x.2)).length ≤ 1001 := by
      rw [List.length_map]
      have := congrArg List.length hrest
      rw [List.length_append] at this
      omega
    have z0 := (keepC_blk y0 hkW (by omega) (by omega)).cell 0
    obtain ⟨xs, hxs⟩ : ∃ xs, pre.map (fun x => strOfNums x.2) = xs := ⟨_, rfl⟩
    rw [hxs] at hrow hml
    have s2 := sm1 hml
    have s3 := sm2 hml
    have HW := Lib.hid (show ∀ w9, Below W.heap.size W w9 → Boxed w9 (g0 + 1 + 1) 22 v ∧ w9.ownsRow w2.heap.size 9 1 v xs.length (cellsT xs) from fun w9 hb9 => ⟨(Blk.below (t := 22) (cs := #[v]) hv hb9 hv.lt), own_below hrow hb9⟩)
    obtain ⟨sx, hsx⟩ : ∃ sx, strOfNums x.2 = sx := ⟨_, rfl⟩
    have HX := Lib.hid (And.intro hxs hsx)
    obtain ⟨xa, hxa⟩ : ∃ xa, x.1 = xa := ⟨_, rfl⟩
    rw [hsx, hxa] at FD2 ⊢
    obtain ⟨A1, c1, rfl, -, -⟩ := own_form hrow
    have HR := Lib.hid (And.intro hrow hkW)
    have hsW := hkW.size
    clear FD hrow hv hkW hrest hx1 hx2 hx3 hxs hsx hxa HFD
    gi_wp2_with (first
      | (refine ⟨trivial, ?_⟩; gi_at_call 38; refine (CallsIn.inRound l2 (callsIn_wide.2 FD2.out)).mono ?_; rintro e w9 ⟨rfl, hb9⟩; obtain ⟨hv9, hrow9⟩ := HW.out w9 hb9; have cv := hv9.cell)
      | (gi_at_builtin; refine wpListIn_append_at _ rfl _ _ 22 rfl w2.heap.size 9 i0 (.string ⟨#[]⟩) 1 16 Tryz.underlying22 hi hz0 hz1 hz2 rfl (by decide) _ _ _ rfl (hrow9.alloc _) _ _ 1 1 [.string sx] rfl (newT w9 _ _) (strOne _) s2 s3 (by have := hb9.size; simp; omega) ?_; intro v' w1 hown' hgrow hat; obtain ⟨g', cap', rfl⟩ := ownsRow_succ hown'; obtain ⟨hv1, hv2, hr2, hg2⟩ := appendedF hv9 (by decide) hrow9 hown' hgrow hat; have hc1 := hv1.cell; have hf1 := hv1.frozen))
    have hG := (GrowF.below hok hb9).trans hg2
    refine ⟨_, ⟨_, rfl, hv2, ?_, keepC_t HR.out.2 (hG.1.mono fun q _ hq => ?_)⟩, hG⟩
    · rw [List.map_append, HX.out.1, show [x].map (fun x => strOfNums x.2) = [sx] by rw [← HX.out.2]; rfl, List.length_append, cellsT_append]
      exact hr2
    · rcases hq with rfl | hq
      · exact .inr rfl
      · exact .inl (HR.out.1.lt q hq).1
  case done =>
    rintro D2 fq xs W hD hxs ⟨v, rfl, hv, hrow, hkW⟩ hK
    have cv := hv.cell
    have z1 := keepC_blk y1 hkW (by omega) (by omega)
    have k1 := z1.cell 0
    have f1 := z1.frozen 0
    have hxe : xs = L := hxs
    subst hxe
    obtain ⟨ys, hys⟩ : ∃ ys, xs.map (fun x => strOfNums x.2) = ys := ⟨_, rfl⟩
    rw [hys] at hrow
    obtain ⟨A1, c1, rfl, -, -⟩ := own_form hrow
    have HZ := Lib.hid z1
    have HYS := Lib.hid hys
    have HR := Lib.hid (And.intro hrow hkW)
    have hsW := hkW.size
    clear z1 hys hrow hkW
    gi_wp2
    have hK' := (KeepsOthers.setCell W ⟨g0 + 1, 0, none⟩ (.slice A1 ys.length c1)).same D2 _ hK rfl
    refine ⟨by simp, .inl ⟨_, _, rfl, run_takeDeferred hK', ?_⟩⟩
    have q1 := HZ.out.set_ 0 (.slice A1 ys.length c1)
    refine ⟨_, results_c1 rfl _ _ (g0 + 1) (.slice A1 ys.length c1) rfl (load_strs ((q1.put_other hK' rfl).cell 0)), ?_⟩
    have hne : (Value.slice A1 ys.length c1).ownBlock ≠ some (g0 + 1) := fun e => by have := (HR.out.1.lt _ e).1; omega
    have hbF : Below g0 w ((W.setCell ⟨g0 + 1, 0, none⟩ (.slice A1 ys.length c1)).putObj D2 (.deferred none)) := below_put1 ((hbw2.trans (keepC_to HR.out.2 (by omega) (by omega) (fun j hj e => by omega))).setCell (p := ⟨g0 + 1, 0, none⟩) (by show g0 ≤ g0 + 1; omega) _) (by omega) _
    have hown : ((W.setCell ⟨g0 + 1, 0, none⟩ (.slice A1 ys.length c1)).putObj D2 (.deferred none)).ownsRow g0 9 1 (.slice A1 ys.length c1) ys.length (cellsT ys) := own_base (ownsRow_putObj (HR.out.1.kept (grownBy_setCell' W (g0 + 1) _) (.inr (fun e => hne e))) _ hK' rfl) (by omega)
    rw [hL, HYS.out]
    have hOT : OwnT w ((W.setCell ⟨g0 + 1, 0, none⟩ (.slice A1 ys.length c1)).putObj D2 (.deferred none)) (.slice A1 ys.length c1) ys := ⟨by rw [hg0]; exact hown, by rw [hg0]; exact hbF⟩
    exact hOT.tells (fun sz hsz => by
      rw [← HYS.out] at hsz
      obtain ⟨x, hx, rfl⟩ := List.mem_map.1 hsz
      have := (hfine x hx).2.1
      rw [strOfNums_size]
      unfold maxLen; omega)
  case stop =>
    rintro D2 cc pre W hD hp hf hK
    exact hf.elim
end

end Go.Proofs.YtknimfnjmhmamaaGreat
