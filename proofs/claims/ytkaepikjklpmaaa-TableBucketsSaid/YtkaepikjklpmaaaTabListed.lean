/-
  LAYER 13: what the statements' listed tells: the objects of a bucket, as rows.
-/
import Derived.Test.YtkaepikjklpmaaaTabMid2
import Derived.RangeFuncBox
set_option linter.unusedVariables false
set_option maxRecDepth 100000
set_option linter.unusedSimpArgs false
namespace Go.Proofs.Ytkaepikjklpmaaa
open Go.RowKit Go.Shelf
attribute [local go_sem] Oper.semAt_some

theorem appendedC {W w1 : World} {n₀ B : Nat} {t e : TypeId} {size : Nat} {v v' : Value} {k m : Nat} {xs ys : List Value} {tmp : Obj}
    (hv : Boxed W B t v) (hte : t ≠ e) (hrow : W.ownsRow n₀ e size v k xs) (hn₀ : n₀ ≤ W.heap.size) (hown' : w1.ownsRow n₀ e size v' m ys) (hgrow : (W.alloc tmp).grownBy w1 v.ownBlock) :
    Boxed w1 B t v ∧ Boxed (w1.setCell ⟨B, 0, none⟩ v') B t v' ∧ (w1.setCell ⟨B, 0, none⟩ v').ownsRow n₀ e size v' m ys ∧ KeepsOthers W (w1.setCell ⟨B, 0, none⟩ v') ∧ KeepC n₀ (fun k => k = B) W (w1.setCell ⟨B, 0, none⟩ v') := by
  obtain ⟨h1, h2, -, h4, -⟩ := Boxed.appended hv hte (own_base hrow (Nat.zero_le _)) (Nat.zero_le _) (Nat.zero_le _) (own_base hown' (Nat.zero_le _)) hgrow
  refine ⟨h1, h2, hown'.kept (grownBy_setCell' w1 B v') (.inr (h1.not_row hte hown').symm), h4, ?_⟩
  have hs := hgrow.size
  have hsa : (W.alloc tmp).heap.size = W.heap.size + 1 := World.size_alloc _ _
  have h9 : KeepC n₀ (fun k => k = B) W w1 := ⟨hgrow.os, hgrow.tape, hgrow.output, by omega, fun j hj hn => (hgrow.block j (by omega) (fun e => hn (.inl (hrow.lt j e.symm).1))).trans (Below.heap_alloc _ _ _ hj)⟩
  exact keepC_set (p := ⟨B, 0, none⟩) h9 (.inr rfl) v'

theorem run_equalIn_func_nil {P : Program} (w : World) (d : Nat) (t : TypeId) {a1 : Array TypeId} {a2 : Array TypeId} {a3 : Bool} (f : Fn) (a lb : Array Value) (h : P.underlying t = some (.func a1 a2 a3)) :
    (Op.equalIn (d + 1) t (.func f a lb) .nilFunc).run P w = .ok false w := by
  simp [Op.equalIn, run_underlying h]
theorem func_not_nil (w : World) (f : Fn) (a lb : Array Value) : (binOp .eql 56 (.func f a lb) .nilFunc).run Try.prog w = .ok (.bool false) w := by
  simp only [binOp]
  simp [Op.equal, Op.maxDepth, run_equalIn_func_nil w 9999 _ f a lb Try.underlying56]
theorem own_falseL {β : Type} {B : Nat} : OwnFrom B (fun (_ : β) (_ : World) => False) := fun s W W' row hs _ _ => hs

theorem rowCell (w : World) (t : TypeId) (a b c : Value) : ∀ (j : Nat) (u : Value), [a, b, c][j]? = some u → (w.alloc (.cells #[a, b, c] t)).cell? ((⟨w.heap.size, 0, none⟩ : Addr).add j) = some u := by
  intro j u hj
  obtain ⟨ad, e, -, hc⟩ := (rowNew w t a b c).2 (by omega)
  injection e with e
  subst e
  exact hc j u hj

/-- A row of what is told. -/
def rowI (t : It) : TRow := ⟨1, t.rs, t.j⟩

theorem ownI {β : Type} (n₀ B C : Nat) (t e : TypeId) (size : Nat) (k : β → Nat) (f : β → List Value) : OwnFrom C (fun (s : β) (W : World) => ∃ v, Boxed W B t v ∧ W.ownsRow n₀ e size v (k s) (f s) ∧ True) := Own.from (holdsRow_own n₀ B t e size k f (fun _ _ => True)) _

section
variable {w : World} {p kd : Nat} {sum : Int}

set_option maxHeartbeats 8000000 in
theorem listed_gen {gf : Nat} {its : List It} (hFg : Fence.wide.fn gf) (eg : ∀ args w, (callFunc gf args).run Try.prog w = .ok (.enter gf args) w) (hlen : its.length ≤ 900) (hits : ∀ t ∈ its, AreB t.rs)
    (hAll : ∀ w1, Below w.heap.size w w1 → w.heap.size < w1.heap.size → Calls Try.prog 26 #[.pointer (some ⟨p, 0, none⟩), .int .i64 kd, .int .u64 sum] w1 fun e w2 => ∃ lb, e = .returned (.func (.func gf) #[] lb) ∧ Below w1.heap.size w1 w2 ∧
      SeqTells Fence.wide 8 Try.prog gf lb (Ob.encs 1) (TellsOb its) (KeepC w2.heap.size (fun k => k = w.heap.size)) (fun xs => xs.map (·.t) = its) (fun pre => ∃ rest, pre.map (·.t) ++ rest = its) its.length w2) :
    Calls Try.prog 17 #[.pointer (some ⟨p, 0, none⟩), .int .i64 kd, .int .u64 sum] w fun e w' => ∃ v, e = .returned v ∧ w'.ownsRow w.heap.size 45 3 v its.length (cellsR (its.map rowI)) ∧ Below w.heap.size w w' := by
  obtain ⟨w0, hw0⟩ : ∃ w0, w.alloc (.cells #[.slice none 0 0] 30) = w0 := ⟨_, rfl⟩
  have hb0 : Below w.heap.size w w0 := by rw [← hw0]; exact boxed _ _
  have hsz : w0.heap.size = w.heap.size + 1 := by rw [← hw0]; simp
  have x0 : Boxed w0 w.heap.size 30 (.slice none 0 0) := by rw [← hw0]; exact Boxed.new w _ _
  have AL := Lib.hid (hAll w0 hb0 (by omega))
  have X := Lib.hid x0
  clear x0 hAll
  refine (callsIn_wide (n := 9)).1 ?_
  refine callsIn_of_wp_marks Try.func17 rfl trivial ?_ rfl
  simp only [Try.ntmps17, List.size_toArray, List.length_cons, List.length_nil, Nat.reduceAdd, Nat.reduceSub, Array.replicate_succ, Array.replicate_zero, List.push_toArray, List.append_toArray, List.nil_append, List.cons_append]
  have FN := func_not_nil
  gi_wp2_with (refine ⟨trivial, ?_⟩; gi_at_call 26; refine (callsIn_wide.2 AL.out).mono ?_; rintro e w2 ⟨lb, rfl, hb2, hseq⟩)
  have hs2 := hb2.size
  have y0 : Boxed w2 w.heap.size 30 (.slice none 0 0) := (Blk.below (t := 30) (cs := #[.slice none 0 0]) X.out hb2 (by omega))
  have hbw2 : Below w.heap.size w w2 := hb0.trans (hb2.mono hb0.size)
  clear X AL
  refine wp_range_tellsH (F := Fence.wide) (n := 9) rfl (by omega) (gf := gf) (lb := lb) rfl hFg eg
      hseq keepC_t (keepC_b (Nat.le_refl _)) (fun pre x W l o o' _ hl ho hx => hx.put hl ho) (Below.refl _ _) (fun _ => rfl)
      (fun pre W => (True ∧ KeepC w2.heap.size (fun k => k = w.heap.size) w2 W) ∧ ∃ v, Boxed W w.heap.size 30 v ∧ W.ownsRow w2.heap.size 45 3 v pre.length (cellsR ((pre.map (·.t)).map rowI)) ∧ True)
      (fun c pre W => False)
      (OwnFrom.and (own_keepC (Nat.le_refl _) _) (ownI _ _ _ _ _ _ _ _))
      (fun c => own_falseL)
      ⟨⟨trivial, Chg.refl _ _⟩, _, y0, World.ownsRow_nil _ _ _ _, trivial⟩
      (fun x a' W => ∃ b, Blk W b 54 #[.int .i64 1, .slice x.A x.n x.c, .slice x.B x.m x.d, .slice x.C x.p x.q] ∧ w2.heap.size ≤ b ∧ a' = { tmps := #[.pointer (some ⟨p, 0, none⟩), .int .i64 kd, .int .u64 sum, undef, undef, undef, .slice none 0 0, .pointer (some ⟨w.heap.size, 0, none⟩), .func (.func gf) #[] lb, .int .i64 x.t.j, .pointer (some ⟨b, 0, none⟩), .pointer (some ⟨p, 0, none⟩), .int .i64 kd, .int .u64 sum, .func (.func gf) #[] lb, .func (.func gf) #[] lb, .bool false, .func (.func gf) #[] lb, .int .i64 x.t.j, x.v 1, undef, undef, undef, undef, undef, undef, undef, undef, undef, undef, undef], defers := [] })
      (fun x a' W l o o' _ hl ho ⟨b, h1, h2, h3⟩ => ⟨b, h1.put_other hl ho, h2, h3⟩)
      ?assign ?body ?done ?stop
  case assign =>
    intro l pre x W K hi hpx hK
    dsimp only [Ob.encs, Ob.v, obV]
    gi_wp2
    obtain ⟨hi1, v, hv1, hv2, -⟩ := hi
    exact hK _ _ (KeepsOthers.alloc _ _) (keepC_below (boxed _ _)) ⟨⟨trivial, keepC_t hi1.2 (keepC_below (boxed _ _))⟩, v, hv1.alloc _, hv2.alloc _, trivial⟩ (hpx.alloc _) ⟨W.heap.size, Blk.new _ _ _, hi1.2.size, rfl⟩
  case body =>
    rintro l pre x W ⟨⟨-, hkw⟩, v, hv, hrow, -⟩ hpl hpx a' ⟨b, hbx, hbn, rfl⟩
    obtain ⟨i0, hi, hz0, hz1, hz2⟩ := info_parts rowInfo
    have b0 := hbx.cell 0
    have b2 := hbx.cell 2
    have cv := hv.cell
    have hW := hkw.size
    have hlie := hpx.2
    have hrs := hits x.t hpx.mem
    have hct : (convert 39 9 (.slice x.B x.m x.d)).run Try.prog W = .ok (.string (strOfNums x.t.rs)) W := run_text _ _ _ Try.underlying39 Try.underlying5 Try.underlying9 hlie.rr x.d
    have s1 := sr1 (m := pre.length) (by omega)
    have s2 := sr2 (m := pre.length) (by omega)
    obtain ⟨A1, c1, rfl, -, -⟩ := own_form hrow
    gi_wp2_with (gi_at_builtin; refine wpListIn_append_own _ rfl _ _ 30 rfl w2.heap.size 45 i0 (.agg #[.int .i64 0, .string ⟨#[]⟩, .int .i64 0]) 3 32 Try.underlying30 hi hz0 hz1 hz2 rfl (by decide) _ _ _ rfl (hrow.alloc _) ⟨W.heap.size, 0, none⟩ 1 1 [.int .i64 1, .string (strOfNums x.t.rs), .int .i64 x.t.j] rfl rfl (rowCell W _ _ _ _) (rowOne _ _ _) s1 s2 (by simp; omega) ?_; intro v' w1 hown' hgrow _; obtain ⟨g', cap', rfl⟩ := ownsRow_succ hown'; obtain ⟨hv1, hv2, hr2, hk2, hb2⟩ := appendedC hv (by decide) hrow hW hown' hgrow; have hc1 := hv1.cell; have hf1 := hv1.frozen)
    refine ⟨hk2, hb2, ⟨trivial, keepC_t hkw hb2⟩, _, hv2, ?_, trivial⟩
    rw [List.map_append, List.map_append, cellsR_append, List.length_append]
    exact hr2
  case done =>
    rintro D xs W hD hxs ⟨⟨-, hkw⟩, v, hv, hrow, -⟩ hK
    have cv := hv.cell
    obtain ⟨A1, c1, rfl, -, -⟩ := own_form hrow
    gi_wp2
    refine ⟨by simp, .inl ⟨_, _, rfl, run_takeDeferred hK, ?_⟩⟩
    refine ⟨_, results_tmp rfl _ _ _, _, rfl, ?_, ?_⟩
    · rw [← hxs, List.length_map]
      exact own_base (ownsRow_putObj hrow _ hK rfl) (by omega)
    · exact hbw2.trans (keepC_to (keepC_put hkw hD _) (by omega) hbw2.size (fun j hj e => by omega))
  case stop =>
    rintro D cc pre W hD hp hf hK
    exact hf.elim
end

theorem rows_its {k D F : Int} {i : Int} {l : List TRow} {its : List It} (h : its.map (fun t => (t.j, t.rs)) = (chainL k D F 1 i l).map (fun r => (r.at_, r.raw))) : its.map rowI = chainL k D F 1 i l := by
  have h1 := congrArg (List.map (fun x : Nat × List Int => (⟨1, x.2, x.1⟩ : TRow))) h
  rw [List.map_map, List.map_map] at h1
  have e1 : ((fun x : Nat × List Int => (⟨1, x.2, x.1⟩ : TRow)) ∘ fun t : It => (t.j, t.rs)) = rowI := rfl
  rw [e1] at h1
  rw [h1]
  have : ∀ r ∈ chainL k D F 1 i l, ((fun x : Nat × List Int => (⟨1, x.2, x.1⟩ : TRow)) ∘ fun r : TRow => (r.at_, r.raw)) r = id r := fun r hr => by
    have := (mem_chain hr).2.1
    obtain ⟨a, b, c⟩ := r
    simp at this
    subst this
    rfl
  rw [List.map_congr_left this, List.map_id]

theorem TB.fineR {k D F : Int} {b : List Int} {l : List TRow} (T : TB k D F b l) : ∀ r ∈ l, FineR r := fun r hr => by
  have h := T.fine r hr
  have h2 := rightN_len h.1.right
  have := T.most
  exact ⟨h.1.bytes, by omega, by omega, h.1.kind⟩

/-- The objects of a bucket. -/
theorem listed1 {w : World} {base p : Nat} {S : Nat → Prop} {k d f : Int} {lim : Nat} {l : List TRow} {tl cnt : Nat} (h : TS w base S p k d f lim l tl cnt) (sum : Int) (hs : IsU sum) (hm : l.length ≤ 900) :
    Calls Try.prog 17 #[.pointer (some ⟨p, 0, none⟩), .int .i64 1, .int .u64 sum] w fun e w' => ∃ v, e = .returned v ∧ OwnR w' w.heap.size v (chainL k d f 1 (bktN d f 1 sum) l) ∧ Below w.heap.size w w' := by
  obtain ⟨⟨m, bv, sv, H, T, hbm, -, -, -, -⟩, hk, -⟩ := h
  obtain ⟨hq1, hq2⟩ := bktN_eq T.hD T.hF (kd := 1) hs
  obtain ⟨its, hch, hmap⟩ := T.chain (.inl rfl) hq2
  have hfin := chain_fine hbm hch
  have hrows := rows_its hmap
  have hword : IsU (m.word (tb d 1 + 8 * bktN d f 1 sum : Nat)) := linked_isU (T.chains 1 (.inl rfl) _ hq2) (fun r hr' => by have := T.fine r (mem_chain hr').1; have := T.most; omega)
  have hcl : (chainL k d f 1 (bktN d f 1 sum) l).length ≤ l.length := by unfold chainL; exact List.length_filter_le _ _
  have hlen : its.length ≤ 900 := by have := congrArg List.length hrows; rw [List.length_map] at this; omega
  refine (listed_gen (p := p) (kd := 1) (sum := sum) (gf := 38) (its := its) trivial (enters_of Try.func38 (by kernel_rfl) rfl) hlen (fun t ht => (hfin t ht).1) ?_).mono ?_
  · intro w1 hb hlt
    have H1 := H.below hb
    refine (tall_any 1 (.inl rfl) sum w1 H1 hbm hs T.hD T.hF).mono ?_
    rintro e w2 ⟨g, rfl, hb2, hg, hfl⟩
    have H2 := H1.below hb2
    have hgl := hfl.lo
    exact ⟨_, rfl, hb2, follow_tells 8 (by omega) w2.heap.size (fun j => j = w.heap.size) (g + 3) (g + 2) (g + 1) g 1 1 _ its w2 H2 hbm T.most T.hD T.hF (fun j hj => ⟨(H2.foot j hj).2, fun e => by have := (H.foot j hj).2; omega⟩) ⟨by omega, by omega, by omega, by omega, Nat.le_refl _⟩ ⟨by omega, by omega, by omega, by omega⟩ hfl.cw hfl.ck hfl.cp hfl.cm (by decide) hword hch⟩
  · rintro e w' ⟨v, rfl, ho, hb⟩
    rw [hrows] at ho
    have hll : its.length = (chainL k d f 1 (bktN d f 1 sum) l).length := by rw [← hrows, List.length_map]
    rw [hll] at ho
    exact ⟨v, rfl, ⟨ho, fun r hr => T.fineR r (mem_chain hr).1, by omega⟩, hb⟩

theorem all_none (n : Nat) (hn : 1 ≤ n) (n₀ : Nat) (T : Nat → Prop) (w : World) :
    SeqTells Fence.wide n Try.prog 49 #[] (Ob.encs 1) (TellsOb []) (KeepC n₀ T) (fun xs => xs.map (·.t) = []) (fun pre => ∃ rest, pre.map (·.t) ++ rest = ([] : List It)) ([] : List It).length w := by
  intro l J Jx W hb hJ hJx hY h0
  refine callsIn_of_wp Try.func49 rfl trivial ?_ rfl
  simp only [Try.ntmps49, List.size_toArray, List.length_cons, List.length_nil, Nat.reduceAdd, Nat.reduceSub, Array.replicate_succ, Array.replicate_zero, List.push_toArray, List.append_toArray, List.nil_append, List.cons_append]
  gi_wp2
  go_end0
  exact ⟨⟨_, rfl⟩, .inl ⟨[], rfl, h0⟩⟩

set_option maxHeartbeats 1000000 in
theorem tbucket_no {base p : Nat} {S : Nat → Prop} {i k d f h : Int} {m : IM} {bv sv : Value} (w : World) (H : IX w base S p i k d f h m bv sv) :
    Calls Try.prog 25 #[.pointer (some ⟨p, 0, none⟩), .int .i64 3, .int .u64 0] w fun e w' => e = .returned (.tuple #[.int .i64 0, .bool false]) ∧ Below w.heap.size w w' := by
  have HH := Lib.hid (ihead_any w H)
  go_enter Try.func25, Try.ntmps25
  go_wp2_with (go_at_call 32; refine HH.out.mono ?_; rintro e w1 ⟨rfl, hb1⟩; have HB := Lib.hid (hb1.trans ((boxed w1 (.cells #[.int .u64 i, .int .u64 k, .int .i64 d, .int .i64 f, .int .u64 h] 66)).mono hb1.size)))
  go_ret2
  exact ⟨rfl, HB.out⟩
theorem tall_no {base p : Nat} {S : Nat → Prop} {i k d f h : Int} {m : IM} {bv sv : Value} (w : World) (H : IX w base S p i k d f h m bv sv) :
    Calls Try.prog 26 #[.pointer (some ⟨p, 0, none⟩), .int .i64 3, .int .u64 0] w fun e w' => e = .returned (.func (.func 49) #[] #[]) ∧ Below w.heap.size w w' := by
  have BB := Lib.hid (tbucket_no w H)
  go_enter Try.func26, Try.ntmps26
  go_wp2_with (go_at_call 25; refine BB.out.mono ?_; rintro e w1 ⟨rfl, hb1⟩)
  go_ret
  exact ⟨rfl, hb1⟩
/-- There is no such bucket. -/
theorem listed3 {w : World} {base p : Nat} {S : Nat → Prop} {k d f : Int} {lim : Nat} {l : List TRow} {tl cnt : Nat} (h : TS w base S p k d f lim l tl cnt) :
    Calls Try.prog 17 #[.pointer (some ⟨p, 0, none⟩), .int .i64 3, .int .u64 0] w fun e w' => ∃ A c, e = .returned (.slice A 0 c) ∧ Below w.heap.size w w' := by
  obtain ⟨⟨m, bv, sv, H, T, hbm, -, -, -, -⟩, hk, -⟩ := h
  refine (listed_gen (p := p) (kd := 3) (sum := 0) (gf := 49) (its := []) trivial (enters_of Try.func49 (by kernel_rfl) rfl) (by simp) (fun t ht => by cases ht) ?_).mono ?_
  · intro w1 hb hlt
    refine (tall_no w1 (H.below hb)).mono ?_
    rintro e w2 ⟨rfl, hb2⟩
    exact ⟨_, rfl, hb2, all_none 8 (by omega) _ _ _⟩
  · rintro e w' ⟨v, rfl, ho, hb⟩
    obtain ⟨A, c, rfl, -, -⟩ := own_form ho
    exact ⟨A, c, rfl, hb⟩

end Go.Proofs.Ytkaepikjklpmaaa
