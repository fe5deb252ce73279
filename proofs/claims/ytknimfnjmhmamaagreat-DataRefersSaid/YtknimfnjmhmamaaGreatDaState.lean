/-
  LAYER 15: a file of data as a statement holds it: Intern, Find and the items of a field; the rows beside it.
-/
import Derived.Test.YtknimfnjmhmamaaGreatDaLaw
set_option linter.unusedVariables false
set_option maxRecDepth 100000
set_option linter.unusedSimpArgs false
namespace Go.Proofs.YtknimfnjmhmamaaGreat
open Go.RowKit Go.Shelf

/-- The rows behind Intern. -/
def insD (R : List DR) (zs : List Int) (a : Nat) : List DR := match findD R zs with
  | some _ => R
  | none => R ++ [⟨zs, a, []⟩]
/-- The items of a field, by the rows. -/
def valsD (R : List DR) (fs : List Int) : List ByteArray := (R.filter (fun r => fldI r.item == fs)).map (fun r => strOfNums r.item)
theorem findD_ins {R : List DR} {zs : List Int} {a : Nat} (h : findD R zs = none) : findD (R ++ [⟨zs, a, []⟩]) zs = some a := by
  unfold findD at h ⊢
  rw [Option.map_eq_none_iff] at h
  rw [List.find?_append, h]
  simp
theorem insD_len (R : List DR) (zs : List Int) (a : Nat) : (insD R zs a).length ≤ R.length + 1 := by
  unfold insD
  split
  · omega
  · simp

section
variable {w : World} {base : Nat} {S : Nat → Prop} {p lim : Nat} {k d f : Int} {R : List DR} {tl cnt : Nat} {l : List GO} {b : List Int}

theorem Rows.valsG (D : DB fldI k d f 0 0 b l) (h : Rows l R) (fs : List Int) : (valsG l fs).map (fun x => strOfNums x.2) = valsD R fs := by
  have e := congrArg (List.map (fun x : List Int × Nat => strOfNums x.1)) (h.values D fs)
  rw [List.map_map, List.map_map] at e
  unfold Go.Proofs.YtknimfnjmhmamaaGreat.valsG valsD
  rw [List.map_map]
  exact e
theorem Rows.valsG_len (D : DB fldI k d f 0 0 b l) (h : Rows l R) (fs : List Int) : (Go.Proofs.YtknimfnjmhmamaaGreat.valsG l fs).length ≤ R.length := by
  have e := congrArg List.length (h.valsG D fs)
  rw [List.length_map] at e
  rw [e]
  unfold valsD
  rw [List.length_map]
  exact List.length_filter_le _ _

/-- What Intern tells, where there is room. -/
theorem dintern_ds (s : ByteArray) (h : DS fldI k d f w base S p lim R tl cnt) (hc : cnt ≤ 100000) (ho : spOk s = true) (hs : s.size ≤ 1024) (hroom : tl + 1200 ≤ lim) :
    Calls Tryz.prog 7 #[.pointer (some ⟨p, 0, none⟩), .string s] w fun e w' => ∃ a : Nat, e = .returned (.tuple #[.int .i64 (a : Nat), .int .i64 0]) ∧ a ≤ 1099511627776 ∧ Chg S w w' ∧ DS fldI k d f w' base (grow S w w') p lim (insD R (nums s) a) (tl + 1200) (cnt + 3) ∧ findD (insD R (nums s) a) (nums s) = some a := by
  obtain ⟨⟨m, bv, sv, l, H, D, hR, hbm, rfl, htl, hcnt, hwas⟩, hsm, hk⟩ := id h
  have hmost := D.gb.most
  refine (intern_any s w D hR H hbm hk hsm.1 (by omega) hwas ho hs).mono ?_
  rintro e w' (⟨a, h1, h2, h3⟩ | ⟨h1, h2, h3, -⟩ | ⟨h1, h2, m', l', hT, hC⟩)
  · have hfd : findD R (nums s) = some a := by rw [← hR.findG]; exact h1
    have hin : insD R (nums s) a = R := by unfold insD; rw [hfd]
    obtain ⟨o, ho1, ho2, ho3, ho4⟩ := findG_some h1
    refine ⟨a, h2, by have := (D.gb.fine o ho1).2.2; omega, Chg.of_below h3 (Nat.le_refl _) S, ?_, by rw [hin]; exact hfd⟩
    rw [hin]
    obtain ⟨⟨m2, bv2, sv2, l2, q1, q2, q3, q4, q5, q6, q7, q8⟩, q9, q10⟩ := (h.below h3).mono (T := grow S w w') (fun j hj => .inl hj) (chg_lt H.foot (Chg.of_below h3 (Nat.le_refl _) S) H.bas)
    exact ⟨⟨m2, bv2, sv2, l2, q1, q2, q3, q4, q5, by omega, by omega, q8⟩, ⟨q9.1, by omega⟩, q10⟩
  · exact absurd hroom (by omega)
  · have hfd : findD R (nums s) = none := by rw [← hR.findG]; exact h1
    have hin : insD R (nums s) m.b.length = R ++ [⟨nums s, m.b.length, []⟩] := by unfold insD; rw [hfd]
    obtain ⟨hchg, hds⟩ := h.of hT hC.db hC.rows hC.by_ hC.lim (tl' := tl + 1200) (by have := hC.most; omega) (cnt' := cnt + 3) (by have := hC.words; omega) (by rw [hC.was]; exact hwas) (by omega)
    exact ⟨m.b.length, h2, hmost, hchg, by rw [hin]; exact hds, by rw [hin]; exact findD_ins hfd⟩
theorem dfind_ds (s : ByteArray) (h : DS fldI k d f w base S p lim R tl cnt) (hs : s.size ≤ 140737488355328) :
    Calls Tryz.prog 38 #[.pointer (some ⟨p, 0, none⟩), .string s] w fun e w' => e = .returned (.tuple #[.int .i64 ((findD R (nums s)).getD 0 : Nat), .bool (findD R (nums s)).isSome]) ∧ Below w.heap.size w w' := by
  obtain ⟨⟨m, bv, sv, l, H, D, hR, hbm, -⟩, hsm, hk⟩ := h
  have h9 := dfind_any s w D H hbm hk hs
  rw [hR.findG] at h9
  exact h9
theorem lvalues_ds (s : ByteArray) (h : DS fldI k d f w base S p lim R tl cnt) (hs : s.size ≤ 140737488355328) (hR9 : R.length ≤ 900) :
    Calls Tryz.prog 17 #[.pointer (some ⟨p, 0, none⟩), .string s] w (Tells (valsD R (nums s)) w) := by
  obtain ⟨⟨m, bv, sv, l, H, D, hR, hbm, -⟩, hsm, hk⟩ := h
  have h9 := lvalues_any s w D H hbm hk hs (Nat.le_trans (hR.valsG_len D _) hR9)
  rw [hR.valsG D] at h9
  exact h9
theorem fresh_ds (lm : Nat) (w : World) (hbas : base ≤ w.heap.size) (hlm : lm ≤ 1048576) :
    Calls Tryz.prog 5 #[.int .i64 lm] w fun e w' => ∃ p, e = .returned (.pointer (some ⟨p, 0, none⟩)) ∧ Below w.heap.size w w' ∧ DS fldI 3 4 2 w' base (fun j => w.heap.size ≤ j ∧ j < w'.heap.size) p lm [] 304 0 := by
  refine (dfresh_any (base := base) lm w hbas).mono ?_
  rintro e w' ⟨p, bv, sv, rfl, hb, H⟩
  have hlen := freshM_len lm
  exact ⟨p, rfl, hb, ⟨⟨freshM lm, bv, sv, [], H, freshM_db lm, Rows.nothing, newB_bytes _ _ _ _ _, rfl, by omega, Nat.zero_le _, by show (freshM lm).b.length ≤ _; omega⟩, ⟨hlm, by omega⟩, ⟨by omega, by omega⟩⟩⟩
end

/-! ### the rows beside it -/
/-- The document's rows are those of the file. -/
def Like (R : List DR) (l : List XR) : Prop := R.map (fun r => (r.item, (r.at_ : Int))) = l.map (fun r => (nums r.item, r.at_))
theorem Like.len {R : List DR} {l : List XR} (h : Like R l) : R.length = l.length := by have := congrArg List.length h; simpa using this
theorem Like.cons {R : List DR} {l : List XR} {r : DR} {x : XR} (h : Like (r :: R) (x :: l)) : r.item = nums x.item ∧ (r.at_ : Int) = x.at_ ∧ Like R l := by
  unfold Like at h
  rw [List.map_cons, List.map_cons] at h
  injection h with h1 h2
  injection h1 with h3 h4
  exact ⟨h3, h4, h2⟩
theorem Like.vals (f : ByteArray) : ∀ {R : List DR} {l : List XR}, Like R l → valsD R (nums f) = valsX l f
  | [], [], _ => rfl
  | [], x :: l, h => by have := h.len; simp at this
  | r :: R, [], h => by have := h.len; simp at this
  | r :: R, x :: l, h => by
    obtain ⟨h1, h2, h3⟩ := h.cons
    have ih := Like.vals f h3
    unfold valsD valsX at ih ⊢
    by_cases e : spF x.item = f
    · have e1 : (fldI r.item == nums f) = true := by rw [h1, fldI_nums, e]; simp
      rw [List.filter_cons_of_pos (p := fun r : DR => fldI r.item == nums f) e1, List.filter_cons_of_pos (p := fun r : XR => decide (spF r.item = f)) (decide_eq_true e), List.map_cons, List.map_cons, ih, h1, str_nums]
    · have e1 : ¬ (fldI r.item == nums f) = true := by
        rw [h1, fldI_nums]
        intro h9
        exact e (nums_inj (by simpa using h9))
      rw [List.filter_cons_of_neg (p := fun r : DR => fldI r.item == nums f) e1, List.filter_cons_of_neg (p := fun r : XR => decide (spF r.item = f)) (by simpa using e), ih]
theorem Like.find (s : ByteArray) : ∀ {R : List DR} {l : List XR}, Like R l → (findD R (nums s) = none ∧ ∀ r ∈ l, r.item ≠ s) ∨ ∃ (a i : Nat) (r : XR), findD R (nums s) = some a ∧ l[i]? = some r ∧ r.item = s ∧ r.at_ = (a : Int) ∧ ∀ q ∈ l.take i, q.item ≠ s
  | [], [], _ => .inl ⟨rfl, fun r hr => by cases hr⟩
  | [], x :: l, h => by have := h.len; simp at this
  | r :: R, [], h => by have := h.len; simp at this
  | r :: R, x :: l, h => by
    obtain ⟨h1, h2, h3⟩ := h.cons
    by_cases e : x.item = s
    · have e1 : (r.item == nums s) = true := by rw [h1, e]; simp
      refine .inr ⟨r.at_, 0, x, ?_, rfl, e, h2.symm, by simp⟩
      unfold findD
      rw [List.find?_cons_of_pos (p := fun r : DR => r.item == nums s) e1]; rfl
    · have e1 : ¬ (r.item == nums s) = true := by
        rw [h1]
        intro h9
        exact e (nums_inj (by simpa using h9))
      have e2 : findD (r :: R) (nums s) = findD R (nums s) := by unfold findD; rw [List.find?_cons_of_neg (p := fun r : DR => r.item == nums s) e1]
      rcases Like.find s h3 with ⟨g1, g2⟩ | ⟨a, i, y, g1, g2, g3, g4, g5⟩
      · refine .inl ⟨e2.trans g1, fun q hq => ?_⟩
        rcases List.mem_cons.1 hq with rfl | hq
        · exact e
        · exact g2 q hq
      · refine .inr ⟨a, i + 1, y, e2.trans g1, by simpa using g2, g3, g4, fun q hq => ?_⟩
        rw [List.take_succ_cons] at hq
        rcases List.mem_cons.1 hq with rfl | hq
        · exact e
        · exact g5 q hq
theorem Like.isSome {R : List DR} {l : List XR} (h : Like R l) (s : ByteArray) : decide (0 ≤ idxX l s) = (findD R (nums s)).isSome := by
  rcases h.find s with ⟨g1, g2⟩ | ⟨a, i, y, g1, g2, g3, g4, g5⟩
  · rw [g1, idxX_none g2]; rfl
  · rw [g1, idxX_at g5 g2 g3]
    exact decide_eq_true (by omega)
theorem Like.ins {R : List DR} {l : List XR} (h : Like R l) (s : ByteArray) (a : Nat) : Like (insD R (nums s) a) (insX l s (a : Int)) := by
  rcases h.find s with ⟨g1, g2⟩ | ⟨b, i, y, g1, g2, g3, g4, g5⟩
  · unfold insD insX
    rw [g1, idxX_none g2]
    show Like (R ++ [_]) (if (0 : Int) ≤ -1 then l else l ++ [_])
    rw [if_neg (by omega)]
    unfold Like at h ⊢
    rw [List.map_append, List.map_append, h]; rfl
  · unfold insD insX
    rw [g1, idxX_at g5 g2 g3, if_pos (by omega)]
    exact h
/-- The row of an item that is there. -/
theorem Like.at_ {R : List DR} {l : List XR} (h : Like R l) {s : ByteArray} {a : Nat} (ha : findD R (nums s) = some a) : ∃ (i : Nat) (r : XR), idxX l s = (i : Nat) ∧ l[i]? = some r ∧ r.item = s ∧ r.at_ = (a : Int) := by
  rcases h.find s with ⟨g1, g2⟩ | ⟨b, i, y, g1, g2, g3, g4, g5⟩
  · rw [ha] at g1; cases g1
  · rw [ha] at g1; injection g1 with g1; subst g1
    exact ⟨i, y, idxX_at g5 g2 g3, g2, g3, g4⟩

end Go.Proofs.YtknimfnjmhmamaaGreat
