/-
  LAYER 15: the document's rows with their lists, beside the file: an entry more in one row.
-/
import Derived.Test.YtknimfnjmhmamaaGreatDaActs
import Derived.Test.YtknimfnjmhmamaaGreatDaIntsM
set_option linter.unusedVariables false
set_option maxRecDepth 100000
set_option linter.unusedSimpArgs false
namespace Go.Proofs.YtknimfnjmhmamaaGreat
open Go.RowKit Go.Shelf

/-- Each row's list is in a row of memory of its own. -/
structure XL (w : World) (base : Nat) (X : List XR) (R : List DR) : Prop where
  each : ∀ (i : Nat) (x : XR) (r : DR), X[i]? = some x → R[i]? = some r → w.ownsRow base 24 1 x.v r.L.length (cellsOf .u64 r.L)
  apart : ∀ (i j : Nat) (x y : XR) (g : Nat), X[i]? = some x → X[j]? = some y → x.v.ownBlock = some g → y.v.ownBlock = some g → i = j
/-- What is so of the lists, behind so many entries, the last one y. -/
structure Up (R : List DR) (y : Int) (t : Nat) : Prop where
  rise : ∀ r ∈ R, r.L.Pairwise (· ≤ ·)
  le : ∀ r ∈ R, ∀ z ∈ r.L, z ≤ y
  len : ∀ r ∈ R, r.L.length ≤ t
  u : ∀ r ∈ R, ∀ z ∈ r.L, IsU z
/-- At the head of each round: the file, and the document's rows with their lists. -/
structure RtAt (w wr : World) (S : Nat → Prop) (p : Nat) (R : List DR) (v : Value) (X : List XR) (y : Int) (t : Nat) : Prop where
  ds : DS fldI 3 4 2 wr w.heap.size S p 1048576 R (12304 + 8216 * t) (30 + t)
  own : OwnX wr w.heap.size v X
  vS : ∀ g, v.ownBlock = some g → ¬ S g
  like : Like R X
  below : Below w.heap.size w wr
  len : X.length ≤ 10
  xl : XL wr w.heap.size X R
  xS : ∀ (i : Nat) (x : XR) (g : Nat), X[i]? = some x → x.v.ownBlock = some g → ¬ S g
  up : Up R y t
theorem RtAt.belowW {w wr w' : World} {S : Nat → Prop} {p t : Nat} {R : List DR} {v : Value} {X : List XR} {y : Int} (H : RtAt w wr S p R v X y t) (hb : Below wr.heap.size wr w') : RtAt w w' S p R v X y t :=
  ⟨H.ds.below hb, H.own.below hb, H.vS, H.like, H.below.trans (hb.mono H.below.size), H.len, ⟨fun i x r hx hr => own_below (H.xl.each i x r hx hr) hb, H.xl.apart⟩, H.xS, H.up⟩
/-- Behind the items, ahead of the first entry. -/
theorem ItAt.begin {w wr : World} {S : Nat → Prop} {p j : Nat} {R : List DR} {v : Value} {X : List XR} (H : ItAt w wr S p R v X j) (hj : j ≤ 10) (hX : ∀ x ∈ X, x.v = .slice none 0 0) (hR : ∀ r ∈ R, r.L = []) : RtAt w wr S p R v X 0 0 := by
  obtain ⟨⟨m, bv, sv, l, q1, q2, q3, q4, q5, q6, q7, q8⟩, q9, q10⟩ := H.ds
  refine ⟨⟨⟨m, bv, sv, l, q1, q2, q3, q4, q5, by omega, by omega, q8⟩, ⟨q9.1, by omega⟩, q10⟩, H.own, H.vS, H.like, H.below, by have := H.len; omega, ⟨fun i x r hx hr => ?_, fun i j x y g hx hy hg _ => ?_⟩, fun i x g hx hg => ?_, ⟨fun r hr => ?_, fun r hr z hz => ?_, fun r hr => ?_, fun r hr z hz => ?_⟩⟩
  · rw [hX x (List.mem_of_getElem? hx), hR r (List.mem_of_getElem? hr)]
    exact World.ownsRow_nil _ _ _ _
  · rw [hX x (List.mem_of_getElem? hx)] at hg; cases hg
  · rw [hX x (List.mem_of_getElem? hx)] at hg; cases hg
  · rw [hR r hr]; exact .nil
  · rw [hR r hr] at hz; cases hz
  · rw [hR r hr]; simp
  · rw [hR r hr] at hz; cases hz
theorem insX_nil {X : List XR} {s : ByteArray} {a : Int} (h : ∀ x ∈ X, x.v = .slice none 0 0) : ∀ x ∈ insX X s a, x.v = .slice none 0 0 := fun x hx => by
  unfold insX at hx
  split at hx
  · exact h x hx
  · rcases List.mem_append.1 hx with h1 | h1
    · exact h x h1
    · rw [List.mem_singleton.1 h1]
theorem insD_nil {R : List DR} {zs : List Int} {a : Nat} (h : ∀ r ∈ R, r.L = []) : ∀ r ∈ insD R zs a, r.L = [] := fun r hr => by
  unfold insD at hr
  split at hr
  · exact h r hr
  · rcases List.mem_append.1 hr with h1 | h1
    · exact h r h1
    · rw [List.mem_singleton.1 h1]

theorem cellsX_set : ∀ (l : List XR) (i : Nat) (x : XR) (v : Value), l[i]? = some x → (cellsX l).set (i * 3 + 2) v = cellsX (l.set i { x with v := v })
  | [], i, x, v, h => by simp at h
  | a :: l, 0, x, v, h => by simp at h; subst h; rfl
  | a :: l, i + 1, x, v, h => by
    have h' : l[i]? = some x := by simpa using h
    have e : (i + 1) * 3 + 2 = i * 3 + 2 + 1 + 1 + 1 := by omega
    rw [e]
    show Value.string a.item :: Value.int .i64 a.at_ :: a.v :: (cellsX l).set (i * 3 + 2) v = _
    rw [cellsX_set l i x v h']
    rfl
theorem Like.set {R : List DR} {X : List XR} (h : Like R X) (i : Nat) {r : DR} {x : XR} (hr : R[i]? = some r) (hx : X[i]? = some x) (L' : List Int) (v : Value) : Like (R.set i { r with L := L' }) (X.set i { x with v := v }) := by
  unfold Like at h ⊢
  have hri := (List.getElem?_eq_some_iff.1 hr)
  have hxi := (List.getElem?_eq_some_iff.1 hx)
  rw [List.map_set, List.map_set]
  have e1 : (R.map (fun r => (r.item, (r.at_ : Int)))).set i (r.item, (r.at_ : Int)) = R.map (fun r => (r.item, (r.at_ : Int))) := by
    refine List.ext_getElem? fun j => ?_
    by_cases e : i = j
    · subst e
      rw [List.getElem?_set_self (by rw [List.length_map]; exact hri.1), List.getElem?_map, hr]; rfl
    · rw [List.getElem?_set_ne e]
  have e2 : (X.map (fun r => (nums r.item, r.at_))).set i (nums x.item, x.at_) = X.map (fun r => (nums r.item, r.at_)) := by
    refine List.ext_getElem? fun j => ?_
    by_cases e : i = j
    · subst e
      rw [List.getElem?_set_self (by rw [List.length_map]; exact hxi.1), List.getElem?_map, hx]; rfl
    · rw [List.getElem?_set_ne e]
  show (R.map (fun r => (r.item, (r.at_ : Int)))).set i (r.item, (r.at_ : Int)) = (X.map (fun r => (nums r.item, r.at_))).set i (nums x.item, x.at_)
  rw [e1, e2]; exact h
theorem Up.push {R : List DR} {y z : Int} {t i : Nat} {r : DR} (H : Up R y t) (hr : R[i]? = some r) (hz : y ≤ z) (hu : IsU z) : Up (R.set i { r with L := r.L ++ [z] }) z (t + 1) := by
  have hrm := List.mem_of_getElem? hr
  have hm : ∀ q ∈ R.set i { r with L := r.L ++ [z] }, q ∈ R ∨ q = { r with L := r.L ++ [z] } := fun q hq => List.mem_or_eq_of_mem_set hq
  refine ⟨fun q hq => ?_, fun q hq s hs => ?_, fun q hq => ?_, fun q hq s hs => ?_⟩
  · rcases hm q hq with h | rfl
    · exact H.rise q h
    · refine List.pairwise_append.2 ⟨H.rise r hrm, by simp, fun s hs u hu' => ?_⟩
      rw [List.mem_singleton.1 hu']
      have := H.le r hrm s hs
      omega
  · rcases hm q hq with h | rfl
    · have := H.le q h s hs; omega
    · rcases List.mem_append.1 hs with h | h
      · have := H.le r hrm s h; omega
      · rw [List.mem_singleton.1 h]; omega
  · rcases hm q hq with h | rfl
    · have := H.len q h; omega
    · show (r.L ++ [z]).length ≤ _
      have := H.len r hrm
      rw [List.length_append]; simp; omega
  · rcases hm q hq with h | rfl
    · exact H.u q h s hs
    · rcases List.mem_append.1 hs with h | h
      · exact H.u r hrm s h
      · rw [List.mem_singleton.1 h]; exact hu

/-- AN ENTRY MORE in one row. -/
theorem RtAt.push {w wr w2 w3 : World} {S : Nat → Prop} {p t i gr c' : Nat} {R : List DR} {A' : Option Addr} {X : List XR} {y z : Int} {r : DR} {x : XR} {v1 : Value} {tmp : Obj} (H : RtAt w wr S p R (.slice A' X.length c') X y t) (hr : R[i]? = some r) (hx : X[i]? = some x) (hA : A' = some ⟨gr, 0, none⟩) (hz : y ≤ z) (hu : IsU z)
    (hc : Chg S wr w2) (hd : DS fldI 3 4 2 w2 w.heap.size (grow S wr w2) p 1048576 (R.set i { r with L := r.L ++ [z] }) (12304 + 8216 * t + 8216) (30 + t + 1))
    (hown1 : w3.ownsRow w.heap.size 24 1 v1 (r.L.length + 1) (cellsOf .u64 r.L ++ [.int .u64 z])) (hg1 : (w2.alloc tmp).grownBy w3 x.v.ownBlock) (hat1 : v1.ownBlock = x.v.ownBlock ∨ v1.ownBlock = some (w2.alloc tmp).heap.size) :
    RtAt w (w3.setCell ⟨gr, i * 3 + 2, none⟩ v1) (grow S wr w2) p (R.set i { r with L := r.L ++ [z] }) (.slice A' (X.set i { x with v := v1 }).length c') (X.set i { x with v := v1 }) z (t + 1) := by
  subst hA
  have hiX := (List.getElem?_eq_some_iff.1 hx).1
  have hiR := (List.getElem?_eq_some_iff.1 hr).1
  have hs2 := hc.size
  have hsa : (w2.alloc tmp).heap.size = w2.heap.size + 1 := World.size_alloc _ _
  have hc3 : Chg (fun k => x.v.ownBlock = some k) w2 w3 := grown_chg1 hg1
  have hs3 := hc3.size
  have hB2 := H.below.trans (hc.below H.below.size (fun q _ hq => (H.ds.foot q hq).1))
  -- where the rows' block, and each list's, lies
  have hxo := H.xl.each i x r hx hr
  have hv1r : (Value.slice (some (⟨gr, 0, none⟩ : Addr)) X.length c').ownBlock = some gr := rfl
  have hgr := H.own.own.lt gr hv1r
  have hxv : ∀ (j : Nat) (y' : XR) (q : DR) (g : Nat), X[j]? = some y' → R[j]? = some q → y'.v.ownBlock = some g → ¬ S g ∧ g < wr.heap.size ∧ w.heap.size ≤ g ∧ g ≠ gr := fun j y' q g hy hq hg => by
    have h1 := (H.xl.each j y' q hy hq)
    exact ⟨H.xS j y' g hy hg, (h1.lt g hg).2, (h1.lt g hg).1, fun e => own_ne h1 H.own.own (by decide) g hg (by rw [e]; exact hv1r)⟩
  have hRX : ∀ j (y' : XR), X[j]? = some y' → ∃ q, R[j]? = some q := fun j y' hy => ⟨_, List.getElem?_eq_getElem (by rw [H.like.len]; exact (List.getElem?_eq_some_iff.1 hy).1)⟩
  have hv1b : ∀ g, v1.ownBlock = some g → (x.v.ownBlock = some g ∨ w2.heap.size < g) := fun g hg => by
    rcases hat1 with e | e
    · exact .inl (by rw [← e]; exact hg)
    · right
      rw [e] at hg; injection hg with hg; omega
  have hgrS : ¬ S gr := H.vS gr hv1r
  -- the rows, at w3
  have o2 := own_chg H.own.own hc H.vS
  have o3 := own_chg o2 hc3 (fun g hg e => by
    have : g = gr := by rw [hv1r] at hg; injection hg with hg; exact hg.symm
    subst this
    exact (hxv i x r _ hx hr e).2.2.2 rfl)
  obtain ⟨gr', cur, eA, hbg, hblk, hnc, hcm, hcl, hct⟩ := row_open o3 (by omega)
  injection eA with eA
  injection eA with eA
  subst eA
  have hblk4 : Blk (w3.setCell ⟨gr, i * 3 + 2, none⟩ v1) gr 41 (cur.set (i * 3 + 2) v1).toArray := by
    have h9 := hblk.set_ (i * 3 + 2) v1
    have e9 : cur.toArray.setIfInBounds (i * 3 + 2) v1 = (cur.set (i * 3 + 2) v1).toArray := by simp
    rw [← e9]; exact h9
  have hXl : (X.set i { x with v := v1 }).length = X.length := List.length_set ..
  have hrow4 : (w3.setCell ⟨gr, i * 3 + 2, none⟩ v1).ownsRow w.heap.size 41 3 (.slice (some ⟨gr, 0, none⟩) X.length c') X.length (cellsX (X.set i { x with v := v1 })) := by
    refine row_shut hbg hblk4 hnc hcm (by rw [List.length_set]; exact hcl) ?_ (by rw [cellsX_length, hXl])
    rw [← cellsX_set X i x v1 hx, ← hct, List.take_set]
  have far : ∀ {size n : Nat} {u : Value} {ys : List Value}, w3.ownsRow w.heap.size 24 size u n ys → (w3.setCell ⟨gr, i * 3 + 2, none⟩ v1).ownsRow w.heap.size 24 size u n ys := fun hu => ownsRow_setCell_other hu (own_blk_ne hu hblk (by decide)) _
  have hcS : Chg (fun k => k = gr) w3 (w3.setCell ⟨gr, i * 3 + 2, none⟩ v1) := chg_set1 (T := fun k => k = gr) (Chg.refl _ _) rfl _
  refine ⟨?_, ⟨by rw [hXl]; exact hrow4, ?_, by rw [hXl]; exact H.own.most⟩, ?_, H.like.set i hr hx _ _, ?_, by rw [hXl]; exact H.len, ⟨?_, ?_⟩, ?_, H.up.push hr hz hu⟩
  · have hd3 := (hd.keep hc3 (fun q hq e => by
      have h9 := hxv i x r q hx hr e
      rcases hq with hq | hq
      · exact h9.1 hq
      · omega)).keep hcS (fun q hq e => by
      subst e
      rcases hq with hq | hq
      · exact hgrS hq
      · omega)
    have e1 : 12304 + 8216 * (t + 1) = 12304 + 8216 * t + 8216 := by omega
    rw [e1]; exact hd3
  · intro q hq
    rcases List.mem_or_eq_of_mem_set hq with h9 | rfl
    · exact H.own.fine q h9
    · exact H.own.fine x (List.mem_of_getElem? hx)
  · intro g hg e
    rw [hXl, hv1r] at hg; injection hg with hg; subst hg
    rcases e with e | e
    · exact hgrS e
    · omega
  · refine (hB2.trans (hc3.below hB2.size (fun q _ e => (hxv i x r q hx hr e).2.2.1))).setCell (p := ⟨gr, i * 3 + 2, none⟩) hgr.1 _
  · intro j x' r' hx' hr'
    by_cases e : j = i
    · subst e
      rw [List.getElem?_set_self hiX] at hx'
      rw [List.getElem?_set_self hiR] at hr'
      injection hx' with hx'
      injection hr' with hr'
      subst hx'; subst hr'
      refine far ?_
      show w3.ownsRow _ _ 1 v1 (r.L ++ [z]).length (cellsOf .u64 (r.L ++ [z]))
      rw [List.length_append, cellsOf_append]
      exact hown1
    · rw [List.getElem?_set_ne (fun e' => e e'.symm)] at hx' hr'
      refine far (own_chg (own_chg (H.xl.each j x' r' hx' hr') hc (fun g hg => H.xS j x' g hx' hg)) hc3 (fun g hg e9 => e (H.xl.apart j i x' x g hx' hx hg e9)))
  · intro j1 j2 x1 x2 g hx1 hx2 hg1' hg2'
    have key : ∀ (j : Nat) (x' : XR), (X.set i { x with v := v1 })[j]? = some x' → x'.v.ownBlock = some g → (j = i ∧ v1.ownBlock = some g) ∨ (j ≠ i ∧ X[j]? = some x') := fun j x' hx' hg' => by
      by_cases e : j = i
      · subst e
        rw [List.getElem?_set_self hiX] at hx'
        injection hx' with hx'
        subst hx'
        exact .inl ⟨rfl, hg'⟩
      · rw [List.getElem?_set_ne (fun e' => e e'.symm)] at hx'
        exact .inr ⟨e, hx'⟩
    rcases key j1 x1 hx1 hg1' with ⟨e1, f1⟩ | ⟨e1, f1⟩
    · rcases key j2 x2 hx2 hg2' with ⟨e2, f2⟩ | ⟨e2, f2⟩
      · rw [e1, e2]
      · obtain ⟨q2, hq2⟩ := hRX j2 x2 f2
        rcases hv1b g f1 with h9 | h9
        · exact absurd (H.xl.apart j2 i x2 x g f2 hx hg2' h9) e2
        · have := (hxv j2 x2 q2 g f2 hq2 hg2').2.1; omega
    · rcases key j2 x2 hx2 hg2' with ⟨e2, f2⟩ | ⟨e2, f2⟩
      · obtain ⟨q1, hq1⟩ := hRX j1 x1 f1
        rcases hv1b g f2 with h9 | h9
        · exact absurd (H.xl.apart j1 i x1 x g f1 hx hg1' h9) e1
        · have := (hxv j1 x1 q1 g f1 hq1 hg1').2.1; omega
      · exact H.xl.apart j1 j2 x1 x2 g f1 f2 hg1' hg2'
  · intro j x' g hx' hg' e
    by_cases ej : j = i
    · subst ej
      rw [List.getElem?_set_self hiX] at hx'
      injection hx' with hx'
      subst hx'
      rcases hv1b g hg' with h9 | h9
      · have := hxv j x r g hx hr h9
        rcases e with e | e
        · exact this.1 e
        · omega
      · rcases e with e | e
        · have := (H.ds.foot _ e).2; omega
        · omega
    · rw [List.getElem?_set_ne (fun e' => ej e'.symm)] at hx'
      obtain ⟨q, hq⟩ := hRX j x' hx'
      have := hxv j x' q g hx' hq hg'
      rcases e with e | e
      · exact this.1 e
      · omega

end Go.Proofs.YtknimfnjmhmamaaGreat
