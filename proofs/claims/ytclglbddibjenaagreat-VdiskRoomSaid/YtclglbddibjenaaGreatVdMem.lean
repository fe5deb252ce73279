/-
  LAYER 8: HOW A DISK LIES IN MEMORY, the program's: a block of seven cells, its directory, its map of files, and these, each in a footprint of its own; what keeps it; one of these turns.
-/
import Derived.Test.YtclglbddibjenaaGreatVdMap
import Derived.Test.YtclglbddibjenaaGreatVdBase
set_option linter.unusedVariables false
set_option linter.unusedSimpArgs false
set_option maxRecDepth 100000
namespace Go.Proofs.YtclglbddibjenaaGreat
open Go.RowKit

/-- A file of the program's, or none. -/
def OF (base : Nat) (w : World) (S : Nat → Prop) (p : Nat) (o : Option FS) : Prop :=
  match o with
  | none => ∀ k, ¬ S k
  | some f => ∃ nv sv pv, CF w base S p f nv sv pv
theorem ofThing (base : Nat) : Thing base (OF base) :=
  ⟨fun {w w' S T p s} h hc hT => by
    cases s with
    | none => exact h
    | some f => obtain ⟨nv, sv, pv, h⟩ := h; exact ⟨nv, sv, pv, h.keep hc hT⟩,
   fun {w S p s} h => by
    cases s with
    | none => exact fun k hk => absurd hk (h k)
    | some f => obtain ⟨nv, sv, pv, h⟩ := h; exact h.foot⟩
/-- The pointer that is found under a number. -/
def lookP (ps : List Nat) (os : OsL) (i : Int) : Option Nat :=
  if 0 ≤ i then (match os[i.toNat]? with
    | some (some _) => ps[i.toNat]?
    | _ => none) else none
theorem lookP_some {ps : List Nat} {os : OsL} {i : Int} {p : Nat} (h : lookP ps os i = some p) : ∃ (k : Nat) (f : FS), i = k ∧ os[k]? = some (some f) ∧ ps[k]? = some p := by
  unfold lookP at h
  split at h
  · next h0 =>
    split at h
    · next f hf => exact ⟨i.toNat, f, by omega, hf, h⟩
    · cases h
  · cases h
theorem lookP_of {ps : List Nat} {os : OsL} {k : Nat} {f : FS} (h : os[k]? = some (some f)) : lookP ps os k = ps[k]? := by
  unfold lookP; rw [if_pos (by omega), Int.toNat_natCast, h]
theorem lookP_none {ps : List Nat} {os : OsL} {k : Nat} (h : os[k]? = some none ∨ os[k]? = none) : lookP ps os k = none := by
  unfold lookP; rw [if_pos (by omega), Int.toNat_natCast]
  rcases h with h | h <;> rw [h]
theorem lookP_neg {ps : List Nat} {os : OsL} {i : Int} (h : i < 0) : lookP ps os i = none := by unfold lookP; rw [if_neg (by omega)]
/-- Told by every number. -/
theorem lookP_ext {ps ps' : List Nat} {os os' : OsL} (h : ∀ k : Nat, lookP ps os k = lookP ps' os' k) (i : Int) : lookP ps os i = lookP ps' os' i := by
  by_cases h0 : 0 ≤ i
  · have := h i.toNat
    rw [Int.toNat_of_nonneg h0] at this
    exact this
  · rw [lookP_neg (by omega), lookP_neg (by omega)]

def diskC (dp mb : Nat) (v : VS) (n : Nat) : Array Value := #[.pointer (some ⟨dp, 0, none⟩), .map (some mb), .int .i64 n, .int .i64 v.room, .bool v.dead, .bool v.armed, .int .i64 v.fuse]

/-- The program's disk. -/
structure VD (w : World) (base : Nat) (T : Nat → Prop) (p : Nat) (v : VS) (os : OsL) (dp mb bn bs : Nat) (pv : Value) (SD SF : Nat → Prop) (ps : List Nat) (Ss : List (Nat → Prop)) : Prop where
  foot : ∀ k, T k → base ≤ k ∧ k < w.heap.size
  bas : base ≤ w.heap.size
  blk : Blk w p 58 (diskC dp mb v os.length)
  dir : CD w base SD dp v.d bn bs pv
  map : FMap w mb os.length (lookP ps os)
  pile : Pile base (OF base) w SF ps Ss os
  inp : T p
  inm : T mb
  ind : ∀ k, SD k → T k
  inf : ∀ k, SF k → T k
  pd : ¬ SD p
  pf : ¬ SF p
  md : ¬ SD mb
  mf : ¬ SF mb
  df : ∀ k, SD k → ¬ SF k

section
variable {w w0 w' : World} {base p dp mb bn bs : Nat} {T U T0 : Nat → Prop} {v v' : VS} {os : OsL} {pv : Value} {SD SF : Nat → Prop} {ps : List Nat} {Ss : List (Nat → Prop)}

theorem VD.pm (h : VD w base T p v os dp mb bn bs pv SD SF ps Ss) : mb ≠ p := h.map.ne_blk h.blk
theorem VD.keep (h : VD w base T p v os dp mb bn bs pv SD SF ps Ss) (hc : Chg U w w') (hU : ∀ k, T k → ¬ U k) : VD w' base T p v os dp mb bn bs pv SD SF ps Ss :=
  ⟨fun k hk => by have := h.foot k hk; have := hc.size; omega, by have := h.bas; have := hc.size; omega, h.blk.chg hc (hU p h.inp), h.dir.keep hc (fun k hk => hU k (h.ind k hk)), h.map.chg hc (hU mb h.inm), h.pile.keep (ofThing base) hc (fun k hk => hU k (h.inf k hk)),
    h.inp, h.inm, h.ind, h.inf, h.pd, h.pf, h.md, h.mf, h.df⟩
theorem VD.below (h : VD w base T p v os dp mb bn bs pv SD SF ps Ss) (hb : Below w.heap.size w w') : VD w' base T p v os dp mb bn bs pv SD SF ps Ss := h.keep (Chg.of_below hb (Nat.le_refl _) (fun _ => False)) (fun _ _ h => h)
theorem VD.mono (h : VD w base T p v os dp mb bn bs pv SD SF ps Ss) (hT : ∀ k, T k → U k) (hf : ∀ k, U k → base ≤ k ∧ k < w.heap.size) : VD w base U p v os dp mb bn bs pv SD SF ps Ss :=
  ⟨hf, h.bas, h.blk, h.dir, h.map, h.pile, hT p h.inp, hT mb h.inm, fun k hk => hT k (h.ind k hk), fun k hk => hT k (h.inf k hk), h.pd, h.pf, h.md, h.mf, h.df⟩
/-- Its cells. -/
structure VCells (w : World) (p dp mb n : Nat) (v : VS) : Prop where
  c0 : w.cell? ⟨p, 0, none⟩ = some (.pointer (some ⟨dp, 0, none⟩))
  c1 : w.cell? ⟨p, 1, none⟩ = some (.map (some mb))
  c2 : w.cell? ⟨p, 2, none⟩ = some (.int .i64 n)
  c3 : w.cell? ⟨p, 3, none⟩ = some (.int .i64 v.room)
  c4 : w.cell? ⟨p, 4, none⟩ = some (.bool v.dead)
  c5 : w.cell? ⟨p, 5, none⟩ = some (.bool v.armed)
  c6 : w.cell? ⟨p, 6, none⟩ = some (.int .i64 v.fuse)
  f0 : w.frozen? ⟨p, 0, none⟩ = false
  f2 : w.frozen? ⟨p, 2, none⟩ = false
  f4 : w.frozen? ⟨p, 4, none⟩ = false
  f5 : w.frozen? ⟨p, 5, none⟩ = false
  f6 : w.frozen? ⟨p, 6, none⟩ = false
theorem diskCells {n : Nat} (hb : Blk w p 58 (diskC dp mb v n)) : VCells w p dp mb n v :=
  ⟨hb.cell 0, hb.cell 1, hb.cell 2, hb.cell 3, hb.cell 4, hb.cell 5, hb.cell 6, hb.frozen 0, hb.frozen 2, hb.frozen 4, hb.frozen 5, hb.frozen 6⟩
theorem VD.cells (h : VD w base T p v os dp mb bn bs pv SD SF ps Ss) : VCells w p dp mb os.length v := diskCells h.blk

/-- A disk that has turned since w0: of the blocks that were there those in T0 alone have. -/
structure VDT (w0 : World) (T0 : Nat → Prop) (w : World) (base p : Nat) (v : VS) (os : OsL) (dp mb bn bs : Nat) (pv : Value) (SD SF : Nat → Prop) (ps : List Nat) (Ss : List (Nat → Prop)) : Prop where
  foot0 : ∀ k, T0 k → base ≤ k ∧ k < w0.heap.size
  bas0 : base ≤ w0.heap.size
  chg : Chg T0 w0 w
  vd : VD w base (grow T0 w0 w) p v os dp mb bn bs pv SD SF ps Ss

theorem grow_trans {w1 : World} (h1 : w0.heap.size ≤ w.heap.size) (h2 : w.heap.size ≤ w1.heap.size) {k : Nat} (h : grow (grow T0 w0 w) w w1 k) : grow T0 w0 w1 k := by
  rcases h with (h | ⟨a, b⟩) | ⟨a, b⟩
  · exact .inl h
  · exact .inr ⟨a, by omega⟩
  · exact .inr ⟨by omega, b⟩
theorem chg_grow2 {w1 : World} (h1 : Chg T0 w0 w) (h2 : Chg (grow T0 w0 w) w w1) : Chg T0 w0 w1 := h1.trans h2 (fun k hk hg => by
  rcases hg with h | h
  · exact h
  · omega)
theorem VDT.start (h : VD w base T p v os dp mb bn bs pv SD SF ps Ss) : VDT w T w base p v os dp mb bn bs pv SD SF ps Ss :=
  ⟨h.foot, h.bas, Chg.refl _ _, h.mono (fun _ hk => .inl hk) (chg_lt h.foot (Chg.refl T w) h.bas)⟩
/-- What has turned it since. -/
theorem VDT.on {w1 : World} {v1 : VS} {os1 : OsL} {dp1 mb1 bn1 bs1 : Nat} {pv1 : Value} {SD1 SF1 : Nat → Prop} {ps1 : List Nat} {Ss1 : List (Nat → Prop)} (h : VDT w0 T0 w base p v os dp mb bn bs pv SD SF ps Ss)
    (hc : Chg (grow T0 w0 w) w w1) (hv : VD w1 base (grow (grow T0 w0 w) w w1) p v1 os1 dp1 mb1 bn1 bs1 pv1 SD1 SF1 ps1 Ss1) : VDT w0 T0 w1 base p v1 os1 dp1 mb1 bn1 bs1 pv1 SD1 SF1 ps1 Ss1 :=
  ⟨h.foot0, h.bas0, chg_grow2 h.chg hc, hv.mono (fun k hk => grow_trans h.chg.size hc.size hk) (chg_lt h.foot0 (chg_grow2 h.chg hc) h.bas0)⟩
theorem VDT.below (h : VDT w0 T0 w base p v os dp mb bn bs pv SD SF ps Ss) (hb : Below w.heap.size w w') : VDT w0 T0 w' base p v os dp mb bn bs pv SD SF ps Ss :=
  have hc := Chg.of_below hb (Nat.le_refl _) (grow T0 w0 w)
  h.on hc ((h.vd.below hb).mono (fun _ hk => .inl hk) (chg_lt h.vd.foot hc h.vd.bas))

/-- Its own block has turned. -/
theorem VD.block (h : VD w base T p v os dp mb bn bs pv SD SF ps Ss) (hc : Chg (fun k => k = p) w w') (hb : Blk w' p 58 (diskC dp mb v' os.length)) (hd : v'.d = v.d) : Chg T w w' ∧ VD w' base (grow T w w') p v' os dp mb bn bs pv SD SF ps Ss := by
  have hct : Chg T w w' := hc.mono (fun k _ e => by rw [e]; exact h.inp)
  refine ⟨hct, chg_lt h.foot hct h.bas, by have := h.bas; have := hc.size; omega, hb, by rw [hd]; exact h.dir.keep hc (fun k hk e => h.pd (e ▸ hk)), h.map.chg hc h.pm, h.pile.keep (ofThing base) hc (fun k hk e => h.pf (e ▸ hk)), .inl h.inp, .inl h.inm, fun k hk => .inl (h.ind k hk), fun k hk => .inl (h.inf k hk), h.pd, h.pf, h.md, h.mf, h.df⟩
theorem VDT.block (h : VDT w0 T0 w base p v os dp mb bn bs pv SD SF ps Ss) (hc : Chg (fun k => k = p) w w') (hb : Blk w' p 58 (diskC dp mb v' os.length)) (hd : v'.d = v.d) : VDT w0 T0 w' base p v' os dp mb bn bs pv SD SF ps Ss :=
  have ⟨h1, h2⟩ := h.vd.block hc hb hd
  h.on h1 h2
/-- Its directory has turned. -/
theorem VD.turnDir {d' : DB} (h : VD w base T p v os dp mb bn bs pv SD SF ps Ss) (hd : CDT base SD dp d' w w') : Chg T w w' ∧ ∃ bn' bs' pv', VD w' base (grow T w w') p { v with d := d' } os dp mb bn' bs' pv' (grow SD w w') SF ps Ss := by
  obtain ⟨hc, bn', bs', pv', hcd⟩ := hd
  have hct : Chg T w w' := hc.mono (fun k _ hk => h.ind k hk)
  have lt : ∀ k, T k → k < w.heap.size := fun k hk => (h.foot k hk).2
  refine ⟨hct, bn', bs', pv', chg_lt h.foot hct h.bas, by have := h.bas; have := hc.size; omega, h.blk.chg hc h.pd, hcd, h.map.chg hc h.md, h.pile.keep (ofThing base) hc (fun k hk hs => h.df k hs hk), .inl h.inp, .inl h.inm, fun k hk => ?_, fun k hk => .inl (h.inf k hk), fun hk => ?_, h.pf, fun hk => ?_, h.mf, fun k hk hf => ?_⟩
  · rcases hk with hk | hk
    · exact .inl (h.ind k hk)
    · exact .inr hk
  · rcases hk with hk | hk
    · exact h.pd hk
    · have := lt p h.inp; omega
  · rcases hk with hk | hk
    · exact h.md hk
    · have := lt mb h.inm; omega
  · rcases hk with hk | hk
    · exact h.df k hk hf
    · have := lt k (h.inf k hf); omega
theorem VDT.turnDir {d' : DB} (h : VDT w0 T0 w base p v os dp mb bn bs pv SD SF ps Ss) (hd : CDT base SD dp d' w w') : ∃ bn' bs' pv', VDT w0 T0 w' base p { v with d := d' } os dp mb bn' bs' pv' (grow SD w w') SF ps Ss :=
  have ⟨h1, bn', bs', pv', h2⟩ := h.vd.turnDir hd
  ⟨bn', bs', pv', h.on h1 h2⟩
/-- One of its files. -/
theorem VD.file (h : VD w base T p v os dp mb bn bs pv SD SF ps Ss) {k : Nat} {f : FS} (hf : os[k]? = some (some f)) : ∃ q S nv sv qv, ps[k]? = some q ∧ Ss[k]? = some S ∧ CF w base S q f nv sv qv ∧ (∀ j, S j → SF j) ∧ lookP ps os k = some q := by
  obtain ⟨q, S, h1, h2, h3, h4⟩ := h.pile.get hf
  obtain ⟨nv, sv, qv, h3⟩ := h3
  exact ⟨q, S, nv, sv, qv, h1, h2, h3, h4, by rw [lookP_of hf, h1]⟩
/-- One of its files has turned. -/
theorem VD.turnFile (h : VD w base T p v os dp mb bn bs pv SD SF ps Ss) {k q : Nat} {S : Nat → Prop} {f g : FS} (hf : os[k]? = some (some f)) (hq : ps[k]? = some q) (hS : Ss[k]? = some S) (hd : CFT base S q g w w') (hv : v'.d = v.d ∧ v'.room = v.room ∧ v'.fuse = v.fuse ∧ v'.armed = v.armed ∧ v'.dead = v.dead) :
    Chg T w w' ∧ VD w' base (grow T w w') p v' (os.set k (some g)) dp mb bn bs pv SD (grow SF w w') ps (Ss.set k (grow S w w')) := by
  obtain ⟨hc, nv, sv, qv, hcf⟩ := hd
  have hS2 := h.pile.inT k S hS
  have hct : Chg T w w' := hc.mono (fun j _ hj => h.inf j (hS2 j hj))
  have lt : ∀ k, T k → k < w.heap.size := fun k hk => (h.foot k hk).2
  have hp := h.pile.turn (ofThing base) hq hS hc (f := some g) ⟨nv, sv, qv, hcf⟩
  obtain ⟨e1, e2, e3, e4, e5⟩ := hv
  have hkl := (List.getElem?_eq_some_iff.1 hf).1
  refine ⟨hct, chg_lt h.foot hct h.bas, by have := h.bas; have := hc.size; omega, ?_, by rw [e1]; exact h.dir.keep hc (fun j hj hs => h.df j hj (hS2 j hs)), ?_, hp, .inl h.inp, .inl h.inm, fun j hj => .inl (h.ind j hj), fun j hj => ?_, h.pd, fun hk => ?_, h.md, fun hk => ?_, fun j hj hk => ?_⟩
  · have hb := h.blk.chg hc (fun hs => h.pf (hS2 p hs))
    unfold diskC at hb ⊢
    rw [e2, e3, e4, e5, List.length_set]
    exact hb
  · rw [List.length_set]
    refine (h.map.chg hc (fun hs => h.mf (hS2 mb hs))).congr (lookP_ext fun j => ?_)
    by_cases e : k = j
    · subst e
      rw [lookP_of hf, lookP_of (List.getElem?_set_self hkl)]
    · unfold lookP
      rw [if_pos (by omega), if_pos (by omega), Int.toNat_natCast, List.getElem?_set_ne e]
  · rcases hj with hj | hj
    · exact .inl (h.inf j hj)
    · exact .inr hj
  · rcases hk with hk | hk
    · exact h.pf hk
    · have := lt p h.inp; omega
  · rcases hk with hk | hk
    · exact h.mf hk
    · have := lt mb h.inm; omega
  · rcases hk with hk | hk
    · exact h.df j hj hk
    · have := lt j (h.ind j hj); omega
theorem VDT.turnFile (h : VDT w0 T0 w base p v os dp mb bn bs pv SD SF ps Ss) {k q : Nat} {S : Nat → Prop} {f g : FS} (hf : os[k]? = some (some f)) (hq : ps[k]? = some q) (hS : Ss[k]? = some S) (hd : CFT base S q g w w') (hv : v'.d = v.d ∧ v'.room = v.room ∧ v'.fuse = v.fuse ∧ v'.armed = v.armed ∧ v'.dead = v.dead) :
    VDT w0 T0 w' base p v' (os.set k (some g)) dp mb bn bs pv SD (grow SF w w') ps (Ss.set k (grow S w w')) :=
  have ⟨h1, h2⟩ := h.vd.turnFile hf hq hS hd hv
  h.on h1 h2
/-- Of a row of files some have been let go of. -/
theorem pile_less {w : World} {SF : Nat → Prop} {ps : List Nat} : ∀ {os os' : OsL} {Ss : List (Nat → Prop)}, Pile base (OF base) w SF ps Ss os → os'.length = os.length → (∀ (i : Nat) (f : FS), os'[i]? = some (some f) → os[i]? = some (some f)) → ∃ Ss', Pile base (OF base) w SF ps Ss' os' := by
  intro os os' Ss h hl hs
  refine ⟨(List.range os'.length).map (fun i => fun k => (∃ f, os'[i]? = some (some f)) ∧ ∃ S, Ss[i]? = some S ∧ S k), by rw [h.lenP, hl], by simp, fun i q S f h1 h2 h3 => ?_, fun i j S S' h1 h2 hne k hk hk2 => ?_, fun i S h1 k hk => ?_⟩
  · rw [List.getElem?_map, List.getElem?_range (List.getElem?_eq_some_iff.1 h3).1] at h2
    injection h2 with h2
    subst h2
    cases f with
    | none =>
      rintro k ⟨⟨f, hf⟩, _⟩
      rw [h3] at hf
      injection hf with hf
      cases hf
    | some f =>
      have hf := hs i f h3
      have hil : i < Ss.length := by rw [h.lenS]; exact (List.getElem?_eq_some_iff.1 hf).1
      have hS := List.getElem?_eq_getElem hil
      have ht := h.at_ i q _ _ h1 hS hf
      have e : (fun k => (∃ f, os'[i]? = some (some f)) ∧ ∃ S, Ss[i]? = some S ∧ S k) = Ss[i] := by
        funext k
        apply propext
        constructor
        · rintro ⟨_, S, hS2, hk⟩
          rw [hS] at hS2
          injection hS2 with hS2
          rw [hS2]; exact hk
        · exact fun hk => ⟨⟨f, h3⟩, _, hS, hk⟩
      show OF base w (fun k => (∃ f, os'[i]? = some (some f)) ∧ ∃ S, Ss[i]? = some S ∧ S k) q (some f)
      rw [e]
      exact ht
  · have i1 : i < os'.length := by have := (List.getElem?_eq_some_iff.1 h1).1; simpa using this
    have i2 : j < os'.length := by have := (List.getElem?_eq_some_iff.1 h2).1; simpa using this
    rw [List.getElem?_map, List.getElem?_range i1] at h1
    rw [List.getElem?_map, List.getElem?_range i2] at h2
    injection h1 with h1
    injection h2 with h2
    subst h1; subst h2
    obtain ⟨_, S1, e1, k1⟩ := hk
    obtain ⟨_, S2, e2, k2⟩ := hk2
    exact h.apart i j S1 S2 e1 e2 hne k k1 k2
  · have i1 : i < os'.length := by have := (List.getElem?_eq_some_iff.1 h1).1; simpa using this
    rw [List.getElem?_map, List.getElem?_range i1] at h1
    injection h1 with h1
    subst h1
    obtain ⟨_, S1, e1, k1⟩ := hk
    exact h.inT i S1 e1 k k1
/-- Its map has turned: some have been let go of. -/
theorem VD.less {os' : OsL} (h : VD w base T p v os dp mb bn bs pv SD SF ps Ss) (hl : os'.length = os.length) (hs : ∀ (i : Nat) (f : FS), os'[i]? = some (some f) → os[i]? = some (some f)) (hm : FMap w' mb os.length (lookP ps os')) (hc : Chg (fun k => k = mb) w w') :
    Chg T w w' ∧ ∃ Ss', VD w' base (grow T w w') p v os' dp mb bn bs pv SD SF ps Ss' := by
  have hct : Chg T w w' := hc.mono (fun k _ e => by rw [e]; exact h.inm)
  obtain ⟨Ss', hp⟩ := pile_less h.pile hl hs
  refine ⟨hct, Ss', chg_lt h.foot hct h.bas, by have := h.bas; have := hc.size; omega, by rw [hl]; exact h.blk.chg hc (fun e => h.pm e.symm), h.dir.keep hc (fun k hk e => h.md (e ▸ hk)), by rw [hl]; exact hm, hp.keep (ofThing base) hc (fun k hk e => h.mf (e ▸ hk)), .inl h.inp, .inl h.inm, fun k hk => .inl (h.ind k hk), fun k hk => .inl (h.inf k hk), h.pd, h.pf, h.md, h.mf, h.df⟩
theorem VDT.less {os' : OsL} (h : VDT w0 T0 w base p v os dp mb bn bs pv SD SF ps Ss) (hl : os'.length = os.length) (hs : ∀ (i : Nat) (f : FS), os'[i]? = some (some f) → os[i]? = some (some f)) (hm : FMap w' mb os.length (lookP ps os')) (hc : Chg (fun k => k = mb) w w') :
    ∃ Ss', VDT w0 T0 w' base p v os' dp mb bn bs pv SD SF ps Ss' :=
  have ⟨h1, Ss', h2⟩ := h.vd.less hl hs hm hc
  ⟨Ss', h.on h1 h2⟩
/-- Two files that are found lie at two places. -/
theorem VD.inj (h : VD w base T p v os dp mb bn bs pv SD SF ps Ss) {i j : Int} {q : Nat} (hi : lookP ps os i = some q) (hj : lookP ps os j = some q) : i = j := by
  obtain ⟨a, f, rfl, ha, pa⟩ := lookP_some hi
  obtain ⟨b, g, rfl, hb, pb⟩ := lookP_some hj
  by_cases e : a = b
  · rw [e]
  · have la : a < Ss.length := by rw [h.pile.lenS]; exact (List.getElem?_eq_some_iff.1 ha).1
    have lb : b < Ss.length := by rw [h.pile.lenS]; exact (List.getElem?_eq_some_iff.1 hb).1
    obtain ⟨_, _, _, c1⟩ := h.pile.at_ a q _ _ pa (List.getElem?_eq_getElem la) ha
    obtain ⟨_, _, _, c2⟩ := h.pile.at_ b q _ _ pb (List.getElem?_eq_getElem lb) hb
    exact absurd c2.inp (h.pile.apart a b _ _ (List.getElem?_eq_getElem la) (List.getElem?_eq_getElem lb) e q c1.inp)
end

/-- The program's disk, with all that it holds. -/
def VX (w : World) (base : Nat) (T : Nat → Prop) (p : Nat) (v : VS) (os : OsL) : Prop := ∃ dp mb bn bs pv SD SF ps Ss, VD w base T p v os dp mb bn bs pv SD SF ps Ss
/-- .. that has turned since w0. -/
def VXT (w0 : World) (T0 : Nat → Prop) (w : World) (base p : Nat) (v : VS) (os : OsL) : Prop := ∃ dp mb bn bs pv SD SF ps Ss, VDT w0 T0 w base p v os dp mb bn bs pv SD SF ps Ss

end Go.Proofs.YtclglbddibjenaaGreat
